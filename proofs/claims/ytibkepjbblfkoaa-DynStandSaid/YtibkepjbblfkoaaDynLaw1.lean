/- The walks of layer 17's lives, DynCodes. -/
import Derived.Test.YtibkepjbblfkoaaDynLen
import Derived.Test.YtibkepjbblfkoaaRefDyn1
namespace Go.Proofs.Ytibkepjbblfkoaa
set_option linter.unusedVariables false
set_option linter.unusedSimpArgs false
set_option maxRecDepth 100000
open Go.ChangeShapes Go.WideShapes Go.ChangeAt Go.RowKit

theorem lives17_c (w : World) : Calls Try.prog 13 #[] w fun e w' => e = .returned (.bool true) ∧ Keep [] w w' := by
  have h := dyn_lcode w 11 false (by decide)
  have hv : lcOf 11 false = (265, 1, 0, true) := by decide +kernel
  rw [hv] at h
  have H := Lib.hid h
  clear h hv
  go_enter Try.func13, Try.ntmps13
  go_wp2_with fail
  refine H.out.mono ?_; rintro e w1 ⟨rfl, k1⟩
  go_wp2_with fail
  go_ret
  exact ⟨rfl, k1⟩
set_option maxHeartbeats 1000000 in
theorem dyncodes_w (W : World) (code : Int) (hc : (Lit.int .i64 code).wf = true) (n : Int) (hn : (Lit.int .i64 n).wf = true) (large : Bool) : Calls Try.prog 3 #[.int .i64 code, .int .i64 n, .bool large] W fun e w' => e = .returned (.bool true) ∧ Keep [] W w' := by
  have H1 := Lib.hid (fun w => dyn_length w code large hc)
  have H2 := Lib.hid (fun w => rlen17_c w code large)
  have H3 := Lib.hid (fun w => dyn_distance w code large hc)
  have H4 := Lib.hid (fun w => rdist17_c w code large)
  have H5 := Lib.hid (fun w => dyn_lcode w n large hn)
  have H6 := Lib.hid (fun w => rlc17_c w n large)
  have H7 := Lib.hid (fun w => dyn_dcode w n large hn)
  have H8 := Lib.hid (fun w => rdc17_c w n large)
  obtain ⟨⟨a1, b1, o1⟩, h1⟩ : ∃ x, lenOf code large = x := ⟨_, rfl⟩
  obtain ⟨⟨a2, b2, o2⟩, h2⟩ : ∃ x, dstOf code large = x := ⟨_, rfl⟩
  obtain ⟨⟨a3, b3, c3, o3⟩, h3⟩ : ∃ x, lcOf n large = x := ⟨_, rfl⟩
  obtain ⟨⟨a4, b4, c4, o4⟩, h4⟩ : ∃ x, dcOf n large = x := ⟨_, rfl⟩
  rw [h1] at H1 H2
  rw [h2] at H3 H4
  rw [h3] at H5 H6
  rw [h4] at H7 H8
  clear h1 h2 h3 h4
  go_enter Try.func3, Try.ntmps3
  go_wp2_with fail
  refine (H1.out _).mono ?_; rintro e w1 ⟨rfl, k1⟩
  go_wp2_with fail
  refine (H2.out _).mono ?_; rintro e w1' ⟨rfl, rfl⟩
  go_wp2_with fail
  refine (H3.out _).mono ?_; rintro e w2 ⟨rfl, k2⟩
  go_wp2_with fail
  refine (H4.out _).mono ?_; rintro e w2' ⟨rfl, rfl⟩
  go_wp2_with fail
  refine (H5.out _).mono ?_; rintro e w3 ⟨rfl, k3⟩
  go_wp2_with fail
  refine (H6.out _).mono ?_; rintro e w3' ⟨rfl, rfl⟩
  go_wp2_with fail
  refine (H7.out _).mono ?_; rintro e w4 ⟨rfl, k4⟩
  go_wp2_with fail
  refine (H8.out _).mono ?_; rintro e w4' ⟨rfl, rfl⟩
  go_wp2_with fail
  refine (lives17_c _).mono ?_; rintro e w5 ⟨rfl, k5⟩
  go_wp2_with fail
  go_ret
  exact ⟨rfl, (((k1.trans k2 (by simp)).trans k3 (by simp)).trans k4 (by simp)).trans k5 (by simp)⟩
theorem lenOf_in (c : Nat) (large : Bool) (b e : Nat) (h : lenOf (c : Int) large = (b, e, true)) : c ≤ 285 ∧ b ≤ 258 ∧ e ≤ 16 := by
  by_cases hb : (c : Int) < 257 ∨ 285 < (c : Int)
  · unfold lenOf at h; rw [if_pos hb] at h; simp at h
  · obtain ⟨b', e', h2, h3, h4⟩ := len_ok (c - 257) large (by omega)
    rw [show 257 + (c - 257) = c by omega, h] at h2
    simp only [Prod.mk.injEq] at h2
    obtain ⟨rfl, rfl, -⟩ := h2
    exact ⟨by omega, h3, h4⟩
theorem dstOf_in (c : Nat) (large : Bool) (b e : Nat) (h : dstOf (c : Int) large = (b, e, true)) : c ≤ 31 ∧ b ≤ 49153 ∧ e ≤ 14 := by
  by_cases hb : (c : Int) < 0 ∨ 31 < (c : Int) ∨ (29 < (c : Int) ∧ large = false)
  · unfold dstOf at h; rw [if_pos hb] at h; simp at h
  · obtain ⟨b', e', o', h2, h3, h4⟩ := dst_le c large (by omega)
    rw [h] at h2
    simp only [Prod.mk.injEq] at h2
    obtain ⟨rfl, rfl, -⟩ := h2
    exact ⟨by omega, h3, h4⟩
theorem pow_shl (e : Nat) (he : e ≤ 16) : wrap64 ((2 : Int) ^ e) = ((2 ^ e : Nat) : Int) ∧ IntKind.i64.wrap ((2 : Int) ^ e) = ((2 ^ e : Nat) : Int) ∧ 2 ^ e ≤ 65536 := by
  have h : ∀ e : Fin 17, wrap64 ((2 : Int) ^ e.val) = ((2 ^ e.val : Nat) : Int) ∧ IntKind.i64.wrap ((2 : Int) ^ e.val) = ((2 ^ e.val : Nat) : Int) ∧ 2 ^ e.val ≤ 65536 := by decide +kernel
  exact h ⟨e, by omega⟩
theorem dynstand_w (W : World) (n : Int) (hn : (Lit.int .i64 n).wf = true) (large : Bool) : Calls Try.prog 4 #[.int .i64 n, .bool large] W fun e w' => e = .returned (.bool true) ∧ Keep [] W w' := by
  have H5 := Lib.hid (fun w => dyn_lcode w n large hn)
  have H7 := Lib.hid (fun w => dyn_dcode w n large hn)
  have L := lcOf_stand n large
  have D := dcOf_stand n large
  have LA : (lcOf n large).2.2.2 = false → ¬ (3 ≤ n ∧ n ≤ 258) := by
    intro h hb
    have := lcOf_all ⟨(n - 3).toNat, by omega⟩
    rw [show (((n - 3).toNat + 3 : Nat) : Int) = n by omega] at this
    cases large
    · rw [this.1] at h; cases h
    · rw [this.2] at h; cases h
  have DA : (dcOf n large).2.2.2 = false → ¬ (1 ≤ n ∧ n ≤ 32768) := by
    intro h hb
    rw [dcOf_all n large hb] at h; cases h
  obtain ⟨⟨c3, e3, x3, o3⟩, h3⟩ : ∃ x, lcOf n large = x := ⟨_, rfl⟩
  obtain ⟨⟨c4, e4, x4, o4⟩, h4⟩ : ∃ x, dcOf n large = x := ⟨_, rfl⟩
  rw [h3] at H5 L LA
  rw [h4] at H7 D DA
  clear h3 h4
  dsimp only at L D LA DA
  have HL := Lib.hid L
  have HD := Lib.hid D
  have HLA := Lib.hid LA
  have HDA := Lib.hid DA
  clear L D LA DA
  go_enter Try.func4, Try.ntmps4
  go_wp2_with fail
  refine (H5.out _).mono ?_; rintro e w1 ⟨rfl, k1⟩
  go_upto_if 23 with fail
  go_cut [] (fun wc => Keep [] W wc)
  case first =>
    cases o3 with
    | true =>
      obtain ⟨b, hl, hb, hx⟩ := HL.out rfl
      obtain ⟨hc, hb8, he⟩ := lenOf_in c3 large b e3 hl
      have H1 := dyn_length w1 c3 large (by simp [Lit.wf, IntKind.min, IntKind.max, IntKind.bits, IntKind.signed]; omega)
      rw [hl] at H1
      have H1' := Lib.hid H1
      obtain ⟨hs1, hs2, hs3⟩ := pow_shl e3 he
      obtain ⟨p, hp⟩ : ∃ p, 2 ^ e3 = p := ⟨_, rfl⟩
      rw [hp] at hx hs1 hs2 hs3
      have hw : IntKind.i64.wrap ((b : Int) + (x3 : Int)) = n := by rw [← hb, IntKind.wrap_i64]; omega
      have t8 : decide ((p : Int) ≤ (x3 : Int)) = false := by simp; omega
      have t8' : decide (p ≤ x3) = false := by simp; omega
      have t9 : decide ((x3 : Int) < 0) = false := by simp
      clear H1 hl hb hp hx
      go_wp2_with fail
      refine H1'.out.mono ?_; rintro e w2 ⟨rfl, k2⟩
      go_wp2_with fail
      go_meet
      exact k1.trans k2 (by simp)
    | false =>
      have hno := HLA.out rfl
      by_cases h3 : 3 ≤ n
      · have t1 : decide (3 ≤ n) = true := by simpa using h3
        have t2 : decide (n ≤ 258) = false := by simp; omega
        clear hno h3
        go_wp2_with fail
        go_meet
        exact k1
      · have t1 : decide (3 ≤ n) = false := by simpa using h3
        clear hno h3
        go_wp2_with fail
        go_meet
        exact k1
  case rest =>
    clear HL HLA H5
    clear k1
    have kc := hcut
    clear hcut
    go_wp2_with fail
    refine (H7.out _).mono ?_; rintro e w2 ⟨rfl, k2⟩
    cases o4 with
    | true =>
      obtain ⟨b, hl, hb, hx⟩ := HD.out rfl
      obtain ⟨hc, hb8, he⟩ := dstOf_in c4 large b e4 hl
      have H1 := dyn_distance w2 c4 large (by simp [Lit.wf, IntKind.min, IntKind.max, IntKind.bits, IntKind.signed]; omega)
      rw [hl] at H1
      have H1' := Lib.hid H1
      obtain ⟨hs1, hs2, hs3⟩ := pow_shl e4 (by omega)
      obtain ⟨p, hp⟩ : ∃ p, 2 ^ e4 = p := ⟨_, rfl⟩
      rw [hp] at hx hs1 hs2 hs3
      have hw : IntKind.i64.wrap ((b : Int) + (x4 : Int)) = n := by rw [← hb, IntKind.wrap_i64]; omega
      have t8 : decide ((x4 : Int) < (p : Int)) = true := by simp; omega
      have t8' : decide (x4 < p) = true := by simp; omega
      have t9 : decide (0 ≤ (x4 : Int)) = true := by simp
      clear H1 hl hb hp hx
      go_wp2_with fail
      refine H1'.out.mono ?_; rintro e w3 ⟨rfl, k3⟩
      go_wp2_with fail
      refine (lives17_c _).mono ?_; rintro e w5 ⟨rfl, k5⟩
      go_wp2_with fail
      go_ret
      exact ⟨rfl, ((kc.trans k2 (by simp)).trans k3 (by simp)).trans k5 (by simp)⟩
    | false =>
      have hno := HDA.out rfl
      by_cases h3 : n < 1
      · have t1 : decide (n < 1) = true := by simpa using h3
        clear hno h3
        go_wp2_with fail
        refine (lives17_c _).mono ?_; rintro e w5 ⟨rfl, k5⟩
        go_wp2_with fail
        go_ret
        exact ⟨rfl, (kc.trans k2 (by simp)).trans k5 (by simp)⟩
      · have t1 : decide (n < 1) = false := by simpa using h3
        have t2 : decide (32768 < n) = true := by simp; omega
        clear hno h3
        go_wp2_with fail
        refine (lives17_c _).mono ?_; rintro e w5 ⟨rfl, k5⟩
        go_wp2_with fail
        go_ret
        exact ⟨rfl, (kc.trans k2 (by simp)).trans k5 (by simp)⟩
end Go.Proofs.Ytibkepjbblfkoaa
