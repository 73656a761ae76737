/- Texts put together: RedLaw1 RedLaw2 RedLaw3 -/
import Derived.Test.YteahcpkaagjkkaaPart29
import Derived.Test.YteahcpkaagjkkaaPart30
import Derived.Test.YteahcpkaagjkkaaPart26
import Derived.Test.YteahcpkaagjkkaaPart3
import Derived.Lib.SlBytesConst
import Derived.Test.YteahcpkaagjkkaaPart1
namespace Go.Proofs.Yteahcpkaagjkkaa
set_option linter.unusedVariables false
set_option linter.unusedSimpArgs false
set_option maxRecDepth 100000
open Go.ChangeShapes Go.WideShapes Go.ChangeAt Go.RowKit

theorem refred_encode (w : World) (v : Value) (b : List UInt8) (f : Int) (hb : Bs w v b) (hl : b.length ≤ 100000) : Calls Try.prog 15 #[v, .int .i64 f] w fun e w' => ∃ v', e = .returned (.tuple #[v', .int .i64 (enc14I b f).2]) ∧ Bs w' v' (enc14I b f).1 ∧ Keep [] w w' := by
  unfold enc14I
  by_cases h : f < 1 ∨ 4 < f
  · rw [if_pos h]
    refine (refenc14_bad w v f h).mono ?_
    rintro e w' ⟨rfl, rfl⟩
    exact ⟨_, rfl, Bs.nil _, Keep.refl _ _⟩
  · rw [if_neg h]
    obtain ⟨n, rfl⟩ : ∃ n : Nat, f = n := ⟨f.toNat, by omega⟩
    exact refenc14_c w v b n hb hl (by omega) (by omega)
theorem refred_decode (w : World) (v : Value) (b : List UInt8) (f size : Int) (hb : Bs w v b) (hl : b.length ≤ 100000) (hf : (Lit.int .i64 f).wf = true) (hs : (Lit.int .i64 size).wf = true) : Calls Try.prog 11 #[v, .int .i64 f, .int .i64 size] w fun e w' => ∃ v', e = .returned (.tuple #[v', .int .i64 (dec14 b f size).2.1, .int .i64 (dec14 b f size).2.2]) ∧ Bs w' v' (dec14 b f size).1 ∧ Keep [] w w' := by
  by_cases h : f < 1 ∨ 4 < f ∨ size < 0
  · have hd : dec14 b f size = ([], 0, 2) := by unfold dec14; rw [if_pos h]
    rw [hd]
    refine (refdec14_bad w v f size h).mono ?_
    rintro e w' ⟨rfl, k⟩
    exact ⟨_, rfl, Bs.nil _, k⟩
  · obtain ⟨n, rfl⟩ : ∃ n : Nat, f = n := ⟨f.toNat, by omega⟩
    obtain ⟨m, rfl⟩ : ∃ m : Nat, size = m := ⟨size.toNat, by omega⟩
    have hs2 : ((m : Nat) : Int) ≤ 9223372036854775807 := by
      have : -9223372036854775808 ≤ ((m : Nat) : Int) ∧ ((m : Nat) : Int) ≤ 9223372036854775807 := by simpa [Lit.wf, IntKind.min, IntKind.max, IntKind.bits, IntKind.signed] using hs
      exact this.2
    exact refdec14_c w v b n m hb hl (by omega) (by omega) hs2
set_option maxHeartbeats 2000000 in
theorem lives14_c (w : World) : Calls Try.prog 13 #[] w fun e w' => e = .returned (.bool true) ∧ Keep [] w w' := by
  have hE : enc14I [97] 1 = (List.replicate 192 0 ++ [97], 0) := by
    unfold enc14I; rw [if_neg (by decide)]; exact congrArg (fun x => (x, 0)) enc14_a
  have H := Lib.hid (fun ww v (hb : Bs ww v [97]) => red_encode ww v [97] 1 hb (by decide))
  rw [hE] at H
  have hg : (List.replicate 192 (0 : UInt8) ++ [97])[192]? = some 97 := by
    rw [List.getElem?_append_right (by simp)]; simp
  have hlen : (List.replicate 192 (0 : UInt8) ++ [97]).length = 193 := by rw [List.length_append, List.length_replicate]; rfl
  generalize List.replicate 192 (0 : UInt8) ++ [97] = X at H hg hlen
  have HG := Lib.hid hg
  have hcv := fun C => Lib.run_convert_bytes_const (P := Try.prog) w 22 5 C 1 1 Try.underlying22 Try.underlying5
  have hb : Bs (w.alloc (.cells #[.int .u8 97] 5 (1, 1 + 1))) (.slice (some ⟨w.heap.size, 0, none⟩) 1 1) [97] := Bs.litF w _ _ 1 (1, 1 + 1) rfl rfl (by decide)
  have HK := Lib.hid (((Keep.refl [] w).alloc (.cells #[.int .u8 97] 5 (1, 1 + 1))))
  have H1 := Lib.hid (H.out _ _ hb)
  clear hE hg hb H
  go_enter Try.func13, Try.ntmps13
  go_wp2_with fail
  refine H1.out.mono ?_; rintro e w2 ⟨v2, rfl, h2, k2⟩
  have K2 := HK.out.trans k2 (by simp)
  have h192 : (192 : Nat) < X.length := by omega
  obtain ⟨b0, o0, cp0, rfl, cellW⟩ := h2.spot 192 h192
  have hx : X[192] = 97 := by
    have := HG.out
    rw [List.getElem?_eq_getElem h192] at this
    exact Option.some.inj this
  rw [hx] at cellW
  have cellW' : w2.cell? ⟨b0, o0 + 192, none⟩ = some (.int .u8 97) := cellW
  rw [hlen]
  clear hx cellW h2 k2 h192 hcv
  go_wp2_with fail
  go_ret
  exact ⟨rfl, K2⟩
set_option maxHeartbeats 2000000 in
theorem redwrites_w (W : World) (v0 : Value) (l0 : List UInt8) (h0 : Bs W v0 l0) (f : Int) (hf : (Lit.int .i64 f).wf = true) : Calls Try.prog 4 #[v0, .int .i64 f] W fun e w' => e = .returned (.bool true) ∧ Keep [] W w' := by
  clear hf
  go_enter Try.func4, Try.ntmps4
  go_wp2_with fail
  refine (cut_c W v0 l0 200 (by decide) h0).mono ?_; rintro e w1 ⟨v1, rfl, h1, -, rfl⟩
  have hlen : (l0.take 200).length ≤ 200 := by rw [List.length_take]; omega
  generalize l0.take 200 = l at h1 hlen
  clear h0
  go_wp2_with fail
  refine (copy_c W v1 l (by omega) h1).mono ?_; rintro e w2 ⟨v2, rfl, h2, k2, b2⟩
  have h1' := h1.keep k2 (by simp)
  have c1 := red_encode w2 v2 l f h2.bs (by omega)
  have c2 := fun w3 v3 (h3 : Bs w3 v3 l) => refred_encode w3 v3 l f h3 (by omega)
  generalize enc14I l f = E at c1 c2
  obtain ⟨X, er⟩ := E
  dsimp only at c1 c2
  have HC1 := Lib.hid c1; have HC2 := Lib.hid c2; clear c1 c2
  go_wp2_with fail
  refine HC1.out.mono ?_; rintro e w3 ⟨v3, rfl, h3, k3⟩
  have h1'' := h1'.keep k3 (by simp)
  have h2' := h2.bs.keep k3 (by simp)
  go_wp2_with fail
  refine (HC2.out w3 v1 h1'').mono ?_; rintro e w4 ⟨v4, rfl, h4, k4⟩
  have h3' := h3.keep k4 (by simp)
  have g1 := h1''.keep k4 (by simp)
  have g2 := h2'.keep k4 (by simp)
  have KK : Keep [] W w4 := ((k2.trans k3 (by simp)).trans k4 (by simp))
  have s1 := same_c w4 v3 v4 X X h3' h4
  simp only [decide_true] at s1
  have HS1 := Lib.hid s1; clear s1
  go_wp2_with fail
  refine HS1.out.mono ?_; rintro e w5 ⟨rfl, n5, rfl⟩
  have s2 := same_c (w4.drewN n5) v2 v1 l l (g2.keep ((Keep.refl [] w4).drewN n5) (by simp)) (g1.keep ((Keep.refl [] w4).drewN n5) (by simp))
  simp only [decide_true] at s2
  have HS2 := Lib.hid s2; clear s2
  go_wp2_with fail
  refine HS2.out.mono ?_; rintro e w6 ⟨rfl, n6, rfl⟩
  have K6 : Keep [] W ((w4.drewN n5).drewN n6) := (KK.drewN _).drewN _
  generalize (w4.drewN n5).drewN n6 = w6 at K6 ⊢
  go_wp2_with fail
  refine (lives14_c w6).mono ?_; rintro e w7 ⟨rfl, k7⟩
  go_wp2_with fail
  go_ret
  exact ⟨rfl, K6.trans k7 (by simp)⟩
end Go.Proofs.Yteahcpkaagjkkaa
namespace Go.Proofs.Yteahcpkaagjkkaa
set_option linter.unusedVariables false
set_option linter.unusedSimpArgs false
set_option maxRecDepth 100000
open Go.ChangeShapes Go.WideShapes Go.ChangeAt Go.RowKit

set_option maxHeartbeats 2000000 in
theorem redreads_w (W : World) (v0 : Value) (l0 : List UInt8) (h0 : Bs W v0 l0) (f : Int) (hf : (Lit.int .i64 f).wf = true) (size : Int) (hs : (Lit.int .i64 size).wf = true) : Calls Try.prog 3 #[v0, .int .i64 f, .int .i64 size] W fun e w' => e = .returned (.bool true) ∧ Keep [] W w' := by
  have c1 := fun w3 v3 l (h3 : Bs w3 v3 l) (hl : l.length ≤ 100000) => red_decode w3 v3 l f size h3 hl hf hs
  have c2 := fun w3 v3 l (h3 : Bs w3 v3 l) (hl : l.length ≤ 100000) => refred_decode w3 v3 l f size h3 hl hf hs
  have HC1 := Lib.hid c1; have HC2 := Lib.hid c2; clear c1 c2 hf hs
  go_enter Try.func3, Try.ntmps3
  go_wp2_with fail
  refine (cut_c W v0 l0 600 (by decide) h0).mono ?_; rintro e w1 ⟨v1, rfl, h1, -, rfl⟩
  have hlen : (l0.take 600).length ≤ 600 := by rw [List.length_take]; omega
  generalize l0.take 600 = l at h1 hlen
  clear h0
  go_wp2_with fail
  refine (copy_c W v1 l (by omega) h1).mono ?_; rintro e w2 ⟨v2, rfl, h2, k2, b2⟩
  have h1' := h1.keep k2 (by simp)
  have d1 := HC1.out w2 v2 l h2.bs (by omega)
  have d2 := fun w3 v3 (h3 : Bs w3 v3 l) => HC2.out w3 v3 l h3 (by omega)
  generalize dec14 l f size = D at d1 d2
  obtain ⟨X, n, er⟩ := D
  dsimp only at d1 d2
  have HD1 := Lib.hid d1; have HD2 := Lib.hid d2; clear d1 d2
  go_wp2_with fail
  refine HD1.out.mono ?_; rintro e w3 ⟨v3, rfl, h3, k3⟩
  have h1'' := h1'.keep k3 (by simp)
  have h2' := h2.bs.keep k3 (by simp)
  go_wp2_with fail
  refine (HD2.out w3 v1 h1'').mono ?_; rintro e w4 ⟨v4, rfl, h4, k4⟩
  have h3' := h3.keep k4 (by simp)
  have g1 := h1''.keep k4 (by simp)
  have g2 := h2'.keep k4 (by simp)
  have KK : Keep [] W w4 := ((k2.trans k3 (by simp)).trans k4 (by simp))
  have s1 := same_c w4 v3 v4 X X h3' h4
  simp only [decide_true] at s1
  have HS1 := Lib.hid s1; clear s1
  go_wp2_with fail
  refine HS1.out.mono ?_; rintro e w5 ⟨rfl, n5, rfl⟩
  have s2 := same_c (w4.drewN n5) v2 v1 l l (g2.keep ((Keep.refl [] w4).drewN n5) (by simp)) (g1.keep ((Keep.refl [] w4).drewN n5) (by simp))
  simp only [decide_true] at s2
  have HS2 := Lib.hid s2; clear s2
  go_wp2_with fail
  refine HS2.out.mono ?_; rintro e w6 ⟨rfl, n6, rfl⟩
  have K6 : Keep [] W ((w4.drewN n5).drewN n6) := (KK.drewN _).drewN _
  generalize (w4.drewN n5).drewN n6 = w6 at K6 ⊢
  go_wp2_with fail
  refine (lives14_c w6).mono ?_; rintro e w7 ⟨rfl, k7⟩
  go_wp2_with fail
  go_ret
  exact ⟨rfl, K6.trans k7 (by simp)⟩
set_option maxHeartbeats 2000000 in
theorem redbounds_w (W : World) (v0 : Value) (l0 : List UInt8) (h0 : Bs W v0 l0) (f : Int) (hf : (Lit.int .i64 f).wf = true) (size : Int) (hs : (Lit.int .i64 size).wf = true) : Calls Try.prog 6 #[v0, .int .i64 f, .int .i64 size] W fun e w' => e = .returned (.bool true) ∧ Keep [] W w' := by
  have c1 := fun w3 v3 l (h3 : Bs w3 v3 l) (hl : l.length ≤ 100000) => red_decode w3 v3 l f size h3 hl hf hs
  have HC1 := Lib.hid c1; clear c1 hf hs
  go_enter Try.func6, Try.ntmps6
  go_wp2_with fail
  refine (cut_c W v0 l0 600 (by decide) h0).mono ?_; rintro e w1 ⟨v1, rfl, h1, -, rfl⟩
  have hlen : (l0.take 600).length ≤ 600 := by rw [List.length_take]; omega
  generalize l0.take 600 = l at h1 hlen
  clear h0
  obtain ⟨a1, cp1, rfl, _⟩ := h1.shape
  have d1 := HC1.out W _ l h1 (by omega)
  have hok := dec14_ok l f size
  generalize dec14 l f size = D at d1 hok
  obtain ⟨X, n, er⟩ := D
  dsimp only at d1 hok
  have HD1 := Lib.hid d1; clear d1
  go_wp2_with fail
  refine HD1.out.mono ?_; rintro e w3 ⟨v3, rfl, h3, k3⟩
  obtain ⟨a3, cp3, rfl, _⟩ := h3.shape
  clear HD1 HC1 h1 h3
  rcases hok with ⟨rfl, o2, o3, o4, o5⟩ | ⟨o1, o2, o3⟩
  · have q1 : ((X.length : Int) == size) = true := by simpa using o2
    have q2 : decide ((n : Int) ≤ 4 * (l.length : Int)) = true := by simp; omega
    have q2' : decide (n ≤ 4 * l.length) = true := by simpa using o3
    have q3 : decide ((1 : Int) ≤ f) = true := by simpa using o4
    have q4 : decide (f ≤ 4) = true := by simpa using o5
    have q5 : IntKind.i64.wrap (4 * (l.length : Int)) = 4 * l.length := by rw [IntKind.wrap_i64]; omega
    clear o2 o3 o4 o5
    go_wp2_with fail
    refine (lives14_c _).mono ?_; rintro e w7 ⟨rfl, k7⟩
    go_wp2_with fail
    go_ret
    exact ⟨rfl, k3.trans k7 (by simp)⟩
  · have q1 : ((er : Int) != 0) = true := by simp; omega
    subst o2 o3
    clear o1
    go_wp2_with fail
    refine (lives14_c _).mono ?_; rintro e w7 ⟨rfl, k7⟩
    go_wp2_with fail
    go_ret
    exact ⟨rfl, k3.trans k7 (by simp)⟩
end Go.Proofs.Yteahcpkaagjkkaa
namespace Go.Proofs.Yteahcpkaagjkkaa
set_option linter.unusedVariables false
set_option linter.unusedSimpArgs false
set_option maxRecDepth 100000
open Go.ChangeShapes Go.WideShapes Go.ChangeAt Go.RowKit

theorem wf_small (n : Nat) (h : n ≤ 100000) : (Lit.int .i64 (n : Int)).wf = true := by simp [Lit.wf, IntKind.min, IntKind.max, IntKind.bits, IntKind.signed]; omega
theorem within4 (f0 : Int) : ∃ f : Nat, max 1 (min f0 4) = (f : Int) ∧ 1 ≤ f ∧ f ≤ 4 := ⟨(max 1 (min f0 4)).toNat, by omega, by omega, by omega⟩
theorem enc14I_of (b : List UInt8) (f : Nat) (h1 : 1 ≤ f) (h2 : f ≤ 4) : enc14I b f = (enc14 f b, 0) := by
  unfold enc14I; rw [if_neg (by omega), Int.toNat_natCast]
set_option maxHeartbeats 2000000 in
theorem redback_w (W : World) (v0 : Value) (l0 : List UInt8) (h0 : Bs W v0 l0) (f0 : Int) (hf0 : (Lit.int .i64 f0).wf = true) : Calls Try.prog 5 #[v0, .int .i64 f0] W fun e w' => e = .returned (.bool true) ∧ Keep [] W w' := by
  have HW2 := Lib.hid (fun w => within_c f0 1 4 w (by decide))
  obtain ⟨f, hf, f1, f4⟩ := within4 f0
  rw [hf] at HW2
  clear hf hf0
  go_enter Try.func5, Try.ntmps5
  go_wp2_with fail
  refine (cut_c W v0 l0 1500 (by decide) h0).mono ?_; rintro e w1 ⟨v1, rfl, h1, -, rfl⟩
  have hlen : (l0.take 1500).length ≤ 1500 := by rw [List.length_take]; omega
  generalize l0.take 1500 = l at h1 hlen
  clear h0
  obtain ⟨a1, cp1, rfl, _⟩ := h1.shape
  go_wp2_with fail
  refine (HW2.out _).mono ?_; rintro e w1 ⟨rfl, rfl⟩
  have c1 := red_encode W _ l f h1 (by omega)
  rw [enc14I_of l f f1 f4] at c1
  have hc := enc14_len f f1 f4 l
  have hd := dec14_enc f f1 f4 l
  have hok := dec14_ok (enc14 f l) f l.length
  rw [hd] at hok
  generalize enc14 f l = C at c1 hc hd hok
  generalize (enc13 f l).length = n at hd hok
  dsimp only at c1 hok
  have hn4 : n ≤ 4 * C.length := by
    rcases hok with ⟨_, _, o3, _⟩ | ⟨o1, _⟩
    · exact o3
    · exact absurd rfl o1
  have HD := Lib.hid hd
  have q1 : decide (2 * (l.length : Int) + 192 < (C.length : Int)) = false := by simp; omega
  have q2 : IntKind.i64.wrap (2 * (l.length : Int)) = 2 * l.length := by rw [IntKind.wrap_i64]; omega
  have q3 : IntKind.i64.wrap (2 * (l.length : Int) + 192) = 2 * l.length + 192 := by rw [IntKind.wrap_i64]; omega
  have q4 : IntKind.i64.wrap (4 * (C.length : Int)) = 4 * C.length := by rw [IntKind.wrap_i64]; omega
  have q5 : decide ((n : Int) ≤ 4 * (C.length : Int)) = true := by simp; omega
  have q5' : decide (n ≤ 4 * C.length) = true := by simpa using hn4
  have HC1 := Lib.hid c1
  clear c1 hd hok hn4
  go_wp2_with fail
  refine HC1.out.mono ?_; rintro e w2 ⟨v2, rfl, h2, k2⟩
  have h1' := h1.keep k2 (by simp)
  have d1 := red_decode w2 v2 C f l.length h2 (by omega) (wf_small _ (by omega)) (wf_small _ (by omega))
  have d2 := fun w3 v3 (h3 : Bs w3 v3 C) => refred_decode w3 v3 C f l.length h3 (by omega) (wf_small _ (by omega)) (wf_small _ (by omega))
  rw [HD.out] at d1
  simp only [HD.out] at d2
  dsimp only at d1
  have HD1 := Lib.hid d1; have HD2 := Lib.hid d2
  obtain ⟨a2, cp2, rfl, _⟩ := h2.shape
  clear d1 d2 HC1
  go_wp2_with fail
  refine HD1.out.mono ?_; rintro e w3 ⟨v3, rfl, h3, k3⟩
  go_wp2_with fail
  refine (HD2.out w3 _ (h2.keep k3 (by simp))).mono ?_; rintro e w4 ⟨v4, rfl, h4, k4⟩
  have KK : Keep [] W w4 := (k2.trans k3 (by simp)).trans k4 (by simp)
  have g1 := h1.keep KK (by simp)
  have h3' := h3.keep k4 (by simp)
  have s1 := same_c w4 v3 _ l l h3' g1
  simp only [decide_true] at s1
  have HS1 := Lib.hid s1; clear s1
  clear HD1 HD2
  go_wp2_with fail
  refine HS1.out.mono ?_; rintro e w5 ⟨rfl, n5, rfl⟩
  have s2 := same_c (w4.drewN n5) v4 _ l l (h4.keep ((Keep.refl [] w4).drewN n5) (by simp)) (g1.keep ((Keep.refl [] w4).drewN n5) (by simp))
  simp only [decide_true] at s2
  have HS2 := Lib.hid s2; clear s2
  go_wp2_with fail
  refine HS2.out.mono ?_; rintro e w6 ⟨rfl, n6, rfl⟩
  have K6 : Keep [] W ((w4.drewN n5).drewN n6) := (KK.drewN _).drewN _
  generalize (w4.drewN n5).drewN n6 = w6 at K6 ⊢
  go_wp2_with fail
  refine (lives14_c w6).mono ?_; rintro e w7 ⟨rfl, k7⟩
  go_wp2_with fail
  go_ret
  exact ⟨rfl, K6.trans k7 (by simp)⟩
set_option maxHeartbeats 2000000 in
theorem redother_w (W : World) (v0 : Value) (l0 : List UInt8) (h0 : Bs W v0 l0) (f0 : Int) (hf0 : (Lit.int .i64 f0).wf = true) (size : Int) (hs : (Lit.int .i64 size).wf = true) : Calls Try.prog 7 #[v0, .int .i64 f0, .int .i64 size] W fun e w' => e = .returned (.bool true) ∧ Keep [] W w' := by
  have HW2 := Lib.hid (fun w => within_c f0 1 4 w (by decide))
  obtain ⟨f, hf, f1, f4⟩ := within4 f0
  rw [hf] at HW2
  have HDD := Lib.hid (fun w3 v3 l (h3 : Bs w3 v3 l) (hl : l.length ≤ 100000) => red_decode w3 v3 l f size h3 hl (wf_small f (by omega)) hs)
  clear hf hf0 hs
  go_enter Try.func7, Try.ntmps7
  go_wp2_with fail
  refine (cut_c W v0 l0 300 (by decide) h0).mono ?_; rintro e w1 ⟨v1, rfl, h1, -, rfl⟩
  have hlen : (l0.take 300).length ≤ 300 := by rw [List.length_take]; omega
  generalize l0.take 300 = l at h1 hlen
  clear h0
  obtain ⟨a1, cp1, rfl, _⟩ := h1.shape
  go_wp2_with fail
  refine (HW2.out _).mono ?_; rintro e w1 ⟨rfl, rfl⟩
  have c1 := red_encode W _ l f h1 (by omega)
  rw [enc14I_of l f f1 f4] at c1
  have hc := enc14_len f f1 f4 l
  have hd := dec14_enc f f1 f4 l
  have hok := dec14_ok (enc14 f l) f size
  generalize enc14 f l = C at c1 hc hd hok
  dsimp only at c1
  have HC1 := Lib.hid c1
  clear c1
  go_wp2_with fail
  refine HC1.out.mono ?_; rintro e w2 ⟨v2, rfl, h2, k2⟩
  have d1 := HDD.out w2 v2 C h2 (by omega)
  have hself : size = (l.length : Int) → dec14 C f size = (l, (enc13 f l).length, 0) := fun e => by rw [e]; exact hd
  obtain ⟨D, hD⟩ : ∃ D, dec14 C f size = D := ⟨_, rfl⟩
  rw [hD] at d1 hok hself
  obtain ⟨X, n, er⟩ := D
  dsimp only at d1 hok
  have HD1 := Lib.hid d1
  clear d1 hd hD HC1 HDD
  go_wp2_with fail
  refine HD1.out.mono ?_; rintro e w3 ⟨v3, rfl, h3, k3⟩
  have K3 : Keep [] W w3 := k2.trans k3 (by simp)
  have g1 := h1.keep K3 (by simp)
  have HSM := Lib.hid (same_c w3 v3 _ X l h3 g1)
  obtain ⟨a3, cp3, rfl, _⟩ := h3.shape
  clear HD1
  rcases hok with ⟨rfl, o2, o3, o4, o5⟩ | ⟨o1, o2, o3⟩
  · have q1 : ((X.length : Int) == size) = true := by simpa using o2
    by_cases hsz : size = (l.length : Int)
    · have hxl : X = l := by have := hself hsz; exact (Prod.mk.inj this).1
      rw [decide_eq_true hxl] at HSM
      clear o2 o3 o4 o5 hself q1
      subst hsz
      subst hxl
      have q2 : ((X.length : Int) == (X.length : Int)) = true := by simp
      have q3 : ((X.length : Int) != (X.length : Int)) = false := by simp
      go_wp2_with fail
      refine HSM.out.mono ?_; rintro e w5 ⟨rfl, n5, rfl⟩
      have K6 := K3.drewN n5
      generalize w3.drewN n5 = w6 at K6 ⊢
      go_wp2_with fail
      refine (lives14_c _).mono ?_; rintro e w7 ⟨rfl, k7⟩
      go_wp2_with fail
      go_ret
      exact ⟨rfl, K6.trans k7 (by simp)⟩
    · have hxl : ¬ X = l := fun e => hsz (by rw [← o2, e])
      have q2 : (size == (l.length : Int)) = false := by rw [beq_eq_false_iff_ne]; exact hsz
      rw [decide_eq_false hxl] at HSM
      have q3 : (size != (l.length : Int)) = true := by simpa using hsz
      clear o2 o3 o4 o5 hself hxl hsz
      go_wp2_with fail
      refine HSM.out.mono ?_; rintro e w5 ⟨rfl, n5, rfl⟩
      have K6 := K3.drewN n5
      generalize w3.drewN n5 = w6 at K6 ⊢
      go_wp2_with fail
      refine (lives14_c _).mono ?_; rintro e w7 ⟨rfl, k7⟩
      go_wp2_with fail
      go_ret
      exact ⟨rfl, K6.trans k7 (by simp)⟩
  · have hsz : ¬ size = (l.length : Int) := fun e => o1 (by have := hself e; simp only [Prod.mk.injEq] at this; exact this.2.2)
    have q1 : ((er : Int) != 0) = true := by simp; omega
    have q2 : ((er : Int) == 0) = false := by rw [beq_eq_false_iff_ne]; omega
    have q3 : (size != (l.length : Int)) = true := by simpa using hsz
    subst o2
    clear o1 o3 hself hsz HSM
    go_wp2_with fail
    refine (lives14_c _).mono ?_; rintro e w7 ⟨rfl, k7⟩
    go_wp2_with fail
    go_ret
    exact ⟨rfl, K3.trans k7 (by simp)⟩
end Go.Proofs.Yteahcpkaagjkkaa
