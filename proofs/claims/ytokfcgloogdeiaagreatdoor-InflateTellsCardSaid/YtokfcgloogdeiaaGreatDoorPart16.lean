/- Texts put together: RefDyn1 -/
import Derived.Test.YtokfcgloogdeiaaGreatDoorPart4
import Derived.Test.YtokfcgloogdeiaaGreatDoorPart3
import Derived.Test.YtokfcgloogdeiaaGreatDoorPart6
import Derived.Test.YtokfcgloogdeiaaGreatDoorPart1
namespace Go.Proofs.YtokfcgloogdeiaaGreatDoor
set_option linter.unusedVariables false
set_option linter.unusedSimpArgs false
set_option maxRecDepth 100000
open Go.ChangeShapes Go.WideShapes Go.ChangeAt Go.RowKit

theorem two17_c (w : World) (n : Nat) (hn : n ≤ 20) : Calls Tryz.prog 57 #[.int .i64 n] w fun e w' => e = .returned (.int .i64 (2 ^ n : Nat)) ∧ w = w' := by
  obtain ⟨p, hp⟩ : ∃ p, 2 ^ n = p := ⟨_, rfl⟩
  rw [hp]
  have HP := Lib.hid hp
  clear hp
  go_enter Tryz.func57, Tryz.ntmps57
  go_wp2_with fail
  go_loopw [3, 4] (fun xv iv wr => ∃ (k x : Nat), xv = .int .i64 x ∧ iv = .int .i64 k ∧ Hid (x = 2 ^ k) ∧ x ≤ 1048576 ∧ k ≤ n ∧ wr = w) (fun _ iv _ => n - (intOf iv).toNat)
  case atStart => exact ⟨0, 1, rfl, rfl, rfl, by omega, by omega, rfl⟩
  case round =>
    obtain ⟨k, x, rfl, rfl, HX, hx, hk, hwr⟩ := hrel
    by_cases hlt : k < n
    · have t1 : decide (k < n) = true := by simpa using hlt
      have hm : IntKind.i64.wrap ((x : Int) * 2) = ((2 * x : Nat) : Int) := by rw [IntKind.wrap_i64]; omega
      have hs : IntKind.i64.wrap ((k : Int) + 1) = ((k + 1 : Nat) : Int) := by rw [IntKind.wrap_i64]; omega
      have hx2 : 2 * x = 2 ^ (k + 1) := by rw [Nat.pow_succ, ← HX.out]; omega
      have hx3 : 2 * x ≤ 1048576 := by
        rw [hx2]
        exact Nat.le_trans (Nat.pow_le_pow_right (by decide) (by omega : k + 1 ≤ 20)) (by decide)
      have HX2 := Lib.hid hx2
      clear hx2
      go_wp2_with fail
      go_roundw
      case rel => exact ⟨k + 1, 2 * x, rfl, rfl, HX2, hx3, hlt, by first | exact hwr | trivial⟩
      case measure => simp [intOf]; omega
    · have t1 : decide (k < n) = false := by simpa using hlt
      have e : p = x := by
        have : k = n := by omega
        subst this
        exact HP.out.symm.trans HX.out.symm
      subst e
      clear hlt
      go_wp2_with fail
      go_ret
      exact ⟨rfl, by first | exact hwr.symm | trivial⟩
theorem lex_le (c : Nat) (h : c ≤ 285) : lex c ≤ 6 := by unfold lex; split <;> omega
theorem rlen17_c (w : World) (code : Int) (large : Bool) : Calls Tryz.prog 56 #[.int .i64 code, .bool large] w fun e w' => e = .returned (.tuple #[.int .i64 (lenOf code large).1, .int .i64 (lenOf code large).2.1, .bool (lenOf code large).2.2]) ∧ w = w' := by
  by_cases hb : code < 257 ∨ 285 < code
  · have hf : lenOf code large = (0, 0, false) := by unfold lenOf; rw [if_pos hb]
    rw [hf]; clear hf
    by_cases h1 : code < 257
    · have t1 : decide (code < 257) = true := by simpa using h1
      clear hb h1
      go_enter Tryz.func56, Tryz.ntmps56
      go_wp2_with fail
      go_ret3
      exact ⟨rfl, rfl⟩
    · have t1 : decide (code < 257) = false := by simpa using h1
      have t2 : decide (285 < code) = true := by simp; omega
      clear hb h1
      go_enter Tryz.func56, Tryz.ntmps56
      go_wp2_with fail
      go_ret3
      exact ⟨rfl, rfl⟩
  · by_cases h5 : code = 285
    · subst h5
      cases large
      · have hf : lenOf 285 false = (258, 0, true) := by decide +kernel
        rw [hf]; clear hf hb
        go_enter Tryz.func56, Tryz.ntmps56
        go_wp2_with fail
        go_ret3
        exact ⟨rfl, rfl⟩
      · have hf : lenOf 285 true = (3, 16, true) := by decide +kernel
        rw [hf]; clear hf hb
        go_enter Tryz.func56, Tryz.ntmps56
        go_wp2_with fail
        go_ret3
        exact ⟨rfl, rfl⟩
    · obtain ⟨c, rfl⟩ : ∃ c : Nat, code = (c : Int) := ⟨code.toNat, by omega⟩
      have hc : 257 ≤ c ∧ c ≤ 284 := by omega
      obtain ⟨B, hB⟩ : ∃ B, lbs (c - 257) = B := ⟨_, rfl⟩
      obtain ⟨E, hE⟩ : ∃ E, lex c = E := ⟨_, rfl⟩
      have hf : lenOf (c : Int) large = (B, E, true) := by
        unfold lenOf; rw [if_neg hb, if_neg h5, Int.toNat_natCast, hB, hE]
      rw [hf]; clear hf
      have HB := Lib.hid hB
      have HE := Lib.hid hE
      have t1 : decide (c < 257) = false := by simp; omega
      have t1' : decide ((c : Int) < 257) = false := by simp; omega
      have t2 : decide (285 < c) = false := by simp; omega
      have t2' : decide (285 < (c : Int)) = false := by simp; omega
      have t3 : ((c : Int) == 285) = false := by simp; omega
      have t3' : (c == 285) = false := by simp; omega
      clear hb h5 hB hE
      go_enter Tryz.func56, Tryz.ntmps56
      go_wp2_with fail
      go_loopw [7, 8, 9] (fun bv ev cv wr => ∃ (k b e : Nat), bv = .int .i64 b ∧ ev = .int .i64 e ∧ cv = .int .i64 (257 + k : Nat) ∧ 257 + k ≤ c ∧ Hid (b = lbs k) ∧ b ≤ 3 + 64 * k ∧ (k ≤ 8 → e = 0) ∧ e ≤ 6 ∧ wr = w) (fun _ _ cv _ => c - (intOf cv).toNat)
      case atStart => exact ⟨0, 3, 0, rfl, rfl, rfl, by omega, rfl, by omega, fun _ => rfl, by omega, rfl⟩
      case round =>
        obtain ⟨k, b, e, rfl, rfl, hcv, hk, HBk, hb2, he, he6, hwr⟩ := hrel
        obtain ⟨d, hd⟩ : ∃ d, 257 + k = d := ⟨_, rfl⟩
        rw [hd] at hcv hk
        subst hcv
        by_cases hlt : d < c
        · have t4 : decide (d < c) = true := by simpa using hlt
          have hs : IntKind.i64.wrap ((d : Int) + 1) = ((d + 1 : Nat) : Int) := by rw [IntKind.wrap_i64]; omega
          have hl6 := lex_le d (by omega)
          have HLT : Hid (d < c) := hlt
          have hp : 2 ^ lex d ≤ 64 := Nat.le_trans (Nat.pow_le_pow_right (by decide) hl6) (by decide)
          have hbk : b + 2 ^ lex d = lbs (k + 1) := by rw [HBk.out, lbs, hd]
          have HBK := Lib.hid hbk
          have H2 := Lib.hid (fun W => two17_c W (lex d) (by omega))
          by_cases h65 : 265 ≤ d
          · have t5 : decide (265 ≤ d) = true := by simpa using h65
            have t5' : decide (265 ≤ (d : Int)) = true := by simp; omega
            have hx : lex d = (d - 261) / 4 := by unfold lex; rw [if_neg (by omega)]
            obtain ⟨x, hx2⟩ : ∃ x, lex d = x := ⟨_, rfl⟩
            rw [hx2] at hx H2 hp HBK hl6
            have hq1 : IntKind.i64.wrap ((d : Int) - 261) = ((d - 261 : Nat) : Int) := by rw [IntKind.wrap_i64]; omega
            have hq2 : IntKind.i64.wrap (((d - 261 : Nat) : Int).tdiv 4) = (x : Int) := by rw [IntKind.wrap_i64, Int.tdiv_eq_ediv_of_nonneg (by omega)]; omega
            have hq3 : ((d - 261 : Nat) : Int) / 4 = (x : Int) := by omega
            obtain ⟨p, hp2⟩ : ∃ p, 2 ^ x = p := ⟨_, rfl⟩
            rw [hp2] at H2 hp HBK
            have ha : IntKind.i64.wrap ((b : Int) + (p : Int)) = ((b + p : Nat) : Int) := by rw [IntKind.wrap_i64]; omega
            have H65 : Hid (265 ≤ d) := h65
            clear hbk hx hx2 hp2 h65 hlt he
            go_wp2_with fail
            with_reducible refine (H2.out _).mono ?_; rintro e1 w1 ⟨rfl, rfl⟩
            go_wp2_with fail
            go_roundw
            case rel => have := HLT.out; exact ⟨k + 1, b + p, x, rfl, rfl, by rw [← hd]; rfl, by omega, HBK.out, by omega, fun h => absurd h (by have := H65.out; omega), by omega, by first | exact hwr | trivial⟩
            case measure => have := HLT.out; simp [intOf]; omega
          · have t5 : decide (265 ≤ d) = false := by simpa using h65
            have t5' : decide (265 ≤ (d : Int)) = false := by simp; omega
            have he0 : e = 0 := he (by omega)
            have hx : lex d = e := by unfold lex; rw [if_pos (by omega), he0]
            rw [hx] at H2 hp HBK
            obtain ⟨p, hp2⟩ : ∃ p, 2 ^ e = p := ⟨_, rfl⟩
            rw [hp2] at H2 hp HBK
            have ha : IntKind.i64.wrap ((b : Int) + (p : Int)) = ((b + p : Nat) : Int) := by rw [IntKind.wrap_i64]; omega
            have HE0 := Lib.hid he0
            clear hbk hx h65 hlt he he0 hp2
            go_wp2_with fail
            with_reducible refine (H2.out _).mono ?_; rintro e1 w1 ⟨rfl, rfl⟩
            go_wp2_with fail
            go_roundw
            case rel => have := HLT.out; exact ⟨k + 1, b + p, e, rfl, rfl, by rw [← hd]; rfl, by omega, HBK.out, by omega, fun _ => HE0.out, by omega, by first | exact hwr | trivial⟩
            case measure => have := HLT.out; simp [intOf]; omega
        · have t4 : decide (d < c) = false := by simpa using hlt
          obtain rfl : d = c := by omega
          have hbB : B = b := by rw [← HB.out, HBk.out]; congr 1; omega
          subst hbB
          clear hlt
          by_cases h65 : 265 ≤ d
          · have t5 : decide (265 ≤ d) = true := by simpa using h65
            have t5' : decide (265 ≤ (d : Int)) = true := by simp; omega
            have hx : E = (d - 261) / 4 := by rw [← HE.out]; unfold lex; rw [if_neg (by omega)]
            have hq1 : IntKind.i64.wrap ((d : Int) - 261) = ((d - 261 : Nat) : Int) := by rw [IntKind.wrap_i64]; omega
            have hq2 : IntKind.i64.wrap (((d - 261 : Nat) : Int).tdiv 4) = (E : Int) := by rw [IntKind.wrap_i64, Int.tdiv_eq_ediv_of_nonneg (by omega)]; omega
            have hq3 : ((d - 261 : Nat) : Int) / 4 = (E : Int) := by omega
            clear hx h65 he
            go_wp2_with fail
            go_ret3
            exact ⟨rfl, by first | exact hwr.symm | trivial⟩
          · have t5 : decide (265 ≤ d) = false := by simpa using h65
            have t5' : decide (265 ≤ (d : Int)) = false := by simp; omega
            have hx : E = 0 := by rw [← HE.out]; unfold lex; rw [if_pos (by omega)]
            subst hx
            clear h65 he
            go_wp2_with fail
            go_ret3
            exact ⟨rfl, by first | exact hwr.symm | trivial⟩
theorem dex_le (c : Nat) (h : c ≤ 31) : dex c ≤ 14 := by unfold dex; split <;> omega
theorem rdist17_c (w : World) (code : Int) (large : Bool) : Calls Tryz.prog 58 #[.int .i64 code, .bool large] w fun e w' => e = .returned (.tuple #[.int .i64 (dstOf code large).1, .int .i64 (dstOf code large).2.1, .bool (dstOf code large).2.2]) ∧ w = w' := by
  by_cases hb : code < 0 ∨ 31 < code ∨ (29 < code ∧ large = false)
  · have hf : dstOf code large = (0, 0, false) := by unfold dstOf; rw [if_pos hb]
    rw [hf]; clear hf
    by_cases h1 : code < 0
    · have t1 : decide (code < 0) = true := by simpa using h1
      clear hb h1
      go_enter Tryz.func58, Tryz.ntmps58
      go_wp2_with fail
      go_ret3
      exact ⟨rfl, rfl⟩
    · have t1 : decide (code < 0) = false := by simpa using h1
      by_cases h2 : 31 < code
      · have t2 : decide (31 < code) = true := by simpa using h2
        clear hb h1 h2
        go_enter Tryz.func58, Tryz.ntmps58
        go_wp2_with fail
        go_ret3
        exact ⟨rfl, rfl⟩
      · have t2 : decide (31 < code) = false := by simpa using h2
        obtain ⟨h3, rfl⟩ : 29 < code ∧ large = false := by
          rcases hb with h | h | h
          · exact absurd h h1
          · exact absurd h h2
          · exact h
        have t3 : decide (29 < code) = true := by simpa using h3
        clear hb h1 h2 h3
        go_enter Tryz.func58, Tryz.ntmps58
        go_wp2_with fail
        go_ret3
        exact ⟨rfl, rfl⟩
  · obtain ⟨c, rfl⟩ : ∃ c : Nat, code = (c : Int) := ⟨code.toNat, by omega⟩
    have hc : c ≤ 31 := by omega
    obtain ⟨B, hB⟩ : ∃ B, dbs c = B := ⟨_, rfl⟩
    obtain ⟨E, hE⟩ : ∃ E, dex c = E := ⟨_, rfl⟩
    have hf : dstOf (c : Int) large = (B, E, true) := by
      unfold dstOf; rw [if_neg hb, Int.toNat_natCast, hB, hE]
    rw [hf]; clear hf
    have HB := Lib.hid hB
    have HE := Lib.hid hE
    have t1 : decide ((c : Int) < 0) = false := by simp
    have t2 : decide (31 < c) = false := by simp; omega
    have t2' : decide (31 < (c : Int)) = false := by simp; omega
    have t3 : (decide (29 < c) = false ∧ decide (29 < (c : Int)) = false) ∨ (large = true ∧ decide (29 < c) = true ∧ decide (29 < (c : Int)) = true) := by
      by_cases h : 29 < c
      · right
        refine ⟨?_, by simpa using h, by simp; omega⟩
        cases hl : large with
        | true => rfl
        | false => exact absurd (Or.inr (Or.inr ⟨by omega, hl⟩)) hb
      · left; exact ⟨by simpa using h, by simp; omega⟩
    clear hb hB hE
    rcases t3 with ⟨t3, t3'⟩ | ⟨rfl, t3, t3'⟩
    all_goals
      go_enter Tryz.func58, Tryz.ntmps58
      go_wp2_with fail
      go_loopw [7, 8, 9] (fun bv ev cv wr => ∃ (k b e : Nat), bv = .int .i64 b ∧ ev = .int .i64 e ∧ cv = .int .i64 k ∧ k ≤ c ∧ Hid (b = dbs k) ∧ b ≤ 1 + 16384 * k ∧ (k ≤ 4 → e = 0) ∧ e ≤ 14 ∧ wr = w) (fun _ _ cv _ => c - (intOf cv).toNat)
      case atStart => exact ⟨0, 1, 0, rfl, rfl, rfl, by omega, rfl, by omega, fun _ => rfl, by omega, rfl⟩
      case round =>
        obtain ⟨d, b, e, rfl, rfl, rfl, hk, HBk, hb2, he, he6, hwr⟩ := hrel
        by_cases hlt : d < c
        · have t4 : decide (d < c) = true := by simpa using hlt
          have hs : IntKind.i64.wrap ((d : Int) + 1) = ((d + 1 : Nat) : Int) := by rw [IntKind.wrap_i64]; omega
          have hl6 := dex_le d (by omega)
          have HLT : Hid (d < c) := hlt
          have hp : 2 ^ dex d ≤ 16384 := Nat.le_trans (Nat.pow_le_pow_right (by decide) hl6) (by decide)
          have hbk : b + 2 ^ dex d = dbs (d + 1) := by rw [HBk.out, dbs]
          have HBK := Lib.hid hbk
          have H2 := Lib.hid (fun W => two17_c W (dex d) (by omega))
          by_cases h65 : 4 ≤ d
          · have t5 : decide (4 ≤ d) = true := by simpa using h65
            have t5' : decide (4 ≤ (d : Int)) = true := by simp; omega
            have hx : dex d = d / 2 - 1 := by unfold dex; rw [if_neg (by omega)]
            obtain ⟨x, hx2⟩ : ∃ x, dex d = x := ⟨_, rfl⟩
            rw [hx2] at hx H2 hp HBK hl6
            obtain ⟨q, hq⟩ : ∃ q, d / 2 = q := ⟨_, rfl⟩
            rw [hq] at hx
            have hq2 : IntKind.i64.wrap ((d : Int).tdiv 2) = (q : Int) := by rw [IntKind.wrap_i64, Int.tdiv_eq_ediv_of_nonneg (by omega)]; omega
            have hq3 : (d : Int) / 2 = (q : Int) := by omega
            have hq4 : IntKind.i64.wrap ((q : Int) - 1) = (x : Int) := by rw [IntKind.wrap_i64]; omega
            obtain ⟨p, hp2⟩ : ∃ p, 2 ^ x = p := ⟨_, rfl⟩
            rw [hp2] at H2 hp HBK
            have ha : IntKind.i64.wrap ((b : Int) + (p : Int)) = ((b + p : Nat) : Int) := by rw [IntKind.wrap_i64]; omega
            have H65 : Hid (4 ≤ d) := h65
            clear hbk hx hx2 hp2 h65 hlt he hq
            go_wp2_with fail
            with_reducible refine (H2.out _).mono ?_; rintro e1 w1 ⟨rfl, rfl⟩
            go_wp2_with fail
            go_roundw
            case rel => have := HLT.out; exact ⟨d + 1, b + p, x, rfl, rfl, rfl, by omega, HBK.out, by omega, fun h => absurd h (by have := H65.out; omega), by omega, by first | exact hwr | trivial⟩
            case measure => have := HLT.out; simp [intOf]; omega
          · have t5 : decide (4 ≤ d) = false := by simpa using h65
            have t5' : decide (4 ≤ (d : Int)) = false := by simp; omega
            have he0 : e = 0 := he (by omega)
            have hx : dex d = e := by unfold dex; rw [if_pos (by omega), he0]
            rw [hx] at H2 hp HBK
            obtain ⟨p, hp2⟩ : ∃ p, 2 ^ e = p := ⟨_, rfl⟩
            rw [hp2] at H2 hp HBK
            have ha : IntKind.i64.wrap ((b : Int) + (p : Int)) = ((b + p : Nat) : Int) := by rw [IntKind.wrap_i64]; omega
            have HE0 := Lib.hid he0
            clear hbk hx h65 hlt he he0 hp2
            go_wp2_with fail
            with_reducible refine (H2.out _).mono ?_; rintro e1 w1 ⟨rfl, rfl⟩
            go_wp2_with fail
            go_roundw
            case rel => have := HLT.out; exact ⟨d + 1, b + p, e, rfl, rfl, rfl, by omega, HBK.out, by omega, fun _ => HE0.out, by omega, by first | exact hwr | trivial⟩
            case measure => have := HLT.out; simp [intOf]; omega
        · have t4 : decide (d < c) = false := by simpa using hlt
          obtain rfl : d = c := by omega
          have hbB : B = b := by rw [← HB.out, HBk.out]
          subst hbB
          clear hlt
          by_cases h65 : 4 ≤ d
          · have t5 : decide (4 ≤ d) = true := by simpa using h65
            have t5' : decide (4 ≤ (d : Int)) = true := by simp; omega
            have hx : E = d / 2 - 1 := by rw [← HE.out]; unfold dex; rw [if_neg (by omega)]
            obtain ⟨q, hq⟩ : ∃ q, d / 2 = q := ⟨_, rfl⟩
            rw [hq] at hx
            have hq2 : IntKind.i64.wrap ((d : Int).tdiv 2) = (q : Int) := by rw [IntKind.wrap_i64, Int.tdiv_eq_ediv_of_nonneg (by omega)]; omega
            have hq3 : (d : Int) / 2 = (q : Int) := by omega
            have hq4 : IntKind.i64.wrap ((q : Int) - 1) = (E : Int) := by rw [IntKind.wrap_i64]; omega
            clear hx h65 he hq
            go_wp2_with fail
            go_ret3
            exact ⟨rfl, by first | exact hwr.symm | trivial⟩
          · have t5 : decide (4 ≤ d) = false := by simpa using h65
            have t5' : decide (4 ≤ (d : Int)) = false := by simp; omega
            have hx : E = 0 := by rw [← HE.out]; unfold dex; rw [if_pos (by omega)]
            subst hx
            clear h65 he
            go_wp2_with fail
            go_ret3
            exact ⟨rfl, by first | exact hwr.symm | trivial⟩
theorem find_some {m : Nat} {p : Nat → Bool} {k : Nat} (hk : k < m) (hp : p k = true) (h : ∀ i, i < k → p i = false) : (List.range m).find? p = some k := by
  rw [List.find?_range_eq_some]
  exact ⟨hp, by simpa using hk, fun j hj => by rw [h j hj]; rfl⟩
theorem find_none {m : Nat} {p : Nat → Bool} (h : ∀ i, i < m → p i = false) : (List.range m).find? p = none := by
  rw [List.find?_eq_none]
  intro x hx
  rw [h x (by simpa using hx)]; simp
theorem len_ok (k : Nat) (large : Bool) (hk : k < 29) : ∃ b e, lenOf ((257 + k : Nat) : Int) large = (b, e, true) ∧ b ≤ 258 ∧ e ≤ 16 := by
  have h : ∀ (k : Fin 29), (lenOf ((257 + k.val : Nat) : Int) large).1 ≤ 258 ∧ (lenOf ((257 + k.val : Nat) : Int) large).2.1 ≤ 16 ∧ (lenOf ((257 + k.val : Nat) : Int) large).2.2 = true := by
    cases large <;> decide +kernel
  have := h ⟨k, hk⟩
  exact ⟨_, _, by rw [← this.2.2], this.1, this.2.1⟩
theorem rlc17_c (w : World) (n : Int) (large : Bool) : Calls Tryz.prog 35 #[.int .i64 n, .bool large] w fun e w' => e = .returned (.tuple #[.int .i64 (lcOf n large).1, .int .i64 (lcOf n large).2.1, .int .i64 (lcOf n large).2.2.1, .bool (lcOf n large).2.2.2]) ∧ w = w' := by
  obtain ⟨R, hR⟩ : ∃ R, lcOf n large = R := ⟨_, rfl⟩
  rw [hR]
  by_cases h0 : n = 258 ∧ large = false
  · obtain ⟨rfl, rfl⟩ := h0
    have : R = (285, 0, 0, true) := by rw [← hR]; rfl
    subst this
    clear hR
    go_enter Tryz.func35, Tryz.ntmps35
    go_wp2_with fail
    ((try simp only [Exit.inBlock, Exit.then]); refine bodyPost_ret (results_tmp4 rfl _ _ _) rfl ?_)
    exact ⟨rfl, rfl⟩
  · have hf : lcOf n large = match (List.range 29).find? (lcHit n large) with
        | some k => (257 + k, (lenOf (257 + k : Nat) large).2.1, (n - (lenOf (257 + k : Nat) large).1).toNat, true)
        | none => (0, 0, 0, false) := by
      unfold lcOf; rw [if_neg h0]
      cases (List.range 29).find? (lcHit n large) <;> rfl
    rw [hR] at hf
    have HF := Lib.hid hf
    have t0 : (n == 258) = false ∨ (large = true ∧ (n == 258) = true) := by
      by_cases h : n = 258
      · right
        refine ⟨?_, by simpa using h⟩
        cases hl : large with
        | true => rfl
        | false => exact absurd ⟨h, hl⟩ h0
      · left; simpa only [beq_eq_false_iff_ne] using h
    clear hf hR h0
    have LO := Lib.hid (fun k hk => len_ok k large hk)
    have H17 : Hid (∀ W (d b e : Nat), lenOf (d : Int) large = (b, e, true) → Calls Tryz.prog 56 #[.int .i64 d, .bool large] W fun en w' => en = .returned (.tuple #[.int .i64 b, .int .i64 e, .bool true]) ∧ W = w') := by
      intro W d b e h
      have := rlen17_c W d large
      rw [h] at this
      exact this
    have HL : Hid (∀ k, lcHit n large k = decide (((lenOf (257 + k : Nat) large).1 : Int) ≤ n ∧ n ≤ (if k = 27 then (lenOf (257 + k : Nat) large).1 + 30 else (lenOf (257 + k : Nat) large).1 + 2 ^ (lenOf (257 + k : Nat) large).2.1 - 1 : Nat))) := fun k => rfl
    obtain ⟨hit, hhit⟩ : ∃ hit, lcHit n large = hit := ⟨_, rfl⟩
    rw [hhit] at HF HL
    clear hhit
    obtain ⟨lf, hlf⟩ : ∃ lf : Nat → Nat × Nat × Bool, ∀ k, lenOf ((257 + k : Nat) : Int) large = lf k := ⟨_, fun k => rfl⟩
    simp only [hlf] at LO HF HL
    have HLF := Lib.hid hlf
    clear hlf
    rcases t0 with t0 | ⟨rfl, t0⟩
    all_goals
      go_enter Tryz.func35, Tryz.ntmps35
      go_wp2_with fail
      go_loopw [8] (fun cv wr => ∃ k : Nat, cv = .int .i64 (257 + k : Nat) ∧ k ≤ 29 ∧ Hid (∀ i, i < k → hit i = false) ∧ wr = w) (fun cv _ => 286 - (intOf cv).toNat)
      case atStart => exact ⟨0, rfl, by omega, fun i hi => absurd hi (by omega), rfl⟩
      case round =>
        obtain ⟨k, hcv, hk, HN, hwr⟩ := hrel
        obtain ⟨d, hd⟩ : ∃ d, 257 + k = d := ⟨_, rfl⟩
        rw [hd] at hcv
        subst hcv
        by_cases hlt : k < 29
        · have t1 : decide (d ≤ 285) = true := by simp; omega
          have t1' : decide ((d : Int) ≤ 285) = true := by simp; omega
          have hs : IntKind.i64.wrap ((d : Int) + 1) = ((d + 1 : Nat) : Int) := by rw [IntKind.wrap_i64]; omega
          obtain ⟨b, e, hbe, hb2, he2⟩ := LO.out k hlt
          have HB := HL.out k
          rw [hbe] at HB
          have H1 := Lib.hid (fun W => H17.out W d b e (by rw [← hd, HLF.out k, hbe]))
          obtain ⟨p, hp⟩ : ∃ p, 2 ^ e = p := ⟨_, rfl⟩
          have hp1 : 1 ≤ p := by rw [← hp]; exact Nat.two_pow_pos e
          have hp6 : p ≤ 65536 := by rw [← hp]; exact Nat.le_trans (Nat.pow_le_pow_right (by decide) he2) (by decide)
          have H2 := Lib.hid (fun W => two17_c W e (by omega))
          rw [hp] at H2
          dsimp only at HB
          rw [hp] at HB
          obtain ⟨y, hy⟩ : ∃ y, b + p = y := ⟨_, rfl⟩
          obtain ⟨q, hq⟩ : ∃ q, b + p - 1 = q := ⟨_, rfl⟩
          obtain ⟨z3, hz3⟩ : ∃ z3, b + 30 = z3 := ⟨_, rfl⟩
          rw [hq, hz3] at HB
          have ha : IntKind.i64.wrap ((b : Int) + (p : Int)) = (y : Int) := by rw [IntKind.wrap_i64]; omega
          have ha2 : IntKind.i64.wrap ((y : Int) - 1) = (q : Int) := by rw [IntKind.wrap_i64]; omega
          have ha3 : IntKind.i64.wrap ((b : Int) + 30) = (z3 : Int) := by rw [IntKind.wrap_i64]; omega
          obtain ⟨z, hz⟩ : ∃ z : Nat, (if k = 27 then z3 else q) = z := ⟨_, rfl⟩
          rw [hz] at HB
          have HBH : Hid (hit k = decide ((b : Int) ≤ n ∧ n ≤ (z : Int))) := HB
          have HK : Hid (k < 29) := hlt
          have HD : Hid (257 + k = d) := hd
          have hzl : z ≤ 70000 := by rw [← hz]; split <;> omega
          have hzc : ((d : Int) == 284) = true ∧ (d == 284) = true ∧ z3 = z ∨ ((d : Int) == 284) = false ∧ (d == 284) = false ∧ q = z := by
            by_cases h : k = 27
            · left; refine ⟨by simp; omega, by simp; omega, ?_⟩; rw [← hz, if_pos h]
            · right; refine ⟨by simp; omega, by simp; omega, ?_⟩; rw [← hz, if_neg h]
          have HLE : Hid (lf k = (b, e, true)) := hbe
          have HQ := Lib.hid hq
          have HZ3 := Lib.hid hz3
          clear HB hd hlt hz hp hbe hy hq hz3
          rcases hzc with ⟨t2, t2', hz⟩ | ⟨t2, t2', hz⟩
          · rw [← hz] at HBH
            by_cases h6 : (b : Int) ≤ n
            · have t6 : decide ((b : Int) ≤ n) = true := by simpa using h6
              by_cases h7 : n ≤ (z3 : Int)
              · have t7 : decide (n ≤ (z3 : Int)) = true := by simpa using h7
                have hh : hit k = true := by rw [HBH.out]; simpa using ⟨h6, h7⟩
                have hR : R = (257 + k, e, (n - (b : Int)).toNat, true) := by
                  rw [HF.out, find_some HK.out hh HN.out]
                  dsimp only
                  rw [HLE.out]
                have ha4 : IntKind.i64.wrap (n - (b : Int)) = ((n - (b : Int)).toNat : Int) := by rw [IntKind.wrap_i64]; have := HQ.out; have := HZ3.out; omega
                obtain ⟨m, hm⟩ : ∃ m, (n - (b : Int)).toNat = m := ⟨_, rfl⟩
                rw [hm] at ha4 hR
                rw [HD.out] at hR
                have HR := Lib.hid hR
                clear h6 h7 hh hz hm hR HF HLE HBH
                go_wp2_with fail
                with_reducible refine (H1.out _).mono ?_; rintro e1 w1 ⟨rfl, rfl⟩
                go_wp2_with fail
                with_reducible refine (H2.out _).mono ?_; rintro e1 w1 ⟨rfl, rfl⟩
                go_wp2_with fail
                ((try simp only [Exit.inBlock, Exit.then]); refine bodyPost_ret (results_tmp4 rfl _ _ _) rfl ?_)
                rw [HR.out]
                exact ⟨rfl, by first | exact hwr.symm | trivial⟩
              · have t7 : decide (n ≤ (z3 : Int)) = false := by simpa using h7
                have hh : hit k = false := by rw [HBH.out]; simp only [decide_eq_false_iff_not]; omega
                have HN2 : Hid (∀ i, i < k + 1 → hit i = false) := by
                  intro i hi
                  rcases Nat.lt_or_ge i k with h | h
                  · exact HN.out i h
                  · obtain rfl : i = k := by omega
                    exact hh
                clear h6 h7 hh hz HF HLE HBH
                go_wp2_with fail
                with_reducible refine (H1.out _).mono ?_; rintro e1 w1 ⟨rfl, rfl⟩
                go_wp2_with fail
                with_reducible refine (H2.out _).mono ?_; rintro e1 w1 ⟨rfl, rfl⟩
                go_wp2_with fail
                go_roundw
                case rel => have := HK.out; exact ⟨k + 1, by rw [← HD.out]; rfl, by omega, HN2, by first | exact hwr | trivial⟩
                case measure => have := HK.out; have := HD.out; simp [intOf]; omega
            · have t6 : decide ((b : Int) ≤ n) = false := by simpa using h6
              have hh : hit k = false := by rw [HBH.out]; simp only [decide_eq_false_iff_not]; omega
              have HN2 : Hid (∀ i, i < k + 1 → hit i = false) := by
                intro i hi
                rcases Nat.lt_or_ge i k with h | h
                · exact HN.out i h
                · obtain rfl : i = k := by omega
                  exact hh
              clear h6 hh hz HF HLE HBH
              go_wp2_with fail
              with_reducible refine (H1.out _).mono ?_; rintro e1 w1 ⟨rfl, rfl⟩
              go_wp2_with fail
              with_reducible refine (H2.out _).mono ?_; rintro e1 w1 ⟨rfl, rfl⟩
              go_wp2_with fail
              go_roundw
              case rel => have := HK.out; exact ⟨k + 1, by rw [← HD.out]; rfl, by omega, HN2, by first | exact hwr | trivial⟩
              case measure => have := HK.out; have := HD.out; simp [intOf]; omega
          · rw [← hz] at HBH
            by_cases h6 : (b : Int) ≤ n
            · have t6 : decide ((b : Int) ≤ n) = true := by simpa using h6
              by_cases h7 : n ≤ (q : Int)
              · have t7 : decide (n ≤ (q : Int)) = true := by simpa using h7
                have hh : hit k = true := by rw [HBH.out]; simpa using ⟨h6, h7⟩
                have hR : R = (257 + k, e, (n - (b : Int)).toNat, true) := by
                  rw [HF.out, find_some HK.out hh HN.out]
                  dsimp only
                  rw [HLE.out]
                have ha4 : IntKind.i64.wrap (n - (b : Int)) = ((n - (b : Int)).toNat : Int) := by rw [IntKind.wrap_i64]; have := HQ.out; have := HZ3.out; omega
                obtain ⟨m, hm⟩ : ∃ m, (n - (b : Int)).toNat = m := ⟨_, rfl⟩
                rw [hm] at ha4 hR
                rw [HD.out] at hR
                have HR := Lib.hid hR
                clear h6 h7 hh hz hm hR HF HLE HBH
                go_wp2_with fail
                with_reducible refine (H1.out _).mono ?_; rintro e1 w1 ⟨rfl, rfl⟩
                go_wp2_with fail
                with_reducible refine (H2.out _).mono ?_; rintro e1 w1 ⟨rfl, rfl⟩
                go_wp2_with fail
                ((try simp only [Exit.inBlock, Exit.then]); refine bodyPost_ret (results_tmp4 rfl _ _ _) rfl ?_)
                rw [HR.out]
                exact ⟨rfl, by first | exact hwr.symm | trivial⟩
              · have t7 : decide (n ≤ (q : Int)) = false := by simpa using h7
                have hh : hit k = false := by rw [HBH.out]; simp only [decide_eq_false_iff_not]; omega
                have HN2 : Hid (∀ i, i < k + 1 → hit i = false) := by
                  intro i hi
                  rcases Nat.lt_or_ge i k with h | h
                  · exact HN.out i h
                  · obtain rfl : i = k := by omega
                    exact hh
                clear h6 h7 hh hz HF HLE HBH
                go_wp2_with fail
                with_reducible refine (H1.out _).mono ?_; rintro e1 w1 ⟨rfl, rfl⟩
                go_wp2_with fail
                with_reducible refine (H2.out _).mono ?_; rintro e1 w1 ⟨rfl, rfl⟩
                go_wp2_with fail
                go_roundw
                case rel => have := HK.out; exact ⟨k + 1, by rw [← HD.out]; rfl, by omega, HN2, by first | exact hwr | trivial⟩
                case measure => have := HK.out; have := HD.out; simp [intOf]; omega
            · have t6 : decide ((b : Int) ≤ n) = false := by simpa using h6
              have hh : hit k = false := by rw [HBH.out]; simp only [decide_eq_false_iff_not]; omega
              have HN2 : Hid (∀ i, i < k + 1 → hit i = false) := by
                intro i hi
                rcases Nat.lt_or_ge i k with h | h
                · exact HN.out i h
                · obtain rfl : i = k := by omega
                  exact hh
              clear h6 hh hz HF HLE HBH
              go_wp2_with fail
              with_reducible refine (H1.out _).mono ?_; rintro e1 w1 ⟨rfl, rfl⟩
              go_wp2_with fail
              with_reducible refine (H2.out _).mono ?_; rintro e1 w1 ⟨rfl, rfl⟩
              go_wp2_with fail
              go_roundw
              case rel => have := HK.out; exact ⟨k + 1, by rw [← HD.out]; rfl, by omega, HN2, by first | exact hwr | trivial⟩
              case measure => have := HK.out; have := HD.out; simp [intOf]; omega
        · have t1 : decide (d ≤ 285) = false := by simp; omega
          have t1' : decide ((d : Int) ≤ 285) = false := by simp; omega
          have hR : R = (0, 0, 0, false) := by
            obtain rfl : k = 29 := by omega
            rw [HF.out, find_none HN.out]
          have HR := Lib.hid hR
          clear HF hlt hR
          go_wp2_with fail
          ((try simp only [Exit.inBlock, Exit.then]); refine bodyPost_ret (results_tmp4 rfl _ _ _) rfl ?_)
          rw [HR.out]
          exact ⟨rfl, by first | exact hwr.symm | trivial⟩
theorem dst_le (k : Nat) (large : Bool) (hk : k < 32) : ∃ b e ok, dstOf ((k : Nat) : Int) large = (b, e, ok) ∧ b ≤ 49153 ∧ e ≤ 14 := by
  have h : ∀ (k : Fin 32), (dstOf ((k.val : Nat) : Int) large).1 ≤ 49153 ∧ (dstOf ((k.val : Nat) : Int) large).2.1 ≤ 14 := by
    cases large <;> decide +kernel
  have := h ⟨k, hk⟩
  exact ⟨_, _, _, rfl, this.1, this.2⟩
theorem rdc17_c (w : World) (n : Int) (large : Bool) : Calls Tryz.prog 36 #[.int .i64 n, .bool large] w fun e w' => e = .returned (.tuple #[.int .i64 (dcOf n large).1, .int .i64 (dcOf n large).2.1, .int .i64 (dcOf n large).2.2.1, .bool (dcOf n large).2.2.2]) ∧ w = w' := by
  obtain ⟨R, hR⟩ : ∃ R, dcOf n large = R := ⟨_, rfl⟩
  rw [hR]
  have hf : dcOf n large = match (List.range 32).find? (dcHit n large) with
      | some c => (c, (dstOf c large).2.1, (n - (dstOf c large).1).toNat, true)
      | none => (0, 0, 0, false) := by
    unfold dcOf
    cases (List.range 32).find? (dcHit n large) <;> rfl
  rw [hR] at hf
  have HF := Lib.hid hf
  clear hf hR
  have LO := Lib.hid (fun k hk => dst_le k large hk)
  have H17 : Hid (∀ W (d b e : Nat) (ok : Bool), dstOf (d : Int) large = (b, e, ok) → Calls Tryz.prog 58 #[.int .i64 d, .bool large] W fun en w' => en = .returned (.tuple #[.int .i64 b, .int .i64 e, .bool ok]) ∧ W = w') := by
    intro W d b e ok h
    have := rdist17_c W d large
    rw [h] at this
    exact this
  have HL : Hid (∀ c, dcHit n large c = ((dstOf c large).2.2 && decide (((dstOf c large).1 : Int) ≤ n ∧ n ≤ ((dstOf c large).1 + 2 ^ (dstOf c large).2.1 - 1 : Nat)))) := fun k => rfl
  obtain ⟨hit, hhit⟩ : ∃ hit, dcHit n large = hit := ⟨_, rfl⟩
  rw [hhit] at HF HL
  clear hhit
  obtain ⟨lf, hlf⟩ : ∃ lf : Nat → Nat × Nat × Bool, ∀ k : Nat, dstOf (k : Int) large = lf k := ⟨_, fun k => rfl⟩
  simp only [hlf] at LO HF HL
  have HLF := Lib.hid hlf
  clear hlf
  go_enter Tryz.func36, Tryz.ntmps36
  go_wp2_with fail
  go_loopw [8] (fun cv wr => ∃ k : Nat, cv = .int .i64 k ∧ k ≤ 32 ∧ Hid (∀ i, i < k → hit i = false) ∧ wr = w) (fun cv _ => 32 - (intOf cv).toNat)
  case atStart => exact ⟨0, rfl, by omega, fun i hi => absurd hi (by omega), rfl⟩
  case round =>
    obtain ⟨k, rfl, hk, HN, hwr⟩ := hrel
    by_cases hlt : k < 32
    · have t1 : decide (k < 32) = true := by simpa using hlt
      have t1' : decide ((k : Int) < 32) = true := by simp; omega
      have hs : IntKind.i64.wrap ((k : Int) + 1) = ((k + 1 : Nat) : Int) := by rw [IntKind.wrap_i64]; omega
      obtain ⟨b, e, ok, hbe, hb2, he2⟩ := LO.out k hlt
      have HB := HL.out k
      rw [hbe] at HB
      have H1 := Lib.hid (fun W => H17.out W k b e ok (by rw [HLF.out k, hbe]))
      obtain ⟨p, hp⟩ : ∃ p, 2 ^ e = p := ⟨_, rfl⟩
      have hp1 : 1 ≤ p := by rw [← hp]; exact Nat.two_pow_pos e
      have hp6 : p ≤ 16384 := by rw [← hp]; exact Nat.le_trans (Nat.pow_le_pow_right (by decide) he2) (by decide)
      have H2 := Lib.hid (fun W => two17_c W e (by omega))
      rw [hp] at H2
      dsimp only at HB
      rw [hp] at HB
      obtain ⟨y, hy⟩ : ∃ y, b + p = y := ⟨_, rfl⟩
      obtain ⟨q, hq⟩ : ∃ q, b + p - 1 = q := ⟨_, rfl⟩
      rw [hq] at HB
      have ha : IntKind.i64.wrap ((b : Int) + (p : Int)) = (y : Int) := by rw [IntKind.wrap_i64]; omega
      have ha2 : IntKind.i64.wrap ((y : Int) - 1) = (q : Int) := by rw [IntKind.wrap_i64]; omega
      have HBH : Hid (hit k = (ok && decide ((b : Int) ≤ n ∧ n ≤ (q : Int)))) := HB
      have HK : Hid (k < 32) := hlt
      have HLE : Hid (lf k = (b, e, ok)) := hbe
      have hql : q ≤ 70000 := by omega
      clear HB hlt hp hbe hy hq
      cases ok with
      | false =>
        have hh : hit k = false := by rw [HBH.out]; rfl
        have HN2 : Hid (∀ i, i < k + 1 → hit i = false) := by
          intro i hi
          rcases Nat.lt_or_ge i k with h | h
          · exact HN.out i h
          · obtain rfl : i = k := by omega
            exact hh
        clear hh HF HLE HBH
        go_wp2_with fail
        with_reducible refine (H1.out _).mono ?_; rintro e1 w1 ⟨rfl, rfl⟩
        go_wp2_with fail
        go_roundw
        case rel => have := HK.out; exact ⟨k + 1, rfl, by omega, HN2, by first | exact hwr | trivial⟩
        case measure => have := HK.out; simp [intOf]; omega
      | true =>
        rw [Bool.true_and] at HBH
        by_cases h6 : (b : Int) ≤ n
        · have t6 : decide ((b : Int) ≤ n) = true := by simpa using h6
          by_cases h7 : n ≤ (q : Int)
          · have t7 : decide (n ≤ (q : Int)) = true := by simpa using h7
            have hh : hit k = true := by rw [HBH.out]; simpa using ⟨h6, h7⟩
            have hR : R = (k, e, (n - (b : Int)).toNat, true) := by
              rw [HF.out, find_some HK.out hh HN.out]
              dsimp only
              rw [HLE.out]
            have ha4 : IntKind.i64.wrap (n - (b : Int)) = ((n - (b : Int)).toNat : Int) := by rw [IntKind.wrap_i64]; omega
            obtain ⟨m, hm⟩ : ∃ m, (n - (b : Int)).toNat = m := ⟨_, rfl⟩
            rw [hm] at ha4 hR
            have HR := Lib.hid hR
            clear h6 h7 hh hm hR HF HLE HBH
            go_wp2_with fail
            with_reducible refine (H1.out _).mono ?_; rintro e1 w1 ⟨rfl, rfl⟩
            go_wp2_with fail
            with_reducible refine (H2.out _).mono ?_; rintro e1 w1 ⟨rfl, rfl⟩
            go_wp2_with fail
            ((try simp only [Exit.inBlock, Exit.then]); refine bodyPost_ret (results_tmp4 rfl _ _ _) rfl ?_)
            rw [HR.out]
            exact ⟨rfl, by first | exact hwr.symm | trivial⟩
          · have t7 : decide (n ≤ (q : Int)) = false := by simpa using h7
            have hh : hit k = false := by rw [HBH.out]; simp only [decide_eq_false_iff_not]; omega
            have HN2 : Hid (∀ i, i < k + 1 → hit i = false) := by
              intro i hi
              rcases Nat.lt_or_ge i k with h | h
              · exact HN.out i h
              · obtain rfl : i = k := by omega
                exact hh
            clear h6 h7 hh HF HLE HBH
            go_wp2_with fail
            with_reducible refine (H1.out _).mono ?_; rintro e1 w1 ⟨rfl, rfl⟩
            go_wp2_with fail
            with_reducible refine (H2.out _).mono ?_; rintro e1 w1 ⟨rfl, rfl⟩
            go_wp2_with fail
            go_roundw
            case rel => have := HK.out; exact ⟨k + 1, rfl, by omega, HN2, by first | exact hwr | trivial⟩
            case measure => have := HK.out; simp [intOf]; omega
        · have t6 : decide ((b : Int) ≤ n) = false := by simpa using h6
          have hh : hit k = false := by rw [HBH.out]; simp only [decide_eq_false_iff_not]; omega
          have HN2 : Hid (∀ i, i < k + 1 → hit i = false) := by
            intro i hi
            rcases Nat.lt_or_ge i k with h | h
            · exact HN.out i h
            · obtain rfl : i = k := by omega
              exact hh
          clear h6 hh HF HLE HBH
          go_wp2_with fail
          with_reducible refine (H1.out _).mono ?_; rintro e1 w1 ⟨rfl, rfl⟩
          go_wp2_with fail
          go_roundw
          case rel => have := HK.out; exact ⟨k + 1, rfl, by omega, HN2, by first | exact hwr | trivial⟩
          case measure => have := HK.out; simp [intOf]; omega
    · have t1 : decide (k < 32) = false := by simpa using hlt
      have t1' : decide ((k : Int) < 32) = false := by simp; omega
      have hR : R = (0, 0, 0, false) := by
        obtain rfl : k = 32 := by omega
        rw [HF.out, find_none HN.out]
      have HR := Lib.hid hR
      clear HF hlt hR
      go_wp2_with fail
      ((try simp only [Exit.inBlock, Exit.then]); refine bodyPost_ret (results_tmp4 rfl _ _ _) rfl ?_)
      rw [HR.out]
      exact ⟨rfl, by first | exact hwr.symm | trivial⟩
end Go.Proofs.YtokfcgloogdeiaaGreatDoor
