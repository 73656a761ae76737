/- Texts put together: DynLen -/
import Derived.Test.YtokfcgloogdeiaaGreatDoorPart4
import Derived.Test.YtokfcgloogdeiaaGreatDoorPart1
import Derived.Lib.MinMax
import Derived.Laws.BitsLemmas
namespace Go.Proofs.YtokfcgloogdeiaaGreatDoor
set_option linter.unusedVariables false
set_option linter.unusedSimpArgs false
set_option maxRecDepth 100000
open Go.ChangeShapes Go.WideShapes Go.ChangeAt Go.RowKit

def blen8 (k : Nat) : Nat := if k = 0 then 0 else Nat.log2 k + 1
def blen (x : Nat) : Nat := if x < 256 then blen8 x else 8 + blen8 (x / 256)
theorem blen8_at : ∀ k : Fin 256, 0 < k.val → 1 ≤ blen8 k.val ∧ blen8 k.val ≤ 8 ∧ 2 ^ (blen8 k.val - 1) ≤ k.val ∧ k.val < 2 ^ blen8 k.val := by decide +kernel
theorem blen_at (x : Nat) (h0 : 0 < x) (h : x < 65536) : 1 ≤ blen x ∧ blen x ≤ 16 ∧ 2 ^ (blen x - 1) ≤ x ∧ x < 2 ^ blen x := by
  unfold blen
  by_cases h1 : x < 256
  · rw [if_pos h1]
    obtain ⟨a, b, c, d⟩ := blen8_at ⟨x, h1⟩ h0
    dsimp only at a b c d
    exact ⟨a, by omega, c, d⟩
  · rw [if_neg h1]
    obtain ⟨a, b, c, d⟩ := blen8_at ⟨x / 256, by omega⟩ (by show 0 < x / 256; omega)
    dsimp only at a b c d
    have e1 : 2 ^ (8 + blen8 (x / 256) - 1) = 256 * 2 ^ (blen8 (x / 256) - 1) := by rw [show 8 + blen8 (x / 256) - 1 = 8 + (blen8 (x / 256) - 1) by omega, Nat.pow_add]
    have e2 : 2 ^ (8 + blen8 (x / 256)) = 256 * 2 ^ blen8 (x / 256) := by rw [Nat.pow_add]
    rw [e1, e2]
    exact ⟨by omega, by omega, by omega, by omega⟩
theorem len8_at : ∀ k : Fin 256, ((⟨#[0, 1, 2, 2, 3, 3, 3, 3, 4, 4, 4, 4, 4, 4, 4, 4, 5, 5, 5, 5, 5, 5, 5, 5, 5, 5, 5, 5, 5, 5, 5, 5, 6, 6, 6, 6, 6, 6, 6, 6, 6, 6, 6, 6, 6, 6, 6, 6, 6, 6, 6, 6, 6, 6, 6, 6, 6, 6, 6, 6, 6, 6, 6, 6, 7, 7, 7, 7, 7, 7, 7, 7, 7, 7, 7, 7, 7, 7, 7, 7, 7, 7, 7, 7, 7, 7, 7, 7, 7, 7, 7, 7, 7, 7, 7, 7, 7, 7, 7, 7, 7, 7, 7, 7, 7, 7, 7, 7, 7, 7, 7, 7, 7, 7, 7, 7, 7, 7, 7, 7, 7, 7, 7, 7, 7, 7, 7, 7, 8, 8, 8, 8, 8, 8, 8, 8, 8, 8, 8, 8, 8, 8, 8, 8, 8, 8, 8, 8, 8, 8, 8, 8, 8, 8, 8, 8, 8, 8, 8, 8, 8, 8, 8, 8, 8, 8, 8, 8, 8, 8, 8, 8, 8, 8, 8, 8, 8, 8, 8, 8, 8, 8, 8, 8, 8, 8, 8, 8, 8, 8, 8, 8, 8, 8, 8, 8, 8, 8, 8, 8, 8, 8, 8, 8, 8, 8, 8, 8, 8, 8, 8, 8, 8, 8, 8, 8, 8, 8, 8, 8, 8, 8, 8, 8, 8, 8, 8, 8, 8, 8, 8, 8, 8, 8, 8, 8, 8, 8, 8, 8, 8, 8, 8, 8, 8, 8, 8, 8, 8, 8, 8, 8, 8, 8, 8, 8]⟩ : ByteArray)[k.val]'(by have := k.isLt; exact this)).toNat = blen8 k.val := by decide +kernel
theorem wraps62 (n : Int) (h0 : 0 ≤ n) (h1 : n < 2 ^ 62) : IntKind.i64.wrap n = n := by rw [IntKind.wrap_i64]; omega
theorem and17 (x n : Nat) (hx : x < 65536) (hn : n ≤ 20) : Go.bits .and .i64 (x : Int) ((2 ^ n - 1 : Nat) : Int) = ((x % 2 ^ n : Nat) : Int) := by
  have hp : 2 ^ n ≤ 2 ^ 20 := Nat.pow_le_pow_right (by decide) hn
  have h := (bits_nat .i64 62 (by decide) wraps62 x (2 ^ n - 1) (by omega) (by omega)).1
  rw [h, Nat.and_two_pow_sub_one_eq_mod]
/-- a number's code, how many bits stand behind, and their number -/
def fold17 (x kept : Nat) : Nat × Nat × Nat := ((blen x - kept - 1) * 2 ^ kept + x / 2 ^ (blen x - kept - 1), blen x - kept - 1, x % 2 ^ (blen x - kept - 1))
/-- a code's number, and how many bits stand behind -/
def open17 (c kept : Nat) : Nat × Nat := ((c - (c / 2 ^ kept - 1) * 2 ^ kept) * 2 ^ (c / 2 ^ kept - 1), c / 2 ^ kept - 1)
theorem fo1 (n y : Nat) (h : n ≤ 14) (hy : y < 65536) : wrap64 ((n : Int) * 2 + (y : Int)) = ((n * 2 ^ 1 + y : Nat) : Int) := by
  rw [show n * 2 ^ 1 = n * 2 by omega]
  unfold wrap64; omega
theorem fo2 (n y : Nat) (h : n ≤ 14) (hy : y < 65536) : wrap64 ((n : Int) * 4 + (y : Int)) = ((n * 2 ^ 2 + y : Nat) : Int) := by
  rw [show n * 2 ^ 2 = n * 4 by omega]
  unfold wrap64; omega
theorem fo3 (P : Nat) (h1 : 1 ≤ P) (h : P ≤ 65536) : wrap64 (wrap64 (P : Int) - 1) = ((P - 1 : Nat) : Int) := by unfold wrap64; omega
theorem op1 : ∀ c : Fin 33, wrap64 (((c.val : Int) - max 0 ((c.val : Int) / 2 - 1) * 2) * 2 ^ (max 0 ((c.val : Int) / 2 - 1)).toNat) = ((open17 c.val 1).1 : Int) ∧ max 0 ((c.val : Int) / 2 - 1) = ((open17 c.val 1).2 : Int) := by decide +kernel
theorem op2 : ∀ c : Fin 33, wrap64 (((c.val : Int) - max 0 ((c.val : Int) / 4 - 1) * 4) * 2 ^ (max 0 ((c.val : Int) / 4 - 1)).toNat) = ((open17 c.val 2).1 : Int) ∧ max 0 ((c.val : Int) / 4 - 1) = ((open17 c.val 2).2 : Int) := by decide +kernel
theorem open17_c (w : World) (c kept : Nat) (hc : c ≤ 32) (hk : kept = 1 ∨ kept = 2) : Calls Tryz.prog 108 #[.int .i64 c, .int .i64 kept] w fun e w' => e = .returned (.tuple #[.int .i64 (open17 c kept).1, .int .i64 (open17 c kept).2]) ∧ w = w' := by
  rcases hk with rfl | rfl
  · obtain ⟨h1, h2⟩ := op1 ⟨c, by omega⟩
    have H1 := Lib.hid h1; have H2 := Lib.hid h2
    clear h1 h2
    generalize open17 c 1 = R at *
    obtain ⟨r1, r2⟩ := R
    go_enter Tryz.func108, Tryz.ntmps108
    go_wp2_with fail
    go_ret2
    refine ⟨?_, rfl⟩
    show Ending.returned (.tuple #[.int .i64 (wrap64 (((c : Int) - max 0 ((c : Int) / 2 - 1) * 2) * 2 ^ (max 0 ((c : Int) / 2 - 1)).toNat)), .int .i64 (max 0 ((c : Int) / 2 - 1))]) = _
    rw [H1.out, H2.out]
  · obtain ⟨h1, h2⟩ := op2 ⟨c, by omega⟩
    have H1 := Lib.hid h1; have H2 := Lib.hid h2
    clear h1 h2
    generalize open17 c 2 = R at *
    obtain ⟨r1, r2⟩ := R
    go_enter Tryz.func108, Tryz.ntmps108
    go_wp2_with fail
    go_ret2
    refine ⟨?_, rfl⟩
    show Ending.returned (.tuple #[.int .i64 (wrap64 (((c : Int) - max 0 ((c : Int) / 4 - 1) * 4) * 2 ^ (max 0 ((c : Int) / 4 - 1)).toNat)), .int .i64 (max 0 ((c : Int) / 4 - 1))]) = _
    rw [H1.out, H2.out]
theorem len_open : ∀ k : Fin 28, lbs k.val = 3 + (open17 k.val 2).1 ∧ lex (257 + k.val) = (open17 k.val 2).2 ∧ (open17 k.val 2).1 ≤ 256 ∧ (open17 k.val 2).2 ≤ 6 := by decide +kernel
theorem dst_open : ∀ k : Fin 32, dbs k.val = 1 + (open17 k.val 1).1 ∧ dex k.val = (open17 k.val 1).2 ∧ (open17 k.val 1).1 ≤ 65536 ∧ (open17 k.val 1).2 ≤ 16 := by decide +kernel
theorem dyn_length (w : World) (code : Int) (large : Bool) (hs : (Lit.int .i64 code).wf = true) : Calls Tryz.prog 92 #[.int .i64 code, .bool large] w fun e w' => e = .returned (.tuple #[.int .i64 (lenOf code large).1, .int .i64 (lenOf code large).2.1, .bool (lenOf code large).2.2]) ∧ Keep [] w w' := by
  unfold lenOf
  by_cases h1 : code < 257 ∨ 285 < code
  · rw [if_pos h1]
    by_cases h2 : code < 257
    · have b1 : decide (code < 257) = true := by simp; omega
      clear h1
      go_enter Tryz.func92, Tryz.ntmps92
      go_wp2_with fail
      go_ret3
      exact ⟨rfl, Keep.refl _ _⟩
    · have b1 : decide (code < 257) = false := by simp; omega
      have b2 : decide (code > 285) = true := by simp; omega
      clear h1
      go_enter Tryz.func92, Tryz.ntmps92
      go_wp2_with fail
      go_ret3
      exact ⟨rfl, Keep.refl _ _⟩
  · rw [if_neg h1]
    have b1 : decide (code < 257) = false := by simp; omega
    have b2 : decide (code > 285) = false := by simp; omega
    by_cases h3 : code = 285
    · rw [if_pos h3]
      subst h3
      cases large
      all_goals
        clear h1
        go_enter Tryz.func92, Tryz.ntmps92
        go_wp2_with fail
        go_ret3
        exact ⟨rfl, Keep.refl _ _⟩
    · rw [if_neg h3]
      obtain ⟨k, rfl⟩ : ∃ k : Nat, code = ((257 + k : Nat) : Int) := ⟨(code - 257).toNat, by omega⟩
      have hk : k < 28 := by omega
      obtain ⟨e1, e2, e3, e4⟩ := len_open ⟨k, hk⟩
      dsimp only at e1 e2 e3 e4
      have ek : (((257 + k : Nat) : Int)).toNat = 257 + k := Int.toNat_natCast _
      rw [ek, show 257 + k - 257 = k by omega, e1, e2]
      have H := Lib.hid (open17_c w k 2 (by omega) (.inr rfl))
      generalize open17 k 2 = R at *
      obtain ⟨r1, r2⟩ := R
      dsimp only at e3 e4
      have b3 : ((((257 + k : Nat) : Int)) == 285) = false := by simp; omega
      have w1 : IntKind.i64.wrap (((257 + k : Nat) : Int) - 257) = (k : Int) := by rw [IntKind.wrap_i64]; omega
      have w2 : IntKind.i64.wrap (3 + (r1 : Int)) = ((3 + r1 : Nat) : Int) := by rw [IntKind.wrap_i64]; omega
      obtain ⟨cd, hcd⟩ : ∃ cd : Int, ((257 + k : Nat) : Int) = cd := ⟨_, rfl⟩
      rw [hcd] at b1 b2 b3 w1 hs ⊢
      clear h1 h3 e1 e2 ek hcd
      go_enter Tryz.func92, Tryz.ntmps92
      go_wp2_with fail
      refine H.out.mono ?_; rintro e w' ⟨rfl, rfl⟩
      go_wp2_with fail
      go_ret3
      exact ⟨rfl, Keep.refl _ _⟩
theorem dcodes_c (w : World) (large : Bool) : Calls Tryz.prog 94 #[.bool large] w fun e w' => e = .returned (.int .i64 (if large then 32 else 30 : Nat)) ∧ w = w' := by
  cases large
  all_goals (go_enter Tryz.func94, Tryz.ntmps94; go_wp2_with fail; go_ret; exact ⟨rfl, rfl⟩)
theorem dyn_distance (w : World) (code : Int) (large : Bool) (hs : (Lit.int .i64 code).wf = true) : Calls Tryz.prog 93 #[.int .i64 code, .bool large] w fun e w' => e = .returned (.tuple #[.int .i64 (dstOf code large).1, .int .i64 (dstOf code large).2.1, .bool (dstOf code large).2.2]) ∧ Keep [] w w' := by
  have HD := Lib.hid (fun w => dcodes_c w large)
  obtain ⟨M, hM⟩ : ∃ M : Nat, (if large then 32 else 30) = M := ⟨_, rfl⟩
  rw [hM] at HD
  by_cases h1 : code < 0
  · have e : dstOf code large = (0, 0, false) := by unfold dstOf; rw [if_pos (.inl h1)]
    rw [e]
    have b1 : decide (code < 0) = true := by simp; omega
    clear h1 e hM
    go_enter Tryz.func93, Tryz.ntmps93
    go_wp2_with fail
    go_ret3
    exact ⟨rfl, Keep.refl _ _⟩
  · have b1 : decide (code < 0) = false := by simp; omega
    by_cases h2 : (M : Int) ≤ code
    · have e : dstOf code large = (0, 0, false) := by
        unfold dstOf; rw [if_pos]
        cases large <;> simp at hM <;> subst hM <;> simp <;> omega
      rw [e]
      have b2 : decide (code ≥ (M : Int)) = true := by simp; omega
      have b2' : (M : Int) ≤ code := h2
      clear h1 e hM
      go_enter Tryz.func93, Tryz.ntmps93
      go_wp2_with fail
      refine (HD.out w).mono ?_; rintro e w' ⟨rfl, rfl⟩
      go_wp2_with fail
      go_ret3
      exact ⟨rfl, Keep.refl _ _⟩
    · obtain ⟨k, rfl⟩ : ∃ k : Nat, code = k := ⟨code.toNat, by omega⟩
      have hk : k < 32 := by cases large <;> simp at hM <;> omega
      have e : dstOf (k : Int) large = (dbs k, dex k, true) := by
        unfold dstOf; rw [if_neg, Int.toNat_natCast]
        cases large <;> simp at hM <;> subst hM <;> simp <;> omega
      obtain ⟨e1, e2, e3, e4⟩ := dst_open ⟨k, hk⟩
      dsimp only at e1 e2 e3 e4
      rw [e, e1, e2]
      have H := Lib.hid (fun w => open17_c w k 1 (by omega) (.inl rfl))
      generalize open17 k 1 = R at *
      obtain ⟨r1, r2⟩ := R
      dsimp only at e3 e4
      have b2 : decide ((k : Int) ≥ (M : Int)) = false := by simp; omega
      have b2' : (k : Int) < (M : Int) := by omega
      have b2'' : ¬ M ≤ k := by omega
      have w2 : IntKind.i64.wrap (1 + (r1 : Int)) = ((1 + r1 : Nat) : Int) := by rw [IntKind.wrap_i64]; omega
      clear h1 h2 e e1 e2 hM
      go_enter Tryz.func93, Tryz.ntmps93
      go_wp2_with fail
      refine (HD.out w).mono ?_; rintro e w' ⟨rfl, rfl⟩
      go_wp2_with fail
      refine (H.out w).mono ?_; rintro e w' ⟨rfl, rfl⟩
      go_wp2_with fail
      go_ret3
      exact ⟨rfl, Keep.refl _ _⟩
theorem lcb : ∀ k : Fin 29, (3 ≤ (lenOf ((257 + k.val : Nat) : Int) false).1 ∧ 3 ≤ (lenOf ((257 + k.val : Nat) : Int) true).1) ∧
    (if k.val = 27 then (lenOf ((257 + k.val : Nat) : Int) false).1 + 30 else (lenOf ((257 + k.val : Nat) : Int) false).1 + 2 ^ (lenOf ((257 + k.val : Nat) : Int) false).2.1 - 1) ≤ 258 ∧
    (if k.val = 27 then (lenOf ((257 + k.val : Nat) : Int) true).1 + 30 else (lenOf ((257 + k.val : Nat) : Int) true).1 + 2 ^ (lenOf ((257 + k.val : Nat) : Int) true).2.1 - 1) ≤ (if k.val < 28 then 257 else 65538) := by decide +kernel
theorem lc_none (n : Int) (large : Bool) (h : n < 3 ∨ (258 < n ∧ large = false) ∨ 65538 < n) : lcOf n large = (0, 0, 0, false) := by
  have hf : (List.range 29).find? (lcHit n large) = none := by
    rw [List.find?_eq_none]
    intro k hk
    have hk : k < 29 := by simpa using hk
    obtain ⟨⟨a1, a2⟩, a3, a4⟩ := lcb ⟨k, hk⟩
    dsimp only at a1 a2 a3 a4
    have a5 : (if k < 28 then 257 else 65538) ≤ 65538 := by split <;> omega
    unfold lcHit
    rw [decide_eq_true_eq]
    rintro ⟨h1, h2⟩
    cases large with
    | false => rcases h with h | ⟨h, _⟩ | h <;> omega
    | true => rcases h with h | ⟨_, h⟩ | h
              · omega
              · simp at h
              · omega
  unfold lcOf
  rw [if_neg (by rintro ⟨h1, h2⟩; subst h1; subst h2; simp at h), hf]
theorem lc_big (n : Nat) (h1 : 258 ≤ n) (h2 : n ≤ 65538) : lcOf n true = (285, 16, n - 3, true) := by
  have hl : lenOf ((257 + 28 : Nat) : Int) true = (3, 16, true) := by decide +kernel
  have hf : (List.range 29).find? (lcHit n true) = some 28 := by
    rw [show List.range 29 = List.range 28 ++ [28] from rfl, List.find?_append]
    have : (List.range 28).find? (lcHit n true) = none := by
      rw [List.find?_eq_none]
      intro k hk
      have hk : k < 28 := by simpa using hk
      obtain ⟨⟨a1, a2⟩, a3, a4⟩ := lcb ⟨k, by omega⟩
      dsimp only at a4
      rw [if_pos hk] at a4
      unfold lcHit
      rw [decide_eq_true_eq]
      rintro ⟨h3, h4⟩
      omega
    rw [this]
    have hh : lcHit n true 28 = true := by
      unfold lcHit
      rw [hl, decide_eq_true_eq, if_neg (by decide)]
      dsimp only
      omega
    simp [List.find?, hh]
  unfold lcOf
  rw [if_neg (by simp), hf]
  dsimp only
  rw [hl]
  dsimp only
  congr 3
  omega
theorem lc_mid : ∀ k : Fin 255, ∀ b : Bool, lcOf ((k.val + 3 : Nat) : Int) b = (257 + (fold17 k.val 2).1, (fold17 k.val 2).2.1, (fold17 k.val 2).2.2, true) ∧ (fold17 k.val 2).1 ≤ 100 := by decide +kernel
theorem find_some17 {m : Nat} {p : Nat → Bool} {k : Nat} (hk : k < m) (hp : p k = true) (h : ∀ i, i < k → p i = false) : (List.range m).find? p = some k := by
  rw [List.find?_range_eq_some]
  exact ⟨hp, by simpa using hk, fun j hj => by rw [h j hj]; rfl⟩
theorem dbs_mono (i j : Nat) (h : i ≤ j) : dbs i ≤ dbs j := by
  induction h with
  | refl => exact Nat.le_refl _
  | step _ ih => exact Nat.le_trans ih (by rw [dbs]; exact Nat.le_add_right _ _)
theorem dst_at (k : Nat) (large : Bool) (hk : k < (if large then 32 else 30)) : dstOf (k : Int) large = (dbs k, dex k, true) := by
  unfold dstOf; rw [if_neg, Int.toNat_natCast]
  cases large <;> simp at hk <;> simp <;> omega
/-- the code of a distance -/
theorem dc_mid (x : Nat) (large : Bool) (hx : x < if large then 65536 else 32768) : dcOf ((x + 1 : Nat) : Int) large = ((fold17 x 1).1, (fold17 x 1).2.1, (fold17 x 1).2.2, true) := by
  have hx2 : x < 65536 := by split at hx <;> omega
  -- the code's numbers
  have key : ∃ c m, (fold17 x 1).1 = c ∧ (fold17 x 1).2.1 = m ∧ c < (if large then 32 else 30) ∧ dbs c + x % 2 ^ m = x + 1 ∧ dex c = m ∧ (fold17 x 1).2.2 = x % 2 ^ m := by
    refine ⟨_, _, rfl, rfl, ?_⟩
    show (blen x - 1 - 1) * 2 ^ 1 + x / 2 ^ (blen x - 1 - 1) < _ ∧ dbs ((blen x - 1 - 1) * 2 ^ 1 + x / 2 ^ (blen x - 1 - 1)) + x % 2 ^ (blen x - 1 - 1) = _ ∧ dex ((blen x - 1 - 1) * 2 ^ 1 + x / 2 ^ (blen x - 1 - 1)) = blen x - 1 - 1 ∧ x % 2 ^ (blen x - 1 - 1) = x % 2 ^ (blen x - 1 - 1)
    by_cases h4 : x < 4
    · have : x = 0 ∨ x = 1 ∨ x = 2 ∨ x = 3 := by omega
      rcases this with rfl | rfl | rfl | rfl <;> cases large <;> decide +kernel
    · obtain ⟨l1, l2, l3, l4⟩ := blen_at x (by omega) hx2
      obtain ⟨L, hL⟩ : ∃ L, blen x = L := ⟨_, rfl⟩
      rw [hL] at l1 l2 l3 l4 ⊢
      have hL3 : 3 ≤ L := by
        rcases Nat.lt_or_ge L 3 with g | g
        · have : 2 ^ L ≤ 2 ^ 2 := Nat.pow_le_pow_right (by decide) (by omega)
          omega
        · exact g
      obtain ⟨m, rfl⟩ : ∃ m, L = m + 2 := ⟨L - 2, by omega⟩
      rw [show m + 2 - 1 - 1 = m by omega]
      rw [show m + 2 - 1 = m + 1 by omega, Nat.pow_succ] at l3
      rw [Nat.pow_add] at l4
      have hP := Nat.two_pow_pos m
      have hm15 : m ≤ 14 := by omega
      have hml : large = false → m ≤ 13 := fun e => by
        subst e
        rcases Nat.lt_or_ge m 14 with g | g
        · omega
        · obtain rfl : m = 14 := by omega
          simp at hx; omega
      have hdiv : x / 2 ^ m = 2 ∨ x / 2 ^ m = 3 := by
        have h1 : 2 ≤ x / 2 ^ m := (Nat.le_div_iff_mul_le hP).2 (by omega)
        have h2 : x / 2 ^ m < 4 := (Nat.div_lt_iff_lt_mul hP).2 (by omega)
        omega
      have hmod := Nat.div_add_mod x (2 ^ m)
      obtain ⟨y, hy⟩ : ∃ y, x / 2 ^ m = y := ⟨_, rfl⟩
      rw [hy] at hdiv hmod ⊢
      have hc32 : m * 2 ^ 1 + y < 32 := by omega
      have hb := dbs_closed ⟨m * 2 ^ 1 + y, hc32⟩
      dsimp only at hb
      rw [if_neg (by omega), show (m * 2 ^ 1 + y) / 2 - 1 = m by omega, show 2 + (m * 2 ^ 1 + y) % 2 = y by omega] at hb
      refine ⟨by cases large with | true => exact hc32 | false => have := hml rfl; show _ < 30; omega, ?_, ?_, rfl⟩
      · rw [hb]; omega
      · unfold dex; rw [if_neg (by omega)]; omega
  obtain ⟨c, m, k1, k2, k3, k4, k5, k6⟩ := key
  have hc32 : c < 32 := by split at k3 <;> omega
  have hlt := Nat.mod_lt x (Nat.two_pow_pos m)
  have hf : (List.range 32).find? (dcHit ((x + 1 : Nat) : Int) large) = some c := by
    refine find_some17 hc32 ?_ (fun i hi => ?_)
    · unfold dcHit
      rw [dst_at c large k3]
      simp only [Bool.true_and, decide_eq_true_eq]
      rw [k5]
      have := Nat.two_pow_pos m
      omega
    · unfold dcHit
      rw [dst_at i large (by omega)]
      simp only [Bool.true_and, decide_eq_false_iff_not]
      have h1 := dbs_mono (i + 1) c hi
      have h2 : dbs (i + 1) = dbs i + 2 ^ dex i := rfl
      have h3 := Nat.two_pow_pos (dex i)
      rintro ⟨h4, h5⟩
      omega
  unfold dcOf
  rw [hf]
  dsimp only
  rw [dst_at c large k3, k1, k2, k6, k5]
  dsimp only
  congr 3
  omega
theorem dc_none (n : Int) (large : Bool) (h : n < 1 ∨ (if large then 65536 else 32768) < n) : dcOf n large = (0, 0, 0, false) := by
  have hf : (List.range 32).find? (dcHit n large) = none := by
    rw [List.find?_eq_none]
    intro i hi
    have hi : i < 32 := by simpa using hi
    unfold dcHit
    by_cases hk : i < (if large then 32 else 30)
    · rw [dst_at i large hk]
      simp only [Bool.true_and, decide_eq_true_eq]
      have h2 : dbs (i + 1) = dbs i + 2 ^ dex i := rfl
      have h3 := Nat.two_pow_pos (dex i)
      have h4 := dbs_mono 0 i (Nat.zero_le _)
      have h5 : dbs 0 = 1 := rfl
      have h6 := dbs_mono (i + 1) _ hk
      have h7 : dbs (if large then 32 else 30) = (if large then 65537 else 32769) := by cases large <;> decide +kernel
      rw [h7] at h6
      rintro ⟨h8, h9⟩
      cases large <;> simp at h h6 <;> omega
    · have : (dstOf (i : Int) large).2.2 = false := by
        unfold dstOf; rw [if_pos]
        cases large <;> simp at hk <;> simp <;> omega
      rw [this]; simp
  unfold dcOf
  rw [hf]
end Go.Proofs.YtokfcgloogdeiaaGreatDoor
