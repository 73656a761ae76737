/- Numbers of layer 17: what codes stand for, which code a length, a distance has. -/
import Derived.Test.YtibkepjbblfkoaaPmMath
namespace Go.Proofs.Ytibkepjbblfkoaa
set_option linter.unusedVariables false
set_option linter.unusedSimpArgs false

/-- more bits behind a length's code; its least length, of code 257 + k -/
def lex (c : Nat) : Nat := if c < 265 then 0 else (c - 261) / 4
def lbs : Nat → Nat
  | 0 => 3
  | k + 1 => lbs k + 2 ^ lex (257 + k)
def lenOf (code : Int) (large : Bool) : Nat × Nat × Bool :=
  if code < 257 ∨ 285 < code then (0, 0, false) else if code = 285 then (if large then (3, 16, true) else (258, 0, true)) else (lbs (code.toNat - 257), lex code.toNat, true)
/-- more bits behind a distance's code; its least distance -/
def dex (c : Nat) : Nat := if c < 4 then 0 else c / 2 - 1
def dbs : Nat → Nat
  | 0 => 1
  | k + 1 => dbs k + 2 ^ dex k
def dstOf (code : Int) (large : Bool) : Nat × Nat × Bool :=
  if code < 0 ∨ 31 < code ∨ (29 < code ∧ large = false) then (0, 0, false) else (dbs code.toNat, dex code.toNat, true)
/-- the least code that reaches a length -/
def lcHit (n : Int) (large : Bool) (k : Nat) : Bool := decide (((lenOf (257 + k : Nat) large).1 : Int) ≤ n ∧ n ≤ (if k = 27 then (lenOf (257 + k : Nat) large).1 + 30 else (lenOf (257 + k : Nat) large).1 + 2 ^ (lenOf (257 + k : Nat) large).2.1 - 1 : Nat))
def lcOf (n : Int) (large : Bool) : Nat × Nat × Nat × Bool :=
  if n = 258 ∧ large = false then (285, 0, 0, true)
  else match (List.range 29).find? (lcHit n large) with
    | some k => (257 + k, (lenOf (257 + k : Nat) large).2.1, (n - (lenOf (257 + k : Nat) large).1).toNat, true)
    | none => (0, 0, 0, false)
def dcHit (n : Int) (large : Bool) (c : Nat) : Bool := (dstOf c large).2.2 && decide (((dstOf c large).1 : Int) ≤ n ∧ n ≤ ((dstOf c large).1 + 2 ^ (dstOf c large).2.1 - 1 : Nat))
def dcOf (n : Int) (large : Bool) : Nat × Nat × Nat × Bool :=
  match (List.range 32).find? (dcHit n large) with
    | some c => (c, (dstOf c large).2.1, (n - (dstOf c large).1).toNat, true)
    | none => (0, 0, 0, false)
/-- the least lengths, written out -/
theorem lbs_closed : ∀ k : Fin 28, lbs k.val = if k.val < 8 then 3 + k.val else 3 + 2 ^ ((k.val - 4) / 4) * (4 + (k.val - 4) % 4) := by decide +kernel
theorem lbs_le : ∀ k : Fin 28, lbs k.val ≤ 227 ∧ lex (257 + k.val) ≤ 5 := by decide +kernel
theorem dbs_closed : ∀ k : Fin 32, dbs k.val = if k.val < 4 then 1 + k.val else 1 + 2 ^ (k.val / 2 - 1) * (2 + k.val % 2) := by decide +kernel
theorem dbs_le : ∀ k : Fin 32, dbs k.val ≤ 49153 ∧ dex k.val ≤ 14 := by decide +kernel
/-- each length from 3 to 258 has a code -/
theorem lcOf_all : ∀ n : Fin 256, (lcOf ((n.val + 3 : Nat) : Int) false).2.2.2 = true ∧ (lcOf ((n.val + 3 : Nat) : Int) true).2.2.2 = true := by decide +kernel
theorem step_find (f : Nat → Nat) (m n : Nat) (h0 : f 0 ≤ n) (h : n < f m) : ∃ c, c < m ∧ f c ≤ n ∧ n < f (c + 1) := by
  induction m with
  | zero => omega
  | succ m ih =>
    by_cases h1 : n < f m
    · obtain ⟨c, h2, h3, h4⟩ := ih h1
      exact ⟨c, by omega, h3, h4⟩
    · exact ⟨m, by omega, by omega, h⟩
theorem dbs30 : dbs 30 = 32769 := by decide +kernel
/-- each distance from 1 to 32768 has a code -/
theorem dcOf_all (n : Int) (large : Bool) (h : 1 ≤ n ∧ n ≤ 32768) : (dcOf n large).2.2.2 = true := by
  obtain ⟨m, rfl⟩ : ∃ m : Nat, n = m := ⟨n.toNat, by omega⟩
  obtain ⟨c, hc, h1, h2⟩ := step_find dbs 30 m (by show 1 ≤ m; omega) (by rw [dbs30]; omega)
  have hd : dstOf c large = (dbs c, dex c, true) := by
    unfold dstOf; rw [if_neg (by omega), Int.toNat_natCast]
  have hit : dcHit m large c = true := by
    unfold dcHit; rw [hd]
    have : dbs (c + 1) = dbs c + 2 ^ dex c := rfl
    simp only [Bool.true_and, decide_eq_true_eq]
    omega
  unfold dcOf
  cases hf : (List.range 32).find? (dcHit m large) with
  | some c' => rfl
  | none =>
    have := List.find?_eq_none.1 hf c (by simp; omega)
    exact absurd hit this
/-- the code of a length stands for it -/
theorem lcOf_stand (n : Int) (large : Bool) (h : (lcOf n large).2.2.2 = true) : ∃ b, lenOf (lcOf n large).1 large = (b, (lcOf n large).2.1, true) ∧ (b : Int) + (lcOf n large).2.2.1 = n ∧ (lcOf n large).2.2.1 < 2 ^ (lcOf n large).2.1 := by
  unfold lcOf at h ⊢
  by_cases h0 : n = 258 ∧ large = false
  · rw [if_pos h0]
    obtain ⟨rfl, rfl⟩ := h0
    exact ⟨258, rfl, rfl, by decide⟩
  · rw [if_neg h0] at h ⊢
    cases hf : (List.range 29).find? (lcHit n large) with
    | none => rw [hf] at h; simp at h
    | some k =>
      have hk := List.find?_some hf
      have hm : k < 29 := by simpa using List.mem_of_find?_eq_some hf
      unfold lcHit at hk
      rw [decide_eq_true_eq] at hk
      dsimp only
      have hok : (lenOf ((257 + k : Nat) : Int) large).2.2 = true := by
        unfold lenOf; rw [if_neg (by omega)]; split
        · split <;> rfl
        · rfl
      refine ⟨(lenOf ((257 + k : Nat) : Int) large).1, by rw [← hok], by omega, ?_⟩
      by_cases h27 : k = 27
      · rw [if_pos h27] at hk
        subst h27
        have : lenOf ((257 + 27 : Nat) : Int) large = (227, 5, true) := by cases large <;> decide +kernel
        rw [this] at hk ⊢
        dsimp only at hk ⊢
        omega
      · rw [if_neg h27] at hk
        have := Nat.two_pow_pos (lenOf ((257 + k : Nat) : Int) large).2.1
        omega
theorem dcOf_stand (n : Int) (large : Bool) (h : (dcOf n large).2.2.2 = true) : ∃ b, dstOf (dcOf n large).1 large = (b, (dcOf n large).2.1, true) ∧ (b : Int) + (dcOf n large).2.2.1 = n ∧ (dcOf n large).2.2.1 < 2 ^ (dcOf n large).2.1 := by
  unfold dcOf at h ⊢
  cases hf : (List.range 32).find? (dcHit n large) with
  | none => rw [hf] at h; simp at h
  | some c =>
    have hk := List.find?_some hf
    unfold dcHit at hk
    rw [Bool.and_eq_true, decide_eq_true_eq] at hk
    dsimp only
    have := Nat.two_pow_pos (dstOf c large).2.1
    exact ⟨(dstOf c large).1, by rw [← hk.1], by omega, by omega⟩
end Go.Proofs.Ytibkepjbblfkoaa
