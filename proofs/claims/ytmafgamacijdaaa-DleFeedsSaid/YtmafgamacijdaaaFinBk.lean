/- Numbers of layer 9: the nearest place behind with the same first bytes, and what is found along such places. -/
import Derived.Test.YtmafgamacijdaaaFinMath2
namespace Go.Proofs.Ytmafgamacijdaaa
set_option linter.unusedVariables false
set_option linter.unusedSimpArgs false

/-- what is counted goes just as far as P holds -/
theorem cntUp_eq {P : Nat → Bool} {m a : Nat} (ha : a ≤ m) (hall : ∀ j, j < a → P j = true) (hstop : a = m ∨ P a = false) : cntUp P m 0 = a := by
  have h1 := cntUp_ge P m 0 a (Nat.zero_le _) (by omega) (fun j _ h => hall j h)
  have h2 := (cntUp_le P m 0).2
  rcases hstop with h | h
  · omega
  · refine Nat.le_antisymm (Nat.le_of_not_lt fun hlt => ?_) h1
    have := cntUp_all P m 0 a (Nat.zero_le _) hlt
    rw [h] at this; cases this
theorem sme_all {b : List UInt8} {f i m j : Nat} (h : j < sme b f i m) : i + j < b.length ∧ b.getD (f + j) 0 = b.getD (i + j) 0 := by
  have := cntUp_all (sm1 b f i) m 0 j (Nat.zero_le _) h
  unfold sm1 at this
  simpa using this
theorem sme_le (b : List UInt8) (f i m : Nat) : sme b f i m ≤ m := by
  have := (cntUp_le (sm1 b f i) m 0).2
  unfold sme; omega
/-- m bytes are the same from two places on -/
def eqm (b : List UInt8) (f i m : Nat) : Prop := i + m ≤ b.length ∧ ∀ j, j < m → b.getD (f + j) 0 = b.getD (i + j) 0
theorem sme_iff {b : List UInt8} {f i m : Nat} (hm : 0 < m) : ¬ sme b f i m < m ↔ eqm b f i m := by
  constructor
  · intro h
    have e : sme b f i m = m := by have := sme_le b f i m; omega
    refine ⟨?_, fun j hj => (sme_all (m := m) (by rw [e]; exact hj)).2⟩
    have := (sme_all (b := b) (f := f) (i := i) (m := m) (j := m - 1) (by omega)).1
    omega
  · intro ⟨h1, h2⟩
    have : sme b f i m = m := cntUp_eq (Nat.le_refl _) (fun j hj => by
      unfold sm1
      rw [decide_eq_true (show i + j < b.length by omega), h2 j hj]; simp) (.inl rfl)
    omega
/-- the nearest place below k from which on the same m bytes stand as from i on -/
def prv (b : List UInt8) (m i : Nat) : Nat → Option Nat
  | 0 => none
  | k + 1 => if sme b k i m < m then prv b m i k else some k
theorem prv_some {b : List UInt8} {m i k p : Nat} (hm : 0 < m) (h : prv b m i k = some p) : p < k ∧ eqm b p i m := by
  induction k with
  | zero => cases h
  | succ k ih =>
    rw [prv] at h
    split at h
    · have := ih h; exact ⟨by omega, this.2⟩
    · next h1 =>
      obtain rfl : k = p := Option.some.inj h
      exact ⟨by omega, (sme_iff hm).1 h1⟩
/-- behind a place with the same bytes the same places come -/
theorem prv_chain {b : List UInt8} {m i p : Nat} (hm : 0 < m) (hpi : p ≤ i) (h : eqm b p i m) (k : Nat) (hk : k ≤ p) : prv b m p k = prv b m i k := by
  induction k with
  | zero => rfl
  | succ k ih =>
    have e : (sme b k p m < m) ↔ (sme b k i m < m) := by
      have h1 := sme_iff (b := b) (f := k) (i := p) hm
      have h2 := sme_iff (b := b) (f := k) (i := i) hm
      have h3 : eqm b k p m ↔ eqm b k i m := by
        constructor
        · intro ⟨a1, a2⟩; exact ⟨h.1, fun j hj => (a2 j hj).trans (h.2 j hj)⟩
        · intro ⟨a1, a2⟩; exact ⟨by omega, fun j hj => (a2 j hj).trans (h.2 j hj).symm⟩
      constructor
      · intro g; exact Decidable.not_not.1 fun g' => (h1.2 (h3.2 (h2.1 g'))) g
      · intro g; exact Decidable.not_not.1 fun g' => (h2.2 (h3.1 (h1.1 g'))) g
    rw [prv, prv, ih (by omega)]
    by_cases g : sme b k i m < m
    · rw [if_pos g, if_pos (e.2 g)]
    · rw [if_neg g, if_neg (fun g' => g (e.1 g'))]
/-- how far back the nearest place with the same m bytes is -/
def bck (b : List UInt8) (m i : Nat) : Nat := match prv b m i i with | some p => i - p | none => 0
theorem bck_some {b : List UInt8} {m i p : Nat} (h : prv b m i i = some p) : bck b m i = i - p := by unfold bck; rw [h]
theorem bck_none {b : List UInt8} {m i : Nat} (h : prv b m i i = none) : bck b m i = 0 := by unfold bck; rw [h]
theorem prv_short {b : List UInt8} {m i : Nat} (hm : 0 < m) (h : b.length < i + m) (k : Nat) : prv b m i k = none := by
  induction k with
  | zero => rfl
  | succ k ih =>
    rw [prv, if_pos, ih]
    exact Decidable.not_not.1 fun g => by have := ((sme_iff hm).1 g).1; omega
theorem bck_short {b : List UInt8} {m i : Nat} (hm : 0 < m) (h : b.length < i + m) : bck b m i = 0 := bck_none (prv_short hm h i)
/-- what is found, when one place more is looked at -/
def upd (b : List UInt8) (s : Sh) (i p : Nat) (best : Tk) : Tk := if best.len < (sme b p i s.max.toNat : Int) then ⟨0, (i : Int) - p, sme b p i s.max.toNat⟩ else best
theorem atF_prv (b : List UInt8) (s : Sh) (i k L : Nat) (best : Tk) : atF b s i k L best = match prv b s.min.toNat i k with
    | none => best
    | some p => if (i : Int) - p ≤ s.win ∧ (L : Int) < s.chain then atF b s i p (L + 1) (upd b s i p best) else best := by
  induction k with
  | zero => rfl
  | succ k ih =>
    rw [atF, prv]
    by_cases h1 : (i : Int) - k ≤ s.win ∧ (L : Int) < s.chain
    · rw [if_pos h1]
      by_cases h2 : sme b k i s.min.toNat < s.min.toNat
      · rw [if_pos h2, if_pos h2, ih]
      · rw [if_neg h2, if_neg h2]
        show _ = if (i : Int) - k ≤ s.win ∧ (L : Int) < s.chain then _ else best
        rw [if_pos h1]; rfl
    · rw [if_neg h1]
      by_cases h2 : sme b k i s.min.toNat < s.min.toNat
      · rw [if_pos h2]
        cases h : prv b s.min.toNat i k with
        | none => rfl
        | some p =>
          have hp : p < k := by
            by_cases hm : 0 < s.min.toNat
            · exact (prv_some hm h).1
            · omega
          show best = if _ then _ else best
          rw [if_neg (fun g => h1 ⟨by omega, g.2⟩)]
      · rw [if_neg h2]
        show best = if _ then _ else best
        rw [if_neg h1]
/-- no more than all that is left of the text -/
theorem sme_most (b : List UInt8) (p i m : Nat) (hi : i ≤ b.length) : sme b p i m ≤ min m (b.length - i) := by
  have h := sme_le b p i m
  by_cases h0 : sme b p i m = 0
  · omega
  · have := (sme_all (b := b) (f := p) (i := i) (m := m) (j := sme b p i m - 1) (by omega)).1
    omega
/-- when the best one is as long as can be, none behind it counts -/
theorem atF_full {b : List UInt8} {s : Sh} {i : Nat} (hi : i ≤ b.length) (k L : Nat) (best : Tk) (h : ((min s.max.toNat (b.length - i) : Nat) : Int) ≤ best.len) : atF b s i k L best = best := by
  induction k generalizing L with
  | zero => rfl
  | succ k ih =>
    have := sme_most b k i s.max.toNat hi
    rw [atF]
    split
    · split
      · exact ih _
      · rw [if_neg (by omega)]; exact ih _
    · rfl
/-- too few bytes are left -/
theorem atT_few {b : List UInt8} {s : Sh} (hs : s.ok) {i : Nat} (hi : i ≤ b.length) (h : min s.max.toNat (b.length - i) < s.min.toNat) : atT b s i = ⟨0, 0, 0⟩ := by
  obtain ⟨h1, h2, h3, h4, h5, h6, h7, h8⟩ := hs
  unfold atT
  rw [atF_prv, prv_short (by omega) (by omega)]
/-- a byte that differs: no longer than that -/
theorem sme_differ {b : List UInt8} {p i m a : Nat} (h : b.getD (p + a) 0 ≠ b.getD (i + a) 0) : sme b p i m ≤ a :=
  Nat.le_of_not_lt fun g => h (sme_all g).2
/-- counted from the bytes on that are known to be the same -/
theorem sme_from {b : List UInt8} {p i m : Nat} {n : Nat} (hi : i ≤ b.length) (hn : n ≤ min m (b.length - i)) (hall : ∀ j, j < n → b.getD (p + j) 0 = b.getD (i + j) 0)
    (hstop : n = min m (b.length - i) ∨ b.getD (p + n) 0 ≠ b.getD (i + n) 0) : sme b p i m = n := by
  refine cntUp_eq (by omega) (fun j hj => ?_) ?_
  · unfold sm1
    rw [decide_eq_true (show i + j < b.length by omega), hall j hj]; simp
  · by_cases h1 : n = m
    · exact .inl h1
    · refine .inr ?_
      unfold sm1
      rcases hstop with h | h
      · rw [decide_eq_false (by omega)]; rfl
      · rw [beq_eq_false_iff_ne.2 h, Bool.and_false]
end Go.Proofs.Ytmafgamacijdaaa
