/- Numbers of layer 8: a copy in pieces, a text's runs one by one. -/
import Derived.Test.YtgojekhcdcgonaaTokMath
namespace Go.Proofs.Ytgojekhcdcgonaa
set_option linter.unusedVariables false
set_option linter.unusedSimpArgs false

/-- a copy of n bytes as several of most bytes each, the last of what is left -/
def pcs (d : Int) (most : Nat) (n : Nat) : List Tk := if h : n = 0 ∨ most = 0 then [] else ⟨0, d, (min n most : Nat)⟩ :: pcs d most (n - most)
termination_by n
decreasing_by omega
theorem pcs_zero (d : Int) (most : Nat) : pcs d most 0 = [] := by rw [pcs, dif_pos (.inl rfl)]
theorem pcs_step (d : Int) (most n : Nat) (h : 1 ≤ n) (hm : 1 ≤ most) : pcs d most n = ⟨0, d, (min n most : Nat)⟩ :: pcs d most (n - most) := by rw [pcs, dif_neg (by omega)]
theorem pcs_len (d : Int) (most n : Nat) : (pcs d most n).length ≤ n := by
  induction n using Nat.strongRecOn with
  | _ n ih =>
    by_cases h : n = 0 ∨ most = 0
    · rw [pcs, dif_pos h]; simp
    · rw [pcs, dif_neg h]
      have := ih (n - most) (by omega)
      simp only [List.length_cons]; omega
/-- one byte more: the last piece is longer, or there is a piece more -/
theorem pcs_succ (n : Nat) (h : 1 ≤ n) : ∃ l r, pcs 1 258 n = l ++ [⟨0, 1, r⟩] ∧ 1 ≤ r ∧ r ≤ 258 ∧ pcs 1 258 (n + 1) = if r = 258 then pcs 1 258 n ++ [⟨0, 1, 1⟩] else l ++ [⟨0, 1, r + 1⟩] := by
  induction n using Nat.strongRecOn with
  | _ n ih =>
    by_cases h1 : n < 258
    · refine ⟨[], n, ?_, by omega, by omega, ?_⟩
      · rw [pcs_step _ _ _ h (by omega), show n - 258 = 0 by omega, pcs_zero, show min n 258 = n by omega]; rfl
      · rw [if_neg (by omega), pcs_step _ _ _ (by omega) (by omega), show n + 1 - 258 = 0 by omega, pcs_zero, show min (n + 1) 258 = n + 1 by omega]
        simp
    · by_cases h2 : n = 258
      · subst h2
        refine ⟨[], 258, ?_, by omega, by omega, ?_⟩
        · rw [pcs_step _ _ _ h (by omega), pcs_zero]; rfl
        · rw [if_pos rfl, pcs_step _ _ _ (by omega) (by omega), pcs_step 1 258 258 (by omega) (by omega)]
          show _ :: pcs 1 258 1 = _
          rw [pcs_step 1 258 1 (by omega) (by omega), pcs_zero]; rfl
      · obtain ⟨l, r, e, r1, r2, e2⟩ := ih (n - 258) (by omega) (by omega)
        have e3 : pcs 1 258 n = ⟨0, 1, 258⟩ :: pcs 1 258 (n - 258) := by rw [pcs_step _ _ _ h (by omega), show min n 258 = 258 by omega]; rfl
        have e4 : pcs 1 258 (n + 1) = ⟨0, 1, 258⟩ :: pcs 1 258 (n - 258 + 1) := by rw [pcs_step _ _ _ (by omega) (by omega), show min (n + 1) 258 = 258 by omega, show n + 1 - 258 = n - 258 + 1 by omega]; rfl
        refine ⟨⟨0, 1, 258⟩ :: l, r, by rw [e3, e]; rfl, r1, r2, ?_⟩
        rw [e4, e2, e3]
        split <;> rfl
/-- a run's tokens -/
theorem rn_run (b : List UInt8) (k m : Nat) (hs : k = 0 ∨ b.getD k 0 ≠ b.getD (k - 1) 0) (hm : ∀ i, i ≤ m → b.getD (k + i) 0 = b.getD k 0) : rn b (k + 1 + m) = rn b k ++ ⟨b.getD k 0, 0, 0⟩ :: pcs 1 258 m := by
  induction m with
  | zero => rw [pcs_zero, Nat.add_zero, rn, if_pos hs]
  | succ m ih =>
    have ih' := ih (fun i hi => hm i (by omega))
    have e1 := hm (m + 1) (by omega)
    have e2 := hm m (by omega)
    have hne : ¬ (k + 1 + m = 0 ∨ b.getD (k + 1 + m) 0 ≠ b.getD (k + 1 + m - 1) 0) := by
      rw [show k + 1 + m = k + (m + 1) by omega, show k + (m + 1) - 1 = k + m by omega, e1, e2]; simp
    rw [← Nat.add_assoc, rn, if_neg hne, ih']
    by_cases h0 : m = 0
    · subst h0
      rw [pcs_zero, if_pos (by simp)]
      rw [pcs_step 1 258 (0 + 1) (by omega) (by omega), pcs_zero]
      simp
    · obtain ⟨l, r, p1, r1, r2, p2⟩ := pcs_succ m (by omega)
      have hl : ((rn b k ++ ⟨b.getD k 0, 0, 0⟩ :: pcs 1 258 m).getLast?.getD default) = ⟨0, 1, r⟩ := by rw [p1, ← List.cons_append, ← List.append_assoc, List.getLast?_append]; rfl
      rw [hl, p2]
      by_cases hr : r = 258
      · rw [if_pos (.inr hr), if_pos hr]; simp
      · rw [if_neg (by show ¬ (r = 0 ∨ r = 258); omega), if_neg hr, p1]
        have e : rn b k ++ ⟨b.getD k 0, 0, 0⟩ :: (l ++ [⟨0, 1, r⟩]) = (rn b k ++ ⟨b.getD k 0, 0, 0⟩ :: l) ++ [⟨0, 1, r⟩] := by simp
        rw [e, set_last]; simp
theorem tellT_cut (s : HS) (ts : List Tk) (k : Nat) (hk : k < ts.length) (h : (tellT s (ts.take k)).1 = 0) : tellT s (ts.take (k + 1)) = (tellT s (ts.take k)).2.tk ts[k] := by
  rw [List.take_succ_eq_append_getElem hk, tellT_append, if_pos h, tellT]
  split
  · rename_i h1; rw [tellT]; exact Prod.ext h1.symm rfl
  · rfl
/-- the first error stays -/
theorem tellT_err (s : HS) (ts : List Tk) (k : Nat) (h : (tellT s (ts.take k)).1 ≠ 0) : tellT s ts = tellT s (ts.take k) := by
  conv => lhs; rw [← List.take_append_drop k ts]
  rw [tellT_append, if_neg h]
theorem sumT_take (ts : List Tk) (k : Nat) (hk : k < ts.length) : sumT (ts.take (k + 1)) = sumT (ts.take k) + sz1 ts[k] := by
  rw [List.take_succ_eq_append_getElem hk, sumT_append]; simp [sumT]
theorem sumT_le (ts : List Tk) (k : Nat) : sumT (ts.take k) ≤ sumT ts := by
  conv => rhs; rw [← List.take_append_drop k ts]
  rw [sumT_append]; omega
end Go.Proofs.Ytgojekhcdcgonaa
