/- Numbers of layer 7: bytes told out of those that were told. -/
namespace Go.Proofs.Ytmafgamacijdaaa
set_option linter.unusedVariables false
set_option linter.unusedSimpArgs false

/-- the byte that stands d back -/
def back1 (b : List UInt8) (d : Nat) : UInt8 := if d ≤ b.length then b.getD (b.length - d) 0 else 0
/-- n bytes more, one by one, each the byte that stands d back then -/
def cpy (b : List UInt8) (d : Nat) : Nat → List UInt8
  | 0 => b
  | n + 1 => cpy b d n ++ [back1 (cpy b d n) d]
theorem cpy_len (b : List UInt8) (d n : Nat) : (cpy b d n).length = b.length + n := by
  induction n with
  | zero => rfl
  | succ n ih => rw [cpy, List.length_append, ih]; rfl
theorem cpy_add (b : List UInt8) (d n m : Nat) : cpy b d (n + m) = cpy (cpy b d n) d m := by
  induction m with
  | zero => rfl
  | succ m ih => rw [← Nat.add_assoc, cpy, ih, cpy]
theorem cpy_pre (b : List UInt8) (d n i : Nat) (h : i < b.length) : (cpy b d n)[i]? = b[i]? := by
  induction n with
  | zero => rfl
  | succ n ih => rw [cpy, List.getElem?_append_left (by rw [cpy_len]; omega), ih]
theorem cpy_take (b : List UInt8) (d n : Nat) : (cpy b d n).take b.length = b := by
  induction n with
  | zero => exact List.take_length
  | succ n ih => rw [cpy, List.take_append_of_le_length (by rw [cpy_len]; omega), ih]
theorem back1_get (b : List UInt8) (d : Nat) (h1 : 1 ≤ d) (h2 : d ≤ b.length) : b[b.length - d]? = some (back1 b d) := by
  unfold back1
  rw [if_pos h2, List.getD_eq_getElem?_getD, List.getElem?_eq_getElem (by omega)]; rfl
/-- a copy is a distance over and over -/
theorem cpy_over (b : List UInt8) (d n i : Nat) (h1 : 1 ≤ d) (h2 : d ≤ b.length) (hi : i < n) : (cpy b d n)[b.length + i]? = b[b.length - d + i % d]? := by
  induction n generalizing i with
  | zero => omega
  | succ n ih =>
    rw [cpy]
    by_cases e : i < n
    · rw [List.getElem?_append_left (by rw [cpy_len]; omega), ih i e]
    · obtain rfl : i = n := by omega
      rw [List.getElem?_append_right (by rw [cpy_len]; omega), cpy_len, Nat.sub_self]
      show some (back1 (cpy b d i) d) = _
      rw [← back1_get (cpy b d i) d h1 (by rw [cpy_len]; omega), cpy_len]
      by_cases hd : d ≤ i
      · rw [show b.length + i - d = b.length + (i - d) by omega, ih (i - d) (by omega)]
        congr 2
        exact (Nat.mod_eq_sub_mod hd).symm
      · rw [Nat.mod_eq_of_lt (by omega), show b.length + i - d = b.length - d + i by omega]
        exact cpy_pre b d i _ (by omega)
/-- an output: its window, how many bytes it may have, whether noughts stand ahead, its bytes -/
structure HS where
  win : Nat
  most : Nat
  nou : Bool
  b : List UInt8
def HS.lit (s : HS) (c : UInt8) : Nat × HS := if s.most ≤ s.b.length then (9, s) else (0, { s with b := s.b ++ [c] })
def HS.copy (s : HS) (d n : Int) : Nat × HS :=
  if d < 1 ∨ n < 0 then (2, s)
  else if (s.win : Int) < d ∨ ((s.b.length : Int) < d ∧ s.nou = false) then (8, s)
  else if (s.most : Int) - s.b.length < n then (9, s)
  else (0, { s with b := cpy s.b d.toNat n.toNat })
theorem HS.lit_len (s : HS) (c : UInt8) (h : s.b.length ≤ s.most) : (s.lit c).2.b.length ≤ s.most ∧ (s.lit c).2.win = s.win ∧ (s.lit c).2.most = s.most ∧ (s.lit c).2.nou = s.nou ∧ (s.lit c).2.b.length ≤ s.b.length + 1 ∧ (s.lit c).2.b.take s.b.length = s.b := by
  unfold HS.lit
  by_cases e : s.most ≤ s.b.length
  · rw [if_pos e]; exact ⟨h, rfl, rfl, rfl, by dsimp only; omega, List.take_length⟩
  · rw [if_neg e]; exact ⟨by simp; omega, rfl, rfl, rfl, by simp, by simp⟩
theorem HS.copy_len (s : HS) (d n : Int) (h : s.b.length ≤ s.most) : (s.copy d n).2.b.length ≤ s.most ∧ (s.copy d n).2.win = s.win ∧ (s.copy d n).2.most = s.most ∧ (s.copy d n).2.nou = s.nou ∧ ((s.copy d n).2.b.length : Int) ≤ s.b.length + max 0 n ∧ (s.copy d n).2.b.take s.b.length = s.b := by
  unfold HS.copy
  by_cases e1 : d < 1 ∨ n < 0
  · rw [if_pos e1]; exact ⟨h, rfl, rfl, rfl, by dsimp only; omega, List.take_length⟩
  rw [if_neg e1]
  by_cases e2 : (s.win : Int) < d ∨ ((s.b.length : Int) < d ∧ s.nou = false)
  · rw [if_pos e2]; exact ⟨h, rfl, rfl, rfl, by dsimp only; omega, List.take_length⟩
  rw [if_neg e2]
  by_cases e3 : (s.most : Int) - s.b.length < n
  · rw [if_pos e3]; exact ⟨h, rfl, rfl, rfl, by dsimp only; omega, List.take_length⟩
  rw [if_neg e3]
  refine ⟨by simp only [cpy_len]; omega, rfl, rfl, rfl, by simp only [cpy_len]; omega, cpy_take _ _ _⟩
end Go.Proofs.Ytmafgamacijdaaa
