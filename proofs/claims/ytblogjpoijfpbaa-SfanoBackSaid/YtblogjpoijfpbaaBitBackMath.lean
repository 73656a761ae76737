/- Plain lemmas: bits that were written are read as they were. -/
import Derived.Test.YtblogjpoijfpbaaBitMath
import Derived.Test.YtblogjpoijfpbaaBitWrMath
namespace Go.Proofs.Ytblogjpoijfpbaa
set_option linter.unusedVariables false
set_option linter.unusedSimpArgs false
theorem byteAt_zero (c : UInt8) (l : List UInt8) : byteAt (c :: l) 0 = c.toNat := rfl
theorem byteAt_succ (c : UInt8) (l : List UInt8) (i : Nat) : byteAt (c :: l) (i + 1) = byteAt l i := rfl
theorem toBits_get (l : List UInt8) (i : Nat) (h : i < 8 * l.length) : (toBits l)[i]? = some (dig l i) := by
  induction l generalizing i with
  | nil => simp at h
  | cons c l ih =>
    rw [toBits]
    by_cases hi : i < 8
    · rw [List.getElem?_append_left (by rw [bitsOf_length]; exact hi), bitsOf_get _ _ _ hi]
      unfold dig bitAt
      rw [show i / 8 = 0 by omega, show i % 8 = i by omega, byteAt_zero]
      rw [Nat.testBit_eq_decide_div_mod_eq]
      rfl
    · rw [List.getElem?_append_right (by rw [bitsOf_length]; omega), bitsOf_length, ih (i - 8) (by simp at h; omega)]
      unfold dig bitAt
      obtain ⟨j, rfl⟩ : ∃ j, i = j + 8 := ⟨i - 8, by omega⟩
      rw [show (j + 8) / 8 = j / 8 + 1 by omega, show (j + 8) % 8 = j % 8 by omega, byteAt_succ, show j + 8 - 8 = j by omega]
theorem bits_num (l : List UInt8) (p n : Nat) (h : p + n ≤ 8 * l.length) : bitsOf (num l p n) n = ((toBits l).drop p).take n := by
  apply List.ext_getElem?
  intro i
  by_cases hi : i < n
  · rw [bitsOf_get _ _ _ hi, num_bit, List.getElem?_take_of_lt hi, List.getElem?_drop, toBits_get _ _ (by omega)]
    simp [hi]
  · rw [List.getElem?_eq_none (by rw [bitsOf_length]; omega), List.getElem?_eq_none (by simp; omega)]
/-- a segment of bits that were written is read as it was -/
theorem num_seg (l : List UInt8) (pre post : List Bool) (x n : Nat) (h : toBits l = pre ++ bitsOf x n ++ post) : num l pre.length n = x % 2 ^ n := by
  have hl := congrArg List.length h
  simp only [toBits_length, List.length_append, bitsOf_length] at hl
  have := bits_num l pre.length n (by omega)
  rw [h, List.append_assoc, List.drop_left, List.take_left' (bitsOf_length x n)] at this
  exact bitsOf_inj _ _ n (num_lt _ _ _) (Nat.mod_lt _ (Nat.two_pow_pos n)) (by rw [this, bitsOf_mod])
theorem num_false (l : List UInt8) (pre post : List Bool) (n : Nat) (h : toBits l = pre ++ List.replicate n false ++ post) : num l pre.length n = 0 := by
  rw [← bitsOf_zero n] at h
  rw [num_seg l pre post 0 n h]; simp
end Go.Proofs.Ytblogjpoijfpbaa
