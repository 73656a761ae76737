/- The bits of bytes by followers, and of the followers (layer 12). -/
import Derived.Test.YtlnknnmlepgjfaaFolMath
import Derived.Test.YtlnknnmlepgjfaaBitWrMath
namespace Go.Proofs.Ytlnknnmlepgjfaa
set_option linter.unusedVariables false
set_option linter.unusedSimpArgs false

/-- the bits of a byte c behind one that has the followers l -/
def fput (l : List UInt8) (c : UInt8) : List Bool :=
  if (l.take 32).length = 0 then bitsOf c.toNat 8
  else if 0 ≤ atU (l.take 32) c then bitsOf 0 1 ++ bitsOf (atU (l.take 32) c).toNat (widthN (l.take 32).length)
  else bitsOf 1 1 ++ bitsOf c.toNat 8
/-- the bits of the followers of the bytes below m, the greatest byte first -/
def fss (s : Nat → List UInt8) : Nat → List Bool
  | 0 => []
  | m + 1 => bitsOf ((s m).take 32).length 6 ++ ((s m).take 32).flatMap (fun x => bitsOf x.toNat 8) ++ fss s m
theorem fput_len (l : List UInt8) (c : UInt8) (h : l.length ≤ 32) : (fput l c).length = pl l c.toNat := by
  unfold fput pl
  rw [List.take_of_length_le h]
  by_cases h0 : l.length = 0
  · rw [if_pos h0, if_pos h0, bitsOf_length]
  · rw [if_neg h0, if_neg h0, inL_mem]
    by_cases hi : 0 ≤ atU l c
    · rw [if_pos hi, if_pos (by rw [decide_eq_true_eq]; exact (atU_in l c).1 hi), List.length_append, bitsOf_length, bitsOf_length]
    · rw [if_neg hi, if_neg (by rw [decide_eq_true_eq]; exact fun h => hi ((atU_in l c).2 h)), List.length_append, bitsOf_length, bitsOf_length]
theorem fput_le (l : List UInt8) (c : UInt8) : (fput l c).length ≤ 9 := by
  have hw := widthN_le (l.take 32).length
  unfold fput
  split
  · rw [bitsOf_length]; omega
  · split
    · rw [List.length_append, bitsOf_length, bitsOf_length]; omega
    · rw [List.length_append, bitsOf_length, bitsOf_length]; omega
theorem flat8_len (l : List UInt8) : (l.flatMap (fun x => bitsOf x.toNat 8)).length = 8 * l.length := by
  induction l with
  | nil => rfl
  | cons a t ih => rw [List.flatMap_cons, List.length_append, ih, bitsOf_length, List.length_cons]; omega
theorem fss_len (s : Nat → List UInt8) (m : Nat) (h : ∀ c, (s c).length ≤ 32) : (fss s m).length = 6 * m + sm (fun c => 8 * (s c).length) m := by
  induction m with
  | zero => rfl
  | succ m ih =>
    rw [fss, List.length_append, List.length_append, bitsOf_length, ih, flat8_len, List.take_of_length_le (h m)]
    simp only [sm]; omega
theorem fss_le (s : Nat → List UInt8) (m : Nat) : (fss s m).length ≤ 262 * m := by
  induction m with
  | zero => exact Nat.le_refl _
  | succ m ih =>
    rw [fss, List.length_append, List.length_append, bitsOf_length, flat8_len]
    have : ((s m).take 32).length ≤ 32 := by rw [List.length_take]; omega
    omega
theorem one12_len (b : List UInt8) (c : Nat) : (one12 b c).length ≤ 32 := oneN_len _
end Go.Proofs.Ytlnknnmlepgjfaa
