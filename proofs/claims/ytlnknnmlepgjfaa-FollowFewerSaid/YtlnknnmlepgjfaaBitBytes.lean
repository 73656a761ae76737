/- Contracts of the method Bytes of bitio.Reader. -/
import Derived.Test.YtlnknnmlepgjfaaBitLook2
namespace Go.Proofs.Ytlnknnmlepgjfaa
set_option linter.unusedVariables false
set_option linter.unusedSimpArgs false
open Go.ChangeShapes Go.WideShapes Go.ChangeAt Go.RowKit

/-- what Bytes(n) answers, and the state behind it -/
def RS.bytes (s : RS) (n : Int) : List UInt8 × RS :=
  if s.E ≠ 0 then ([], s)
  else if n < 0 then ([], s.fail 2)
  else if s.left % 8 ≠ 0 then ([], s.fail 4)
  else if (s.left / 8 : Nat) < n then ([], s.fail 3)
  else ((s.l.drop (s.pos / 8)).take n.toNat, { s with pos := s.pos + 8 * n.toNat })
theorem RS.fail_E (s : RS) (e : Nat) (h : s.E = 0) (he : e ≠ 0) : (s.fail e).E = e := by
  have : s.made = true := by
    cases hm : s.made
    · simp [RS.E, hm] at h
    · rfl
  unfold RS.fail; rw [if_pos h]; simp [RS.E, this]
theorem RS.fail_E_ne (s : RS) (e : Nat) (he : e ≠ 0) : (s.fail e).E ≠ 0 := by
  by_cases h : s.E = 0
  · rw [RS.fail_E s e h he]; exact he
  · rw [RS.fail_fail s e h]; exact h
end Go.Proofs.Ytlnknnmlepgjfaa
