/- Contracts of the methods Err, Left, Read, Align of bitio.Reader. -/
import Derived.Test.YtlnknnmlepgjfaaMem
namespace Go.Proofs.Ytlnknnmlepgjfaa
set_option linter.unusedVariables false
set_option linter.unusedSimpArgs false
open Go.ChangeShapes Go.WideShapes Go.ChangeAt Go.RowKit

/-- the state of a reader: its bytes, how many bits were read, whether Open made it, its error -/
structure RS where
  l : List UInt8
  pos : Nat
  made : Bool
  err : Nat
def RS.E (s : RS) : Nat := if s.made then s.err else 1
def RS.left (s : RS) : Nat := if s.E = 0 then 8 * s.l.length - s.pos else 0
def RS.fail (s : RS) (e : Nat) : RS := if s.E = 0 then { s with err := e } else s
def RS.ok (s : RS) : Prop := s.pos ≤ 8 * s.l.length ∧ s.l.length ≤ 140737488355328 ∧ s.err < 100

theorem RS.fail_l (s : RS) (e : Nat) : (s.fail e).l = s.l := by unfold RS.fail; split <;> rfl
theorem RS.left_le (s : RS) (_ : s.ok) : s.left ≤ 8 * s.l.length - s.pos := by unfold RS.left; split <;> omega
def RS.align (s : RS) : RS := { s with pos := s.pos + s.left % 8 }
end Go.Proofs.Ytlnknnmlepgjfaa
