/- Rows of follow's 'seen': a byte and how often it comes. The elements that XSrg1 to XSrg6 sort: SEl, ESl, eA, eB. No condition beyond each theorem's own premises. -/
import Derived.Test.YtlnknnmlepgjfaaGr
namespace Go.Proofs.Ytlnknnmlepgjfaa
set_option linter.unusedVariables false
set_option linter.unusedSimpArgs false
open Go.ChangeShapes Go.WideShapes Go.ChangeAt Go.RowKit

abbrev SEl := UInt8 × Nat
def eA (x : SEl) : Value := .int .u8 x.1.toNat
def eB (x : SEl) : Value := .int .i64 x.2
def ESl : El SEl := { sz := 2, ty := 64, sl := 43, bytes := 16, enc := fun x => [eA x, eB x] }
theorem ESlg : ESl.Good where
  pos := by decide
  len _ := rfl
  one x u hu := by
    simp only [ESl, eA, eB, List.mem_cons, List.not_mem_nil, or_false] at hu
    rcases hu with rfl | rfl <;> rfl
  info := by kernel_rfl
  under := Try.underlying43
  small := by decide
end Go.Proofs.Ytlnknnmlepgjfaa
