/- A slice of int that can be read as data, opened. No condition beyond the theorem's own premises. -/
import Derived.Test.YtblogjpoijfpbaaOpen
namespace Go.Proofs.Ytblogjpoijfpbaa
set_option linter.unusedVariables false
set_option linter.unusedSimpArgs false
set_option maxRecDepth 100000
open Go.ChangeShapes Go.WideShapes Go.ChangeAt Go.RowKit
section
variable {H : Type} {enc : TypeId × Value → H} {W : World} {base base0 : Nat} {spare : Nat → Bool} {held : Bool} {v : Value} {d : DataW H} {p : List MemPlace}
theorem open_is64 (hv : Value.okWide Try.prog W .any base0 22 v) (h : DataW.Trod enc Try.prog W base spare held 22 v d p) : ∃ l, Is .i64 W v l :=
  open_is Try.underlying22 Try.underlying3 (by kernel_rfl) hv h
end
end Go.Proofs.Ytblogjpoijfpbaa
