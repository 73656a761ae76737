/- The document's own answers of layer 7: New, Lit, Copy. -/
import Derived.Test.YtgojekhcdcgonaaHstMath
import Derived.Test.YtgojekhcdcgonaaRefKit
import Derived.Test.YtgojekhcdcgonaaPart
import Derived.BigQuiet
namespace Go.Proofs.Ytgojekhcdcgonaa
set_option linter.unusedVariables false
set_option linter.unusedSimpArgs false
open Go.ChangeShapes Go.WideShapes Go.ChangeAt Go.RowKit

/-- which numbers may be -/
def hsBad (win most : Int) : Prop := win < 1 ∨ 65536 < win ∨ most < 0
end Go.Proofs.Ytgojekhcdcgonaa
