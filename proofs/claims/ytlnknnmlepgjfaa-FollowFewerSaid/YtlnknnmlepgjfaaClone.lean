/- Contract of slices.Clone of bytes. -/
import Derived.Test.YtlnknnmlepgjfaaPart
namespace Go.Proofs.Ytlnknnmlepgjfaa
set_option linter.unusedVariables false
set_option linter.unusedSimpArgs false
open Go.ChangeShapes Go.WideShapes Go.ChangeAt Go.RowKit

end Go.Proofs.Ytlnknnmlepgjfaa
