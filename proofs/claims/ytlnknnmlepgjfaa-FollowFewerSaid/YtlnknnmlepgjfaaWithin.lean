/- Contract of the helper Within of package duffelref01. -/
import Derived.Test.YtlnknnmlepgjfaaMem
namespace Go.Proofs.Ytlnknnmlepgjfaa
set_option linter.unusedVariables false
set_option linter.unusedSimpArgs false
open Go.ChangeShapes Go.WideShapes Go.ChangeAt Go.RowKit

end Go.Proofs.Ytlnknnmlepgjfaa
