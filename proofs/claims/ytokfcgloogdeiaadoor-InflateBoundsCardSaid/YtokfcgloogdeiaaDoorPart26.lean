/- Texts put together: InfDoor -/
import Derived.Test.YtokfcgloogdeiaaDoorPart25
import Derived.Test.YtokfcgloogdeiaaDoorPart22
namespace Go.Proofs.YtokfcgloogdeiaaDoor
/-- layer 18's list of variables is layer 17's -/
theorem g18_of_laid {W : World} (h : laidMetH Tryd.prog laid17 W) : G18 W := ⟨g17_of_laid h⟩
end Go.Proofs.YtokfcgloogdeiaaDoor
