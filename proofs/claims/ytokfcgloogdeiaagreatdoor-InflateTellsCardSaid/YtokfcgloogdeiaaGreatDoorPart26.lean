/- Texts put together: InfDoor -/
import Derived.Test.YtokfcgloogdeiaaGreatDoorPart25
import Derived.Test.YtokfcgloogdeiaaGreatDoorPart22
namespace Go.Proofs.YtokfcgloogdeiaaGreatDoor
/-- layer 18's list of variables is layer 17's -/
theorem g18_of_laid {W : World} (h : laidMetH Tryz.prog laid17 W) : G18 W := ⟨g17_of_laid h⟩
end Go.Proofs.YtokfcgloogdeiaaGreatDoor
