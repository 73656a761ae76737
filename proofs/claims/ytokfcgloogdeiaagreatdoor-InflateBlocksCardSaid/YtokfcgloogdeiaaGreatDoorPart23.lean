/- Texts put together: Text -/
import Derived.Test.YtokfcgloogdeiaaGreatDoorPart3
import Derived.Laws.BytesArg
import Derived.Laws.BytesString
import Derived.Lib.RabinKarpLaws
import Derived.Lib.LastIndexLaws
namespace Go.Proofs.YtokfcgloogdeiaaGreatDoor
set_option linter.unusedVariables false
set_option linter.unusedSimpArgs false
open Go.ChangeShapes Go.WideShapes Go.ChangeAt Go.RowKit

/-- the string of bytes -/
def txt (l : List UInt8) : ByteArray := ⟨l.toArray⟩
theorem txt_list (l : List UInt8) : (txt l).data.toList = l := rfl
theorem txt_size (l : List UInt8) : (txt l).size = l.length := rfl
theorem txt_eq (l d : List UInt8) : ((txt l).toList == (txt d).toList) = decide (l = d) := by
  rw [ByteArray.toList_eq, ByteArray.toList_eq, txt_list, txt_list]
  by_cases h : l = d <;> simp [h]
theorem strOfNums_txt (l : List UInt8) : strOfNums (l.map fun x => (x.toNat : Int)) = txt l := by
  apply ByteArray.ext
  apply Array.toList_inj.1
  rw [strOfNums_data, List.map_map]
  show _ = l
  conv => rhs; rw [← List.map_id l]
  apply List.map_congr_left
  intro x _
  simp
theorem Bs.text {w : World} {v : Value} {l : List UInt8} (h : Bs w v l) : (convert 22 9 v).run Tryz.prog w = .ok (.string (txt l)) w := by
  rcases h.cases with ⟨rfl, a, cap, rfl, hm, hn⟩ | ⟨hp, b, off, cap, rfl, h1, h2, hb, hc⟩
  · rw [run_convert_bytes_string w 22 9 5 a 0 cap Tryz.underlying22 Tryz.underlying5 Tryz.underlying9]
    cases a <;> (simp [Conv.bytesToString, loadCells]; rfl)
  · rw [← strOfNums_txt]
    exact run_convert_bytes_arg (P := Tryz.prog) w 22 5 Tryz.underlying22 Tryz.underlying5 b off l.length cap (l.map fun x => (x.toNat : Int)) (by simp) (fun i hi => by rw [hc i hi]; simp [List.getD, hi]) 9 Tryz.underlying9
theorem Bs.textN {w : World} {v : Value} {l : List UInt8} (h : Bs w v l) (n : Nat) : (convert 22 9 v).run Tryz.prog (w.drewN n) = .ok (.string (txt l)) (w.drewN n) :=
  (h.keep ((Keep.refl [] w).drewN n) (by simp)).text
end Go.Proofs.YtokfcgloogdeiaaGreatDoor
