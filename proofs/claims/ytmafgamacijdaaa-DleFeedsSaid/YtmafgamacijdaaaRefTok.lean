/- The document's own answers of layer 8: Same, Few, Runs. -/
import Derived.Test.YtmafgamacijdaaaTokMath
import Derived.Test.YtmafgamacijdaaaKept
import Derived.BigQuiet
import Derived.Laws.StructEq
namespace Go.Proofs.Ytmafgamacijdaaa
set_option linter.unusedVariables false
set_option linter.unusedSimpArgs false
open Go.ChangeShapes Go.WideShapes Go.ChangeAt Go.RowKit

/-- at most n tokens, none longer than long -/
def fewT (ts : List Tk) (n : Nat) (long : Int) : List Tk := (ts.take n).map fun t => if long < t.len then { t with len := long } else t
theorem fewT_succ (ts : List Tk) (k : Nat) (long : Int) (hk : k < ts.length) : fewT ts (k + 1) long = fewT ts k long ++ [if long < (ts[k]).len then { ts[k] with len := long } else ts[k]] := by
  unfold fewT
  rw [List.take_succ_eq_append_getElem hk, List.map_append]; rfl
theorem fewT_len (ts : List Tk) (n : Nat) (long : Int) : (fewT ts n long).length ≤ n := by
  unfold fewT; simp; omega
end Go.Proofs.Ytmafgamacijdaaa
