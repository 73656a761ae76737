/- A region that draws its order, whose operations only read and whose callees keep within a class of worlds: walked once. No condition beyond each theorem's own premises. -/
import Derived.Test.YtpjebbhjagllgaaMem
import Derived.Deep.QuietTactic
namespace Go.Proofs.Ytpjebbhjagllgaa
set_option linter.unusedVariables false
set_option linter.unusedSimpArgs false
open Go.ChangeShapes Go.WideShapes Go.ChangeAt Go.RowKit

/-- a world of a class -/
structure Cls (C : World → Prop) where
  x : World
  h : C x
theorem wp_region_cls {P : Program} (C : World → Prop) {id : Nat} {Q : Exit → Act → World → Prop} {a : Act} {w : World} {l : List Oper} (hd : C w.drew) (hm : P.follows .mixedOrders = true) (hB : Region.lexB .any l.toArray = true)
    (h : wpQuiet P l.toArray (fun w' => ∃ p : Cls C, w' = p.x) (fun a' => ∀ w', (∃ p : Cls C, w' = p.x) → Q .normal a' w') l a) : (Code.region id l.toArray true).wp P Q a w :=
  wp_region_quiet (C := fun w' => ∃ p : Cls C, w' = p.x) hm hB ⟨⟨w.drew, hd⟩, rfl⟩ (by simpa using h)
theorem cls_of {P : Program} {C : World → Prop} {f : FuncId} {args : Array Value} {w : World} {v : Value}
    (h : Calls P f args w fun e w' => e = .returned v ∧ C w') : Calls P f args w fun e w'' => e = .returned v ∧ ∃ q : Cls C, w'' = q.x :=
  h.mono fun _ w' ⟨he, hc⟩ => ⟨he, ⟨w', hc⟩, rfl⟩
end Go.Proofs.Ytpjebbhjagllgaa
