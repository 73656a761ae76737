/- A region that draws its order, whose operations only read and whose callees leave all old memory as it was: walked once. No condition beyond each theorem's own premises. -/
import Derived.Test.YtibkepjbblfkoaaMem
import Derived.Deep.QuietTactic
namespace Go.Proofs.Ytibkepjbblfkoaa
set_option linter.unusedVariables false
set_option linter.unusedSimpArgs false
open Go.ChangeShapes Go.WideShapes Go.ChangeAt Go.RowKit

/-- a world in which all that w has stands as in w -/
structure Kept (w : World) where
  x : World
  h : Keep [] w x
instance (w : World) : Inhabited (Kept w) := ⟨⟨w, Keep.refl [] w⟩⟩
theorem wp_region_kept {P : Program} {id : Nat} {Q : Exit → Act → World → Prop} {a : Act} {w : World} {l : List Oper} (hm : P.follows .mixedOrders = true) (hB : Region.lexB .any l.toArray = true)
    (h : wpQuiet P l.toArray (fun w' => ∃ p : Kept w, w' = p.x) (fun a' => ∀ w', (∃ p : Kept w, w' = p.x) → Q .normal a' w') l a) : (Code.region id l.toArray true).wp P Q a w :=
  wp_region_quiet (C := fun w' => ∃ p : Kept w, w' = p.x) hm hB ⟨⟨w.drew, (Keep.refl [] w).drew⟩, rfl⟩ (by simpa using h)
/-- a callee's contract, met in such a world -/
theorem kept_of {P : Program} {f : FuncId} {args : Array Value} {w : World} {p : Kept w} {v : Value}
    (h : Calls P f args p.x fun e w' => e = .returned v ∧ Keep [] p.x w') : Calls P f args p.x fun e w'' => e = .returned v ∧ ∃ q : Kept w, w'' = q.x :=
  h.mono fun _ w' ⟨he, hk⟩ => ⟨he, ⟨w', p.h.trans hk (by simp)⟩, rfl⟩
theorem kept_drewN {P : Program} {f : FuncId} {args : Array Value} {w : World} {v : Value}
    (h : Calls P f args w fun e w' => e = .returned v ∧ ∃ n, w' = w.drewN n) : Calls P f args w fun e w' => e = .returned v ∧ Keep [] w w' :=
  h.mono fun _ w' ⟨he, n, hn⟩ => ⟨he, hn ▸ (Keep.refl [] w).drewN n⟩
theorem kept_same {P : Program} {f : FuncId} {args : Array Value} {w : World} {v : Value}
    (h : Calls P f args w fun e w' => e = .returned v ∧ w = w') : Calls P f args w fun e w' => e = .returned v ∧ Keep [] w w' :=
  h.mono fun _ w' ⟨he, hn⟩ => ⟨he, hn ▸ Keep.refl [] w⟩
/-- the load of a whole array in such a region -/
theorem wpQuiet_loadA {P : Program} {ops : Array Oper} {Q : Act → Prop} {a : Act} {o : Oper} {rest : List Oper} {w : World} (ty : TypeId) (x : Operand) (ho : o.op = .load ty x) (hw : Region.wanted o (yielded ops a.tmps) = true)
    (g : Nat) (hx : a.eval x = .pointer (some ⟨g, 0, none⟩)) (c : Array Value) (hl : ∀ p : Kept w, (Instr.loadAt ty (.pointer (some ⟨g, 0, none⟩))).run P p.x = .ok (.agg c) p.x)
    (h : wpQuiet P ops (fun w' => ∃ p : Kept w, w' = p.x) Q rest (a.put o.dst (.agg c))) : wpQuiet P ops (fun w' => ∃ p : Kept w, w' = p.x) Q (o :: rest) a := by
  unfold wpQuiet
  rw [if_pos hw]
  refine ⟨.agg c, ?_, h⟩
  rintro _ ⟨p, rfl⟩
  unfold Oper.quietAt execOp
  simp only [ho, hx, Sem.run_bind, Sem.run_pure, Result.andThen_ok, hl p]
  exact ⟨rfl, rfl⟩
end Go.Proofs.Ytibkepjbblfkoaa
