/- Texts put together: DynDoor -/
import Derived.Test.YtokfcgloogdeiaaGreatDoorRows
import Derived.Test.YtokfcgloogdeiaaGreatDoorPart21
import Derived.LaidMore
import Derived.OpenShut
import Derived.Stop.Joined
import Derived.Lib.LaidTab
namespace Go.Proofs.YtokfcgloogdeiaaGreatDoor
set_option linter.unusedVariables false
set_option linter.unusedSimpArgs false
set_option maxRecDepth 100000
open Go.ChangeShapes Go.WideShapes Go.ChangeAt Go.WideMaps Go.WideElems Go.RowKit

def laid17 : List (String × DataW Unit) := [("duffel/dyn.order", Rows.laid_duffel_dyn_order), ("duffel/dyn.repeats", Rows.laid_duffel_dyn_repeats)]
theorem gOrder : Tryz.prog.globalNamed "duffel/dyn.order" = some 0 := by kernel_rfl
theorem gRepeats : Tryz.prog.globalNamed "duffel/dyn.repeats" = some 1 := by kernel_rfl
theorem tOrder : (Tryz.prog.globals[0]?).map (·.type) = some 169 := by kernel_rfl
theorem tRepeats : (Tryz.prog.globals[1]?).map (·.type) = some 183 := by kernel_rfl
/-- The door's own heap meets the condition: three closed facts. -/
theorem door_met (os : Os) (args : Array Value) : laidMetH Tryz.prog laid17 ((World.doorLaid Tryz.prog 400 os).forCall (fun _ _ => 0) ⟨#[], args, []⟩).memory :=
  laidMetH_of_parts3 (fuel := 8) (laidMet_of_run' 8 (by kernel_rfl) (by kernel_rfl)) (by kernel_rfl) (by kernel_rfl)
theorem arr_cells {H : Type} {enc : TypeId × Value → H} {w : World} {base : Nat} {sp : Nat → Bool} {held : Bool} {fuel : Nat} {cs : List Value} {p : List MemPlace}
    (h : DataW.trod enc Tryz.prog w base sp held fuel 183 cs = some (.agg [.agg [.lit (.int .i64 3), .lit (.int .i64 2)], .agg [.lit (.int .i64 3), .lit (.int .i64 3)], .agg [.lit (.int .i64 11), .lit (.int .i64 7)]], p)) :
    cs = [.int .i64 3, .int .i64 2, .int .i64 3, .int .i64 3, .int .i64 11, .int .i64 7] := by
  have cE : Tryz.prog.cellsOf 177 = 2 := by kernel_rfl
  have cI : Tryz.prog.cellsOf 3 = 1 := by kernel_rfl
  have cA : Tryz.prog.cellsOf 183 = 6 := by kernel_rfl
  obtain ⟨xs, m, rfl, hx, hl, hn, hel⟩ := DataW.trod_array Tryz.underlying183 h
  rw [cA] at hl
  simp only [Prod.mk.injEq, DataW.agg.injEq] at hx
  have hel0 := hel 0 (by decide); have hel1 := hel 1 (by decide); have hel2 := hel 2 (by decide)
  rw [cE] at hel0 hel1 hel2
  match xs, hn, hx, hel0, hel1, hel2 with
  | [x0, x1, x2], _, hx, hel0, hel1, hel2 =>
    obtain ⟨hx, _⟩ := hx
    simp only [List.map_cons, List.map_nil, List.cons.injEq, and_true] at hx
    obtain ⟨hx0, hx1, hx2⟩ := hx
    have elem : ∀ (cs2 : List Value) (x : DataW H × List MemPlace) (a b : Int), DataW.trod enc Tryz.prog w base sp held m 177 cs2 = some x → x.1 = .agg [.lit (.int .i64 a), .lit (.int .i64 b)] → cs2 = [.int .i64 a, .int .i64 b] := by
      intro cs2 x a b ht hd
      obtain ⟨ys, n, rfl, rfl, hl2, hn2, hf⟩ := DataW.trod_struct Tryz.underlying177 ht
      rw [cE] at hl2
      have f0 : DataW.trod enc Tryz.prog w base sp held n 3 ((cs2.drop 0).take (Tryz.prog.cellsOf 3)) = ys[0]? := hf 0 _ rfl
      have f1 : DataW.trod enc Tryz.prog w base sp held n 3 ((cs2.drop 1).take (Tryz.prog.cellsOf 3)) = ys[1]? := hf 1 _ rfl
      rw [cI] at f0 f1
      match ys, hn2, hd, f0, f1 with
      | [y0, y1], _, hd, f0, f1 =>
        simp only [List.map_cons, List.map_nil, DataW.agg.injEq, List.cons.injEq, and_true] at hd
        obtain ⟨n0, e0, g0, _⟩ := DataW.trod_int Tryz.underlying3 (show DataW.trod _ Tryz.prog w base sp held n 3 _ = some y0 from f0)
        obtain ⟨n1, e1, g1, _⟩ := DataW.trod_int Tryz.underlying3 (show DataW.trod _ Tryz.prog w base sp held n 3 _ = some y1 from f1)
        rw [g0, g1] at hd
        simp only [DataW.lit.injEq, Lit.int.injEq, true_and] at hd
        obtain ⟨rfl, rfl⟩ := hd
        match cs2, hl2, e0, e1 with
        | [c0, c1], _, e0, e1 => simp at e0 e1; rw [e0, e1]
    have k0 := elem _ x0 3 2 (show DataW.trod _ Tryz.prog w base sp held m 177 _ = some x0 from hel0) hx0.symm
    have k1 := elem _ x1 3 3 (show DataW.trod _ Tryz.prog w base sp held m 177 _ = some x1 from hel1) hx1.symm
    have k2 := elem _ x2 11 7 (show DataW.trod _ Tryz.prog w base sp held m 177 _ = some x2 from hel2) hx2.symm
    match cs, hl, k0, k1, k2 with
    | [a0, a1, a2, a3, a4, a5], _, k0, k1, k2 => simp at k0 k1 k2; simp [k0, k1, k2]
theorem g17_of_laid {W : World} (h : laidMetH Tryz.prog laid17 W) : G17 W := by
  rw [MakeChecks.laidMetH_plain _ _ _ (by kernel_rfl)] at h
  have hT : Lib.TabIs Tryz.prog W "duffel/dyn.order" .i64 [16, 17, 18, 0, 8, 7, 9, 6, 10, 5, 11, 4, 12, 3, 13, 2, 14, 1, 15] :=
    Lib.tabIs_of_head gOrder tOrder Tryz.underlying169 Tryz.underlying3 (by kernel_rfl) (by kernel_rfl) h
  obtain ⟨ps, ⟨g0, t0, cs0, f0, p0, q0, hg0, ht0, hv0, hd0, ⟨g1, t1, cs1, f1, p1, q1, hg1, ht1, hv1, hd1, _, _⟩, _⟩, _, _⟩ := h
  obtain rfl := Option.some.inj (gRepeats.symm.trans hg1)
  obtain rfl := Option.some.inj (tRepeats.symm.trans ht1)
  have hcs := arr_cells hd1
  refine ⟨fun i hi => ?_, fun i hi => ?_, fun i hi => ?_⟩
  · rw [hT.cell gOrder i (by simpa using hi)]
    have : ∀ i : Fin 19, ([16, 17, 18, 0, 8, 7, 9, 6, 10, 5, 11, 4, 12, 3, 13, 2, 14, 1, 15] : List Int).getD i.val 0 = ((ordD.getD i.val 0 : Nat) : Int) := by decide
    rw [this ⟨i, hi⟩]
  · rw [World.var?_cell hg1 hv1]
    have hc : i = 0 ∨ i = 1 ∨ i = 2 := by omega
    have e : cs1 = ([.int .i64 3, .int .i64 2, .int .i64 3, .int .i64 3, .int .i64 11, .int .i64 7] : List Value).toArray := by rw [← hcs]
    rw [e]
    rcases hc with rfl | rfl | rfl <;> rfl
  · rw [World.var?_cell hg1 hv1]
    have hc : i = 0 ∨ i = 1 ∨ i = 2 := by omega
    have e : cs1 = ([.int .i64 3, .int .i64 2, .int .i64 3, .int .i64 3, .int .i64 11, .int .i64 7] : List Value).toArray := by rw [← hcs]
    rw [e]
    rcases hc with rfl | rfl | rfl <;> rfl
end Go.Proofs.YtokfcgloogdeiaaGreatDoor
