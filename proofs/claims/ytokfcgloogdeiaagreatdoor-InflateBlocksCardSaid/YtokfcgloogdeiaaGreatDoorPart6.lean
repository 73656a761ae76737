/- Texts put together: Arr -/
import Derived.Test.YtokfcgloogdeiaaGreatDoorPart1
import Derived.Deep.MidRow
import Derived.Deep.WholeRow
import Derived.Laws.CopyRow
import Derived.Laws.ResultCell
namespace Go.Proofs.YtokfcgloogdeiaaGreatDoor
set_option linter.unusedVariables false
set_option linter.unusedSimpArgs false
open Go.ChangeShapes Go.WideShapes Go.ChangeAt Go.RowKit

theorem Keep.setCells (g : Nat) : ∀ (vs : List Value) (o : Nat) (w : World), Keep [g] w (w.setCells g o vs)
  | [], _, w => Keep.refl _ _
  | v :: vs, o, w => ((Keep.refl [g] w).setCell (by simp) v).trans (Keep.setCells g vs (o + 1) (w.setCell ⟨g, o, none⟩ v)) (by simp)
theorem setCells_blk (g : Nat) (t : TypeId) : ∀ (vs : List Value) (o : Nat) (w : World) (c : Array Value), Blk w g c t → o + vs.length ≤ c.size → ∃ c', Blk (w.setCells g o vs) g c' t ∧ c'.size = c.size ∧ (∀ i, i < o → c'[i]? = c[i]?) ∧ ∀ j, j < vs.length → c'[o + j]? = vs[j]?
  | [], o, w, c, h, _ => ⟨c, h, rfl, fun _ _ => rfl, fun j hj => by simp at hj⟩
  | v :: vs, o, w, c, h, hl => by
    obtain ⟨c', h1, h2, h3, h4⟩ := setCells_blk g t vs (o + 1) _ _ (h.set o v) (by simp at hl ⊢; omega)
    refine ⟨c', h1, by simpa using h2, fun i hi => ?_, fun j hj => ?_⟩
    · rw [h3 i (by omega), Array.getElem?_setIfInBounds]; rw [if_neg (by omega)]
    · cases j with
      | zero =>
        rw [Nat.add_zero, h3 o (by omega), Array.getElem?_setIfInBounds, if_pos rfl]
        simp at hl
        simp; omega
      | succ j =>
        have := h4 j (by simpa using hj)
        rw [show o + (j + 1) = o + 1 + j by omega, this]; simp
theorem Blk.setCells {w : World} {g : Nat} {c : Array Value} {t : TypeId} (h : Blk w g c t) (c' : Array Value) (hs : c'.size = c.size) : Blk (w.setCells g 0 c'.toList) g c' t := by
  obtain ⟨c2, h1, h2, _, h4⟩ := setCells_blk g t c'.toList 0 w c h (by simp [hs])
  have : c2 = c' := by
    apply Array.ext_getElem?
    intro i
    by_cases hi : i < c'.size
    · have := h4 i (by simpa using hi)
      simpa using this
    · rw [Array.getElem?_eq_none (by omega), Array.getElem?_eq_none (by omega)]
  exact this ▸ h1
theorem Blk.load {P : Program} {w : World} {g : Nat} {c : Array Value} {t : TypeId} (h : Blk w g c t) (d : TypeDesc) (hu : P.underlying t = some d) (hd : d.isRow = true) (hi : (P.info? t).map (·.size) = some c.size) :
    (Instr.loadAt t (.pointer (some ⟨g, 0, none⟩))).run P w = .ok (.agg c) w := by
  have := run_loadAt_mid (P := P) w g 0 t c.toList d (fun j v hv => by rw [Nat.zero_add]; exact h.cell j v (by simpa using hv)) hu hd (by simpa using hi)
  simpa using this
theorem Blk.store {P : Program} {w : World} {g : Nat} {c : Array Value} {t : TypeId} (h : Blk w g c t) (c' : Array Value) (hs : c'.size = c.size) (hi : (P.info? t).map (·.size) = some c'.size) (h1 : c'.all (·.oneCell') = true) :
    (Instr.storeAt t (.pointer (some ⟨g, 0, none⟩)) (.agg c')).run P w = .ok () (w.setCells g 0 c'.toList) := by
  refine run_storeAt_mid (P := P) w g 0 t c' (fun j hj => ?_) hi h1
  rw [Nat.zero_add]
  have hv : c[j]? = some (c[j]'(by omega)) := Array.getElem?_eq_getElem (by omega)
  exact ⟨by rw [h.cell j _ hv]; rfl, h.free j⟩
theorem wp_loadA {P : Program} {op : Oper} {a : Act} {w : World} {K : Act → World → Prop} {Q : Exit → Act → World → Prop} (ty : TypeId) (x : Operand) (ho : op.op = .load ty x)
    (g : Nat) (hx : a.eval x = .pointer (some ⟨g, 0, none⟩)) (c : Array Value) (h : (Instr.loadAt ty (.pointer (some ⟨g, 0, none⟩))).run P w = .ok (.agg c) w)
    (hk : K (a.put op.dst (.agg c)) w) : op.wp P a w K Q := by
  unfold Oper.wp execOp
  simp only [ho, hx, Sem.run_bind, Sem.run_pure, Result.andThen_ok, h]
  exact hk
theorem wp_storeA {P : Program} {op : Oper} {a : Act} {w w' : World} {K : Act → World → Prop} {Q : Exit → Act → World → Prop} (ty : TypeId) (x y : Operand) (ho : op.op = .store ty x y)
    (g : Nat) (hx : a.eval x = .pointer (some ⟨g, 0, none⟩)) (c : Array Value) (hy : a.eval y = .agg c) (h : (Instr.storeAt ty (.pointer (some ⟨g, 0, none⟩)) (.agg c)).run P w = .ok () w')
    (hk : K (a.put op.dst undef) w') : op.wp P a w K Q := by
  unfold Oper.wp execOp
  simp only [ho, hx, hy, Sem.run_bind, Sem.run_pure, Result.andThen_ok, h]
  exact hk
/-- the store of a whole array, as a walk leaves it -/
theorem Blk.storeC {P : Program} {w : World} {g : Nat} {c : Array Value} {t : TypeId} (h : Blk w g c t) (c' : Array Value) (hs : c'.size = c.size) (h1 : ∀ v ∈ c'.toList, v.oneCell' = true) :
    (storeCells ⟨g, 0, none⟩ c'.toList 0).run P w = .ok () (w.setRow g c') := by
  have := run_storeCells_at P g 0 t c'.toList 0 c w h (by simp [hs]) h1
  rw [this]
  congr 2
  have e : c.toList.drop (0 + 0 + c'.toList.length) = [] := List.drop_of_length_le (by simp [hs])
  rw [e]; simp
/-- a result that lies in a cell of its own -/
theorem results_cellA {P : Program} {fn : Func} {p : Tmp} {ty : TypeId} (h : fn.results = #[.cell p ty]) (tmps : Array Value) {w : World} {g : Nat} {c : Array Value} {t : TypeId} (hp : tmps.getD p undef = .pointer (some ⟨g, 0, none⟩)) (hb : Blk w g c t)
    (d : TypeDesc) (hu : P.underlying ty = some d) (hd : d.isRow = true) (hi : (P.info? ty).map (·.size) = some c.size) : (results fn tmps).run P w = .ok (.agg c) w := by
  have hl := run_loadVar_mid (P := P) w g 0 ty c.toList d (fun j v hv => by rw [Nat.zero_add]; exact hb.cell j v (by simpa using hv)) hu hd (by simpa using hi)
  simp only [results, h]
  have hp' : tmps[p]?.getD undef = .pointer (some ⟨g, 0, none⟩) := by simpa using hp
  simp [Sem.run_bind, Result.andThen, hp', asAddr, hl]
/-- a struct that lies in a cell of its own, and one more result -/
theorem results_cellS {P : Program} {fn : Func} {p u : Tmp} {ty : TypeId} (h : fn.results = #[.cell p ty, .tmp u]) (tmps : Array Value) {w : World} {g : Nat} {c : Array Value} {t : TypeId} (hp : tmps.getD p undef = .pointer (some ⟨g, 0, none⟩)) (hb : Blk w g c t)
    (d : TypeDesc) (hu : P.underlying ty = some d) (hd : d.isRow = true) (hi : (P.info? ty).map (·.size) = some c.size) : (results fn tmps).run P w = .ok (.tuple #[.agg c, tmps.getD u undef]) w := by
  have hl := run_loadVar_mid (P := P) w g 0 ty c.toList d (fun j v hv => by rw [Nat.zero_add]; exact hb.cell j v (by simpa using hv)) hu hd (by simpa using hi)
  rw [results_cell_tmp h, hp]
  simp [asAddr, Result.andThen, hl]
/-- a[i] of an array that is a value, its elements one integer each -/
theorem run_index_arr {P : Program} (w : World) (t e : TypeId) (n : Nat) (q : IntKind) (i0 : TypeInfo) (cs : Array Value) (k : IntKind) (i : Nat) (v : Value) (hu : P.underlying t = some (.array n e)) (he : P.underlying e = some (.int q)) (hi0 : P.info? e = some i0) (hs : i0.size = 1) (hi : i < n) (hv : cs[i]? = some v) :
    (Instr.index t (.agg cs) (.int k (i : Int))).run P w = .ok v w := by
  have h1 : (isAgg e).run P w = .ok false w := by simp [isAgg, run_underlying he]
  have h2 : (sizeOf e).run P w = .ok 1 w := by simp [sizeOf, typeInfo, hi0, hs]
  have h3 : (0 : Int) ≤ (i : Int) ∧ (i : Int) < (n : Int) := by omega
  simp [Instr.index, run_underlying hu, asIntOf, h3, part, h1, h2, hv, hi]
/-- the load of a whole array, as a walk leaves it -/
theorem Blk.loadC {P : Program} {w : World} {g : Nat} {c : Array Value} {t : TypeId} (h : Blk w g c t) (n : Nat) (hn : c.size = n) : (loadCellsFrom ⟨g, 0, none⟩ 0 n #[]).run P w = .ok c w := by
  subst hn
  have := run_loadCells_list (P := P) w ⟨g, 0, none⟩ c.toList (fun j v hv => by
    have hadd : (⟨g, 0, none⟩ : Addr).add j = ⟨g, j, none⟩ := by unfold Addr.add; split <;> simp_all
    rw [hadd]; exact h.cell j v (by simpa using hv))
  simpa [loadCells] using this
end Go.Proofs.YtokfcgloogdeiaaGreatDoor
