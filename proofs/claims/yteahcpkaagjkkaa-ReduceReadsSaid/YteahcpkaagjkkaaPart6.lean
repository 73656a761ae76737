/- Texts put together: Arr FolArr TalArr -/
import Derived.Test.YteahcpkaagjkkaaPart1
import Derived.Deep.MidRow
import Derived.Deep.WholeRow
import Derived.Laws.CopyRow
import Derived.Laws.Tables
namespace Go.Proofs.Yteahcpkaagjkkaa
set_option linter.unusedVariables false
set_option linter.unusedSimpArgs false
open Go.ChangeShapes Go.WideShapes Go.ChangeAt Go.RowKit

theorem Keep.setCells (g : Nat) : ∀ (vs : List Value) (o : Nat) (w : World), Keep [g] w (w.setCells g o vs)
  | [], _, w => Keep.refl _ _
  | v :: vs, o, w => ((Keep.refl [g] w).setCell (by simp) v).trans (Keep.setCells g vs (o + 1) (w.setCell ⟨g, o, none⟩ v)) (by simp)
theorem setCells_blk (g : Nat) (t : TypeId) : ∀ (vs : List Value) (o : Nat) (w : World) (c : Array Value), Blk w g c t → o + vs.length ≤ c.size → ∃ c', Blk (w.setCells g o vs) g c' t ∧ c'.size = c.size ∧ (∀ i, i < o → c'[i]? = c[i]?) ∧ ∀ j, j < vs.length → c'[o + j]? = vs[j]?
  | [], o, w, c, h, _ => ⟨c, h, rfl, fun _ _ => rfl, fun j hj => by simp at hj⟩
  | v :: vs, o, w, c, h, hl => by
    obtain ⟨c', h1, h2, h3, h4⟩ := setCells_blk g t vs (o + 1) _ _ (h.set o v) (by simp at hl ⊢; omega)
    refine ⟨c', h1, by simpa using h2, fun i hi => ?_, fun j hj => ?_⟩
    · rw [h3 i (by omega), Array.getElem?_setIfInBounds]; rw [if_neg (by omega)]
    · cases j with
      | zero =>
        rw [Nat.add_zero, h3 o (by omega), Array.getElem?_setIfInBounds, if_pos rfl]
        simp at hl
        simp; omega
      | succ j =>
        have := h4 j (by simpa using hj)
        rw [show o + (j + 1) = o + 1 + j by omega, this]; simp
theorem Blk.setCells {w : World} {g : Nat} {c : Array Value} {t : TypeId} (h : Blk w g c t) (c' : Array Value) (hs : c'.size = c.size) : Blk (w.setCells g 0 c'.toList) g c' t := by
  obtain ⟨c2, h1, h2, _, h4⟩ := setCells_blk g t c'.toList 0 w c h (by simp [hs])
  have : c2 = c' := by
    apply Array.ext_getElem?
    intro i
    by_cases hi : i < c'.size
    · have := h4 i (by simpa using hi)
      simpa using this
    · rw [Array.getElem?_eq_none (by omega), Array.getElem?_eq_none (by omega)]
  exact this ▸ h1
theorem Blk.load {P : Program} {w : World} {g : Nat} {c : Array Value} {t : TypeId} (h : Blk w g c t) (d : TypeDesc) (hu : P.underlying t = some d) (hd : d.isRow = true) (hi : (P.info? t).map (·.size) = some c.size) :
    (Instr.loadAt t (.pointer (some ⟨g, 0, none⟩))).run P w = .ok (.agg c) w := by
  have := run_loadAt_mid (P := P) w g 0 t c.toList d (fun j v hv => by rw [Nat.zero_add]; exact h.cell j v (by simpa using hv)) hu hd (by simpa using hi)
  simpa using this
theorem Blk.store {P : Program} {w : World} {g : Nat} {c : Array Value} {t : TypeId} (h : Blk w g c t) (c' : Array Value) (hs : c'.size = c.size) (hi : (P.info? t).map (·.size) = some c'.size) (h1 : c'.all (·.oneCell') = true) :
    (Instr.storeAt t (.pointer (some ⟨g, 0, none⟩)) (.agg c')).run P w = .ok () (w.setCells g 0 c'.toList) := by
  refine run_storeAt_mid (P := P) w g 0 t c' (fun j hj => ?_) hi h1
  rw [Nat.zero_add]
  have hv : c[j]? = some (c[j]'(by omega)) := Array.getElem?_eq_getElem (by omega)
  exact ⟨by rw [h.cell j _ hv]; rfl, h.free j⟩
theorem wp_loadA {P : Program} {op : Oper} {a : Act} {w : World} {K : Act → World → Prop} {Q : Exit → Act → World → Prop} (ty : TypeId) (x : Operand) (ho : op.op = .load ty x)
    (g : Nat) (hx : a.eval x = .pointer (some ⟨g, 0, none⟩)) (c : Array Value) (h : (Instr.loadAt ty (.pointer (some ⟨g, 0, none⟩))).run P w = .ok (.agg c) w)
    (hk : K (a.put op.dst (.agg c)) w) : op.wp P a w K Q := by
  unfold Oper.wp execOp
  simp only [ho, hx, Sem.run_bind, Sem.run_pure, Result.andThen_ok, h]
  exact hk
theorem wp_storeA {P : Program} {op : Oper} {a : Act} {w w' : World} {K : Act → World → Prop} {Q : Exit → Act → World → Prop} (ty : TypeId) (x y : Operand) (ho : op.op = .store ty x y)
    (g : Nat) (hx : a.eval x = .pointer (some ⟨g, 0, none⟩)) (c : Array Value) (hy : a.eval y = .agg c) (h : (Instr.storeAt ty (.pointer (some ⟨g, 0, none⟩)) (.agg c)).run P w = .ok () w')
    (hk : K (a.put op.dst undef) w') : op.wp P a w K Q := by
  unfold Oper.wp execOp
  simp only [ho, hx, hy, Sem.run_bind, Sem.run_pure, Result.andThen_ok, h]
  exact hk
/-- the store of a whole array, as a walk leaves it -/
theorem Blk.storeC {P : Program} {w : World} {g : Nat} {c : Array Value} {t : TypeId} (h : Blk w g c t) (c' : Array Value) (hs : c'.size = c.size) (h1 : ∀ v ∈ c'.toList, v.oneCell' = true) :
    (storeCells ⟨g, 0, none⟩ c'.toList 0).run P w = .ok () (w.setRow g c') := by
  have := run_storeCells_at P g 0 t c'.toList 0 c w h (by simp [hs]) h1
  rw [this]
  congr 2
  have e : c.toList.drop (0 + 0 + c'.toList.length) = [] := List.drop_of_length_le (by simp [hs])
  rw [e]; simp
/-- a result that lies in a cell of its own -/
theorem results_cellA {P : Program} {fn : Func} {p : Tmp} {ty : TypeId} (h : fn.results = #[.cell p ty]) (tmps : Array Value) {w : World} {g : Nat} {c : Array Value} {t : TypeId} (hp : tmps.getD p undef = .pointer (some ⟨g, 0, none⟩)) (hb : Blk w g c t)
    (d : TypeDesc) (hu : P.underlying ty = some d) (hd : d.isRow = true) (hi : (P.info? ty).map (·.size) = some c.size) : (results fn tmps).run P w = .ok (.agg c) w := by
  have hl := run_loadVar_mid (P := P) w g 0 ty c.toList d (fun j v hv => by rw [Nat.zero_add]; exact hb.cell j v (by simpa using hv)) hu hd (by simpa using hi)
  simp only [results, h]
  have hp' : tmps[p]?.getD undef = .pointer (some ⟨g, 0, none⟩) := by simpa using hp
  simp [Sem.run_bind, Result.andThen, hp', asAddr, hl]
/-- a[i] of an array that is a value, its elements one integer each -/
theorem run_index_arr {P : Program} (w : World) (t e : TypeId) (n : Nat) (q : IntKind) (i0 : TypeInfo) (cs : Array Value) (k : IntKind) (i : Nat) (v : Value) (hu : P.underlying t = some (.array n e)) (he : P.underlying e = some (.int q)) (hi0 : P.info? e = some i0) (hs : i0.size = 1) (hi : i < n) (hv : cs[i]? = some v) :
    (Instr.index t (.agg cs) (.int k (i : Int))).run P w = .ok v w := by
  have h1 : (isAgg e).run P w = .ok false w := by simp [isAgg, run_underlying he]
  have h2 : (sizeOf e).run P w = .ok 1 w := by simp [sizeOf, typeInfo, hi0, hs]
  have h3 : (0 : Int) ≤ (i : Int) ∧ (i : Int) < (n : Int) := by omega
  simp [Instr.index, run_underlying hu, asIntOf, h3, part, h1, h2, hv, hi]
/-- the load of a whole array, as a walk leaves it -/
theorem Blk.loadC {P : Program} {w : World} {g : Nat} {c : Array Value} {t : TypeId} (h : Blk w g c t) (n : Nat) (hn : c.size = n) : (loadCellsFrom ⟨g, 0, none⟩ 0 n #[]).run P w = .ok c w := by
  subst hn
  have := run_loadCells_list (P := P) w ⟨g, 0, none⟩ c.toList (fun j v hv => by
    have hadd : (⟨g, 0, none⟩ : Addr).add j = ⟨g, j, none⟩ := by unfold Addr.add; split <;> simp_all
    rw [hadd]; exact h.cell j v (by simpa using hv))
  simpa [loadCells] using this
end Go.Proofs.Yteahcpkaagjkkaa
namespace Go.Proofs.Yteahcpkaagjkkaa
set_option linter.unusedVariables false
set_option linter.unusedSimpArgs false
open Go.ChangeShapes Go.WideShapes Go.ChangeAt Go.RowKit

/-- an array of 256 numbers -/
def AL (f : Nat → Nat) : Array Value := ((List.range 256).map fun n => Value.int .i64 (f n)).toArray
theorem AL_size (f : Nat → Nat) : (AL f).size = 256 := by simp [AL]
theorem AL_get (f : Nat → Nat) (n : Nat) (h : n < 256) : (AL f)[n]? = some (.int .i64 (f n)) := by
  simp [AL, List.getElem?_range h]
theorem AL_eq {cs : Array Value} {f : Nat → Nat} (hs : cs.size = 256) (h : ∀ n, n < 256 → cs[n]? = some (.int .i64 (f n))) : cs = AL f := by
  apply Array.ext_getElem?
  intro i
  by_cases hi : i < 256
  · rw [h i hi, AL_get f i hi]
  · rw [Array.getElem?_eq_none (by omega), Array.getElem?_eq_none (by rw [AL_size]; omega)]
theorem AL_set (f : Nat → Nat) (n : Nat) (y : Nat) (h : n < 256) : (AL f).setIfInBounds n (.int .i64 y) = AL fun i => if i = n then y else f i := by
  refine AL_eq (by simp [AL_size]) fun i hi => ?_
  rw [Array.getElem?_setIfInBounds, AL_size]
  by_cases e : n = i
  · subst e; simp [h]
  · rw [if_neg e, AL_get f i hi, if_neg (fun h => e h.symm)]
theorem AL_one (f : Nat → Nat) : ∀ v ∈ (AL f).toList, v.oneCell' = true := by
  intro v hv
  simp only [AL, List.mem_map] at hv
  obtain ⟨n, _, rfl⟩ := hv
  rfl
theorem AL_zero : AL (fun _ => 0) = Array.replicate 256 (.int .i64 0) := by
  refine (AL_eq (by simp) fun n hn => ?_).symm
  rw [Array.getElem?_replicate, if_pos hn]; rfl
theorem alInfo : (Try.prog.info? 113).map (fun i => (i.zero, i.size)) = some (some (.agg (Array.replicate 256 (.int .i64 0))), 256) := by kernel_rfl
theorem alSize : (Try.prog.info? 113).map (·.size) = some 256 := by kernel_rfl
theorem wpList_loadA256 {ops : Array Oper} {rest : List Oper} {o : Oper} {a : Act} {w : World} {Q : Exit → Act → World → Prop} (hgd : o.guard = none) (x : Operand) (ho : o.op = .load 113 x)
    (g : Nat) (hx : a.eval x = .pointer (some ⟨g, 0, none⟩)) (f : Nat → Nat) (hb : Blk w g (AL f) 113)
    (h : wpList Try.prog ops Q rest (a.put o.dst (.agg (AL f))) w) : wpList Try.prog ops Q (o :: rest) a w :=
  wpList_load_row hgd 113 x ho g hx _ _ _ _ hb Try.underlying113 rfl (by rw [AL_size]; exact alSize) h
theorem wpList_storeA256 {ops : Array Oper} {rest : List Oper} {o : Oper} {a : Act} {w : World} {Q : Exit → Act → World → Prop} (hgd : o.guard = none) (x y : Operand) (ho : o.op = .store 113 x y)
    (g : Nat) (f : Nat → Nat) (hx : a.eval x = .pointer (some ⟨g, 0, none⟩)) (hy : a.eval y = .agg (AL f)) (t : TypeId) (old : Array Value) (hb : Blk w g old t) (hold : old.size = 256)
    (h : wpList Try.prog ops Q rest (a.put o.dst undef) (w.setRow g (AL f))) : wpList Try.prog ops Q (o :: rest) a w :=
  wpList_store_row hgd 113 x y ho g _ hx hy t old hb (by rw [AL_size]; exact alSize) (by rw [hold, AL_size]) (Array.all_eq_true_iff_forall_mem.2 fun v hv => AL_one f v (by simpa using hv)) h
theorem results_cell256 {fn : Func} {p : Tmp} (h : fn.results = #[.cell p 113]) (tmps : Array Value) {w : World} {g : Nat} {f : Nat → Nat} (hp : tmps.getD p undef = .pointer (some ⟨g, 0, none⟩)) (hb : Blk w g (AL f) 113) :
    (results fn tmps).run Try.prog w = .ok (.agg (AL f)) w :=
  results_cellA h tmps hp hb _ Try.underlying113 rfl (by rw [AL_size]; exact alSize)
end Go.Proofs.Yteahcpkaagjkkaa
namespace Go.Proofs.Yteahcpkaagjkkaa
set_option linter.unusedVariables false
set_option linter.unusedSimpArgs false
open Go.ChangeShapes Go.WideShapes Go.ChangeAt Go.RowKit

/-- 256 arrays of 256 numbers -/
def TA (f : Nat → Nat → Nat) : Array Value := ((List.range 65536).map fun k => Value.int .i64 (f (k / 256) (k % 256))).toArray
theorem TA_size (f : Nat → Nat → Nat) : (TA f).size = 65536 := by unfold TA; rw [List.size_toArray, List.length_map, List.length_range]
theorem TA_get (f : Nat → Nat → Nat) (n : Nat) (h : n < 65536) : (TA f)[n]? = some (.int .i64 (f (n / 256) (n % 256))) := by
  unfold TA; rw [List.getElem?_toArray, List.getElem?_map, List.getElem?_range h]; rfl
theorem TA_at (f : Nat → Nat → Nat) (c x : Nat) (hc : c < 256) (hx : x < 256) : (TA f)[c * 256 + x]? = some (.int .i64 (f c x)) := by
  rw [TA_get f _ (by omega), show (c * 256 + x) / 256 = c by omega, show (c * 256 + x) % 256 = x by omega]
theorem TA_eq {cs : Array Value} {f : Nat → Nat → Nat} (hs : cs.size = 65536) (h : ∀ n, n < 65536 → cs[n]? = some (.int .i64 (f (n / 256) (n % 256)))) : cs = TA f := by
  apply Array.ext_getElem?
  intro i
  by_cases hi : i < 65536
  · rw [h i hi, TA_get f i hi]
  · rw [Array.getElem?_eq_none (by omega), Array.getElem?_eq_none (by rw [TA_size]; omega)]
theorem TA_set (f : Nat → Nat → Nat) (c x y : Nat) (hc : c < 256) (hx : x < 256) : (TA f).setIfInBounds (c * 256 + x) (.int .i64 y) = TA fun i j => if i = c ∧ j = x then y else f i j := by
  refine TA_eq (by rw [Array.size_setIfInBounds, TA_size]) fun i hi => ?_
  rw [Array.getElem?_setIfInBounds, TA_size]
  by_cases e : c * 256 + x = i
  · rw [if_pos e, if_pos (by omega), if_pos ⟨by omega, by omega⟩]
  · rw [if_neg e, TA_get f i hi, if_neg (fun h => e (by omega))]
def dblI : Nat → List Value → List Value
  | 0, l => l
  | n + 1, l => (dblI n l).append (dblI n l)
theorem dblI_len (n : Nat) (l : List Value) : (dblI n l).length = l.length * 2 ^ n := by
  induction n with
  | zero => simp [dblI]
  | succ n ih =>
    show (dblI n l ++ dblI n l).length = _
    rw [List.length_append, ih, Nat.pow_succ, ← Nat.mul_assoc]; omega
theorem dblI_mem (n : Nat) (l : List Value) (v : Value) (h : v ∈ dblI n l) : v ∈ l := by
  induction n with
  | zero => exact h
  | succ n ih =>
    have h2 : v ∈ dblI n l ++ dblI n l := h
    rcases List.mem_append.1 h2 with h2 | h2 <;> exact ih h2
def leafI : List Value := [.int .i64 0, .int .i64 0, .int .i64 0, .int .i64 0, .int .i64 0, .int .i64 0, .int .i64 0, .int .i64 0, .int .i64 0, .int .i64 0, .int .i64 0, .int .i64 0, .int .i64 0, .int .i64 0, .int .i64 0, .int .i64 0, .int .i64 0, .int .i64 0, .int .i64 0, .int .i64 0, .int .i64 0, .int .i64 0, .int .i64 0, .int .i64 0, .int .i64 0, .int .i64 0, .int .i64 0, .int .i64 0, .int .i64 0, .int .i64 0, .int .i64 0, .int .i64 0, .int .i64 0, .int .i64 0, .int .i64 0, .int .i64 0, .int .i64 0, .int .i64 0, .int .i64 0, .int .i64 0, .int .i64 0, .int .i64 0, .int .i64 0, .int .i64 0, .int .i64 0, .int .i64 0, .int .i64 0, .int .i64 0, .int .i64 0, .int .i64 0, .int .i64 0, .int .i64 0, .int .i64 0, .int .i64 0, .int .i64 0, .int .i64 0, .int .i64 0, .int .i64 0, .int .i64 0, .int .i64 0, .int .i64 0, .int .i64 0, .int .i64 0, .int .i64 0]
theorem leafI_len : leafI.length = 64 := rfl
theorem leafI_mem (v : Value) (h : v ∈ leafI) : v = .int .i64 0 := by
  have e : leafI = List.replicate 64 (.int .i64 0) := rfl
  rw [e] at h
  exact List.eq_of_mem_replicate h
theorem taInfo : (Try.prog.info? 142).map (fun i => (i.zero, i.size)) = some (some (.agg (dblI 10 leafI).toArray), 65536) := by kernel_rfl
theorem TA_zero : (dblI 10 leafI).toArray = TA fun _ _ => 0 := by
  have hl : (dblI 10 leafI).length = 65536 := by rw [dblI_len, leafI_len]
  refine TA_eq (by rw [List.size_toArray, hl]) fun n hn => ?_
  rw [List.getElem?_toArray, List.getElem?_eq_getElem (by omega)]
  congr 1
  exact leafI_mem _ (dblI_mem 10 _ _ (List.getElem_mem _))
end Go.Proofs.Yteahcpkaagjkkaa
