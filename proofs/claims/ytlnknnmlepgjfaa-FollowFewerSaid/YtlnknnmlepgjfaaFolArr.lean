/- Arrays of 256 numbers in a block of their own, loaded, stored and answered whole. No condition beyond each theorem's own premises. -/
import Derived.Test.YtlnknnmlepgjfaaArr
import Derived.Laws.Tables
namespace Go.Proofs.Ytlnknnmlepgjfaa
set_option linter.unusedVariables false
set_option linter.unusedSimpArgs false
open Go.ChangeShapes Go.WideShapes Go.ChangeAt Go.RowKit

/-- an array of 256 numbers -/
def AL (f : Nat → Nat) : Array Value := ((List.range 256).map fun n => Value.int .i64 (f n)).toArray
theorem AL_size (f : Nat → Nat) : (AL f).size = 256 := by simp [AL]
theorem AL_get (f : Nat → Nat) (n : Nat) (h : n < 256) : (AL f)[n]? = some (.int .i64 (f n)) := by
  simp [AL, List.getElem?_range h]
theorem AL_eq {cs : Array Value} {f : Nat → Nat} (hs : cs.size = 256) (h : ∀ n, n < 256 → cs[n]? = some (.int .i64 (f n))) : cs = AL f := by
  apply Array.ext_getElem?
  intro i
  by_cases hi : i < 256
  · rw [h i hi, AL_get f i hi]
  · rw [Array.getElem?_eq_none (by omega), Array.getElem?_eq_none (by rw [AL_size]; omega)]
theorem AL_set (f : Nat → Nat) (n : Nat) (y : Nat) (h : n < 256) : (AL f).setIfInBounds n (.int .i64 y) = AL fun i => if i = n then y else f i := by
  refine AL_eq (by simp [AL_size]) fun i hi => ?_
  rw [Array.getElem?_setIfInBounds, AL_size]
  by_cases e : n = i
  · subst e; simp [h]
  · rw [if_neg e, AL_get f i hi, if_neg (fun h => e h.symm)]
theorem AL_one (f : Nat → Nat) : ∀ v ∈ (AL f).toList, v.oneCell' = true := by
  intro v hv
  simp only [AL, List.mem_map] at hv
  obtain ⟨n, _, rfl⟩ := hv
  rfl
theorem AL_zero : AL (fun _ => 0) = Array.replicate 256 (.int .i64 0) := by
  refine (AL_eq (by simp) fun n hn => ?_).symm
  rw [Array.getElem?_replicate, if_pos hn]; rfl
theorem alInfo : (Try.prog.info? 46).map (fun i => (i.zero, i.size)) = some (some (.agg (Array.replicate 256 (.int .i64 0))), 256) := by kernel_rfl
theorem alSize : (Try.prog.info? 46).map (·.size) = some 256 := by kernel_rfl
theorem wpList_loadA256 {ops : Array Oper} {rest : List Oper} {o : Oper} {a : Act} {w : World} {Q : Exit → Act → World → Prop} (hgd : o.guard = none) (x : Operand) (ho : o.op = .load 46 x)
    (g : Nat) (hx : a.eval x = .pointer (some ⟨g, 0, none⟩)) (f : Nat → Nat) (hb : Blk w g (AL f) 46)
    (h : wpList Try.prog ops Q rest (a.put o.dst (.agg (AL f))) w) : wpList Try.prog ops Q (o :: rest) a w :=
  wpList_load_row hgd 46 x ho g hx _ _ _ _ hb Try.underlying46 rfl (by rw [AL_size]; exact alSize) h
theorem wpList_storeA256 {ops : Array Oper} {rest : List Oper} {o : Oper} {a : Act} {w : World} {Q : Exit → Act → World → Prop} (hgd : o.guard = none) (x y : Operand) (ho : o.op = .store 46 x y)
    (g : Nat) (f : Nat → Nat) (hx : a.eval x = .pointer (some ⟨g, 0, none⟩)) (hy : a.eval y = .agg (AL f)) (t : TypeId) (old : Array Value) (hb : Blk w g old t) (hold : old.size = 256)
    (h : wpList Try.prog ops Q rest (a.put o.dst undef) (w.setRow g (AL f))) : wpList Try.prog ops Q (o :: rest) a w :=
  wpList_store_row hgd 46 x y ho g _ hx hy t old hb (by rw [AL_size]; exact alSize) (by rw [hold, AL_size]) (Array.all_eq_true_iff_forall_mem.2 fun v hv => AL_one f v (by simpa using hv)) h
theorem results_cell256 {fn : Func} {p : Tmp} (h : fn.results = #[.cell p 46]) (tmps : Array Value) {w : World} {g : Nat} {f : Nat → Nat} (hp : tmps.getD p undef = .pointer (some ⟨g, 0, none⟩)) (hb : Blk w g (AL f) 46) :
    (results fn tmps).run Try.prog w = .ok (.agg (AL f)) w :=
  results_cellA h tmps hp hb _ Try.underlying46 rfl (by rw [AL_size]; exact alSize)
end Go.Proofs.Ytlnknnmlepgjfaa
