/- Texts put together: LzMap -/
import Derived.Test.YtkefidbokeifdaaPart4
import Derived.Test.YtkefidbokeifdaaPart1
import Derived.Maps.Views
import Derived.Maps.OwnOps
import Derived.DeepKeys4
import Derived.StillTailTactics
namespace Go.Proofs.Ytkefidbokeifdaa
set_option linter.unusedVariables false
set_option linter.unusedSimpArgs false
open Go.ChangeShapes Go.WideShapes Go.ChangeAt Go.RowKit

theorem laidOut10 : laidOutB Try.prog = true := by kernel_rfl
theorem rowLk : (108 : TypeId) < Try.prog.types.size := of_decide_eq_true (by kernel_rfl)
theorem deepLk : Try.prog.keyTypeAt (Try.prog.types.size + 1) 108 = true := by kernel_rfl
theorem cellsLk : Try.prog.cellsOf 108 = 2 := by kernel_rfl
theorem cellsLi : Try.prog.cellsOf 3 = 1 := by kernel_rfl
theorem cellsL8 : Try.prog.cellsOf 5 = 1 := by kernel_rfl
theorem wideLk : (match Try.prog.underlying 108 with | some (.array _ _) | some (.struct _) => true | _ => false) = true := by rw [Try.underlying108]
set_option maxRecDepth 100000 in
theorem lawLk : WideMaps.KeyLaw Try.prog 108 := deep_law_laid laidOut10 (m := 2) (by omega) rowLk (by kernel_rfl) wideLk
theorem keyedLk : Maps.Keyed Try.prog 108 := Maps.Keyed.of_law lawLk
/-- a link as a key -/
def keyL (p : Int) (c : UInt8) : Value := .agg #[.int .i64 p, .int .u8 c.toNat]
def litL (p : Int) (c : UInt8) : Lit := .string (keyBytes [.int .i64 p, .int .u8 c.toNat])
set_option maxRecDepth 100000 in
theorem keyOfL (p : Int) (c : UInt8) (hp : (Lit.int .i64 p).wf = true) : keyOf Try.prog 108 (keyL p c) = some (litL p c) := by
  have hkt : Try.prog.keyType 108 = true := deepLk
  have hf : (keyL p c).formed Try.prog 108 = true := by simp [keyL, Value.formed, Try.underlying108, cellsLk]
  obtain ⟨n, hn⟩ : ∃ n, Try.prog.types.size + 1 = n + 2 := ⟨Try.prog.types.size - 1, by have := rowLk; have h : (108 : Nat) < Try.prog.types.size := this; omega⟩
  have h8 : Try.prog.keyLits (n + 1) 5 [.int .u8 (c.toNat : Int)] = some [.int .u8 (c.toNat : Int)] := by
    have : (Lit.int .u8 (c.toNat : Int)).wf = true := by have := c.toNat_lt; simp [Lit.wf, IntKind.min, IntKind.max, IntKind.signed, IntKind.bits]; omega
    simp [Program.keyLits, Try.underlying5, this]
  have hi : Try.prog.keyLits (n + 1) 3 [.int .i64 p] = some [.int .i64 p] := by
    simp [Program.keyLits, Try.underlying3, hp]
  have hl : Try.prog.keyLits (Try.prog.types.size + 1) 108 (keyL p c).cells.toList = some [.int .i64 p, .int .u8 (c.toNat : Int)] := by
    rw [hn]
    simp only [keyL, Value.cells]
    have hu := Try.underlying108
    unfold Program.keyLits
    rw [hu]
    simp [cellsLk, cellsLi, cellsL8, h8, hi]
  unfold keyOf
  rw [Try.underlying108]
  simp only [hkt, hf, hl, Bool.and_self, if_true, Option.map_some]
  rfl
theorem litL_inj {p p' : Int} {c c' : UInt8} (hp : (Lit.int .i64 p).wf = true) (hp' : (Lit.int .i64 p').wf = true) (h : litL p c = litL p' c') : p = p' ∧ c = c' := by
  have := lawLk.inj (keyOfL p c hp) (by rw [h]; exact keyOfL p' c' hp')
  simp only [keyL, Value.agg.injEq, Array.mk.injEq, List.cons.injEq, Value.int.injEq, true_and, and_true] at this
  exact ⟨this.1, UInt8.toNat_inj.1 (by omega)⟩
/-- block g is a map that tells the least code of a link -/
def LinkM (w : World) (g n : Nat) (L : Int → UInt8 → Option Nat) : Prop :=
  ∃ D : DataW Unit, w.ownsMap Try.prog 108 (plainElem Try.prog 3) g n D ∧ Maps.IsMap D ∧ ∀ (p : Int) (c : UInt8), (Lit.int .i64 p).wf = true → match L p c with
    | none => Maps.has D (litL p c) = false
    | some m => Maps.has D (litL p c) = true ∧ ∀ z, D.atKey (litL p c) z = .lit (.int .i64 m)
theorem LinkM.made (w : World) : LinkM (w.alloc (.map #[] 0)) w.heap.size 0 (fun _ _ => none) :=
  ⟨.map [], World.ownsMap_made w _ _ _, Maps.isMap_empty, fun _ _ _ => rfl⟩
theorem LinkM.lt {w : World} {g n : Nat} {L : Int → UInt8 → Option Nat} (h : LinkM w g n L) : g < w.heap.size := by
  obtain ⟨D, h1, _⟩ := h; exact h1.lt
theorem LinkM.keep {w w' : World} {g n : Nat} {L : Int → UInt8 → Option Nat} {S : List Nat} (h : LinkM w g n L) (k : Keep S w w') (hg : g ∉ S) : LinkM w' g n L := by
  have hlt := h.lt
  obtain ⟨D, ⟨es, clock, hb, F, hs, hD⟩, h2, h3⟩ := h
  exact ⟨D, ⟨es, clock, (k.block g hlt hg).trans hb, F, hs, hD⟩, h2, h3⟩
theorem zero64 (w : World) : (zeroValue 3).run Try.prog w = .ok (.int .i64 0) w := by kernel_rfl
/-- v, ok := m[k] -/
theorem LinkM.look {w : World} {g n : Nat} {L : Int → UInt8 → Option Nat} (h : LinkM w g n L) (p : Int) (c : UInt8) (hp : (Lit.int .i64 p).wf = true) :
    (Instr.lookup 98 (.map (some g)) (.agg #[.int .i64 p, .int .u8 c.toNat]) true).run Try.prog w = .ok (.tuple (match L p c with | none => #[.int .i64 0, .bool false] | some m => #[.int .i64 m, .bool true])) w := by
  obtain ⟨D, ⟨es, clock, hb, F, hs, hD⟩, h2, h3⟩ := h
  have h4 := h3 p c hp
  rcases Maps.fit_look true keyedLk Try.underlying98 (zero64 w) hb F (keyOfL p c hp) with ⟨r1, r2, r3⟩ | ⟨e0, y, r0, r1, r2, r3, r4, r5⟩
  · rw [← hD] at r3
    have hn := Maps.has_false_of_atKey r3
    cases hL : L p c with
    | none => exact r1
    | some m => rw [hL] at h4; have := h4.1; rw [hn] at this; cases this
  · rw [← hD] at r4
    have hy := Maps.has_true_of_atKey r4
    cases hL : L p c with
    | none => rw [hL] at h4; simp only at h4; rw [hy] at h4; cases h4
    | some m =>
      rw [hL] at h4
      obtain ⟨a, ha, hz, _⟩ := plainElem_int_inv Try.underlying3 r3
      have e1 := (h4.2 .nil).symm.trans (r4 .nil)
      rw [hz] at e1
      have e2 : (m : Int) = a := by simpa using e1
      have r2' : (Instr.lookup 98 (.map (some g)) (.agg #[.int .i64 p, .int .u8 c.toNat]) true).run Try.prog w = _ := r2
      rw [r2', ha, ← e2]; rfl
/-- m[k] = v -/
theorem LinkM.put {w : World} {g n : Nat} {L : Int → UInt8 → Option Nat} (h : LinkM w g n L) (hn : n < maxLen) (p : Int) (c : UInt8) (hp : (Lit.int .i64 p).wf = true) (m : Nat) (hm : m < 9223372036854775808) :
    ∃ w', (Instr.mapUpdate 98 (.map (some g)) (.agg #[.int .i64 p, .int .u8 c.toNat]) (.int .i64 (m : Int))).run Try.prog w = .ok () w' ∧ LinkM w' g (n + 1) (fun p' c' => if p' = p ∧ c' = c then some m else L p' c') ∧ Keep [g] w w' := by
  obtain ⟨D, h1, h2, h3⟩ := h
  have hwf : (Lit.int .i64 (m : Int)).wf = true := by simp [Lit.wf, IntKind.min, IntKind.max, IntKind.signed, IntKind.bits]; omega
  obtain ⟨w', hr, g1, g2⟩ := h1.update keyedLk Try.underlying98 hn (keyOfL p c hp) (plainElem_int Try.underlying3 hwf)
  refine ⟨w', hr, ⟨_, g1, h2.put _ _, fun p' c' hp' => ?_⟩, (Keep.refl _ _).grown g2 (fun _ e => .inl (by simp at e ⊢; exact e.symm))⟩
  by_cases e : p' = p ∧ c' = c
  · obtain ⟨rfl, rfl⟩ := e
    simp only [and_self, if_true]
    exact ⟨Maps.has_put_same h2 (show WideAt.IsKeyLit (litL p' c') from trivial) _, fun z => Maps.atKey_put_same h2 (show WideAt.IsKeyLit (litL p' c') from trivial) _ z⟩
  · simp only [if_neg e]
    have h4 := h3 p' c' hp'
    have hne : litL p' c' ≠ litL p c := fun q => e (litL_inj hp' hp q)
    cases hL : L p' c' with
    | none =>
      rw [hL] at h4; simp only at h4 ⊢; rw [Maps.has_put_other hne]; exact h4
    | some q =>
      rw [hL] at h4
      exact ⟨by rw [Maps.has_put_other hne]; exact h4.1, fun z => by rw [Maps.atKey_put_other hne]; exact h4.2 z⟩
open Go.ChangeMaps Go.MapKept in
/-- clear(m) -/
theorem LinkM.wipe {w : World} {g n : Nat} {L : Int → UInt8 → Option Nat} (h : LinkM w g n L) (ty : TypeId) :
    ∃ w', (Builtin.clear_ #[98] ty #[.map (some g)]).run Try.prog w = .ok (.tuple #[]) w' ∧ LinkM w' g 0 (fun _ _ => none) ∧ Keep [g] w w' := by
  obtain ⟨D, ⟨es, clock, hb, F, hs, hD⟩, h2, h3⟩ := h
  refine ⟨setBlock w g (.map #[] clock), ?_, ⟨.map [], ⟨#[], clock, heap_setBlock_same hb _, ⟨by simp, ⟨by simp, by simp, by simp⟩, by simp⟩, Nat.le_refl _, rfl⟩, Maps.isMap_empty, fun _ _ _ => rfl⟩, ?_⟩
  · simp [Builtin.clear_, run_underlying Try.underlying98, MapKept.run_getObj_map hb, MapKept.run_setObj_map _ hb, Result.andThen]
    rfl
  · exact ⟨rfl, rfl, rfl, by simp [setBlock], fun i _ hi => heap_setBlock_other hb _ (fun e => hi (by simp [e]))⟩
end Go.Proofs.Ytkefidbokeifdaa
