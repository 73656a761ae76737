/- A map of layer 9: where the same first bytes stood last. -/
import Derived.Test.YtmafgamacijdaaaFinBk
import Derived.Test.YtmafgamacijdaaaKept
import Derived.Maps.Views
import Derived.Maps.OwnOps
import Derived.DeepKeys4
namespace Go.Proofs.Ytmafgamacijdaaa
set_option linter.unusedVariables false
set_option linter.unusedSimpArgs false
open Go.ChangeShapes Go.WideShapes Go.ChangeAt Go.RowKit

theorem laidOut9 : laidOutB Try.prog = true := by kernel_rfl
theorem row67 : (92 : TypeId) < Try.prog.types.size := of_decide_eq_true (by kernel_rfl)
theorem deep67 : Try.prog.keyTypeAt (Try.prog.types.size + 1) 92 = true := by kernel_rfl
theorem cells67 : Try.prog.cellsOf 92 = 3 := by kernel_rfl
theorem cells5 : Try.prog.cellsOf 5 = 1 := by kernel_rfl
theorem wide67 : (match Try.prog.underlying 92 with | some (.array _ _) | some (.struct _) => true | _ => false) = true := by rw [Try.underlying92]
theorem law67 : WideMaps.KeyLaw Try.prog 92 := deep_law_laid laidOut9 (m := 2) (by omega) row67 (by kernel_rfl) wide67
theorem keyed67 : Maps.Keyed Try.prog 92 := Maps.Keyed.of_law law67
/-- a key's cells -/
def key3 (k : List UInt8) : Value := .agg (ints8 k).toArray
theorem bytes1 (x : UInt8) : (Lit.int .u8 (x.toNat : Int)).keyBytes = [x] := by
  have h : (x.toNat : Int) % 2 ^ 8 = x.toNat := by have := x.toNat_lt; omega
  unfold Lit.keyBytes
  show bytesBE 1 ((x.toNat : Int) % 2 ^ 8).toNat = [x]
  rw [h]
  simp [bytesBE, bytesLE]
theorem keyOf67 (k : List UInt8) (hk : k.length = 3) : keyOf Try.prog 92 (key3 k) = some (.string k) := by
  obtain ⟨a, b, c, rfl⟩ : ∃ a b c, k = [a, b, c] := by
    match k, hk with
    | [a, b, c], _ => exact ⟨a, b, c, rfl⟩
  have hkt : Try.prog.keyType 92 = true := deep67
  have hf : (key3 [a, b, c]).formed Try.prog 92 = true := by simp [key3, ints8, Value.formed, Try.underlying92, cells67]
  have hrow : (92 : Nat) < Try.prog.types.size := row67
  obtain ⟨n, hn⟩ : ∃ n, Try.prog.types.size + 1 = n + 2 := ⟨Try.prog.types.size - 1, by omega⟩
  have one : ∀ x : UInt8, Try.prog.keyLits (n + 1) 5 [.int .u8 (x.toNat : Int)] = some [.int .u8 (x.toNat : Int)] := fun x => by
    have : (Lit.int .u8 (x.toNat : Int)).wf = true := by have := x.toNat_lt; simp [Lit.wf, IntKind.min, IntKind.max, IntKind.signed, IntKind.bits]; omega
    simp [Program.keyLits, Try.underlying5, this]
  have hl : Try.prog.keyLits (Try.prog.types.size + 1) 92 (key3 [a, b, c]).cells.toList = some [.int .u8 (a.toNat : Int), .int .u8 (b.toNat : Int), .int .u8 (c.toNat : Int)] := by
    rw [hn]
    simp only [key3, ints8, Value.cells, List.map_cons, List.map_nil]
    have hu := Try.underlying92
    unfold Program.keyLits
    rw [hu]
    simp only [cells67, cells5]
    simp [List.range_succ, one]
  unfold keyOf
  rw [Try.underlying92]
  simp only [hkt, hf, hl, Bool.and_self, if_true, Option.map_some]
  simp [keyBytes, bytes1]
/-- block g is a map that tells where a key was last -/
def LastM (w : World) (g n : Nat) (L : List UInt8 → Option Nat) : Prop :=
  ∃ D : DataW Unit, w.ownsMap Try.prog 92 (plainElem Try.prog 21) g n D ∧ Maps.IsMap D ∧ ∀ k : List UInt8, k.length = 3 → match L k with
    | none => Maps.has D (.string k) = false
    | some p => Maps.has D (.string k) = true ∧ ∀ z, D.atKey (.string k) z = .lit (.int .i32 p)
theorem LastM.made (w : World) : LastM (w.alloc (.map #[] 0)) w.heap.size 0 (fun _ => none) :=
  ⟨.map [], World.ownsMap_made w _ _ _, Maps.isMap_empty, fun _ _ => rfl⟩
theorem LastM.lt {w : World} {g n : Nat} {L : List UInt8 → Option Nat} (h : LastM w g n L) : g < w.heap.size := by
  obtain ⟨D, h1, _⟩ := h; exact h1.lt
theorem LastM.keep {w w' : World} {g n : Nat} {L : List UInt8 → Option Nat} {S : List Nat} (h : LastM w g n L) (k : Keep S w w') (hg : g ∉ S) : LastM w' g n L := by
  have hlt := h.lt
  obtain ⟨D, ⟨es, clock, hb, F, hs, hD⟩, h2, h3⟩ := h
  exact ⟨D, ⟨es, clock, (k.block g hlt hg).trans hb, F, hs, hD⟩, h2, h3⟩
theorem zero32 (w : World) : (zeroValue 21).run Try.prog w = .ok (.int .i32 0) w := by kernel_rfl
/-- v, ok := m[k] -/
theorem LastM.look {w : World} {g n : Nat} {L : List UInt8 → Option Nat} (h : LastM w g n L) (k : List UInt8) (hk : k.length = 3) :
    (Instr.lookup 90 (.map (some g)) (key3 k) true).run Try.prog w = .ok (.tuple (match L k with | none => #[.int .i32 0, .bool false] | some p => #[.int .i32 p, .bool true])) w := by
  obtain ⟨D, ⟨es, clock, hb, F, hs, hD⟩, h2, h3⟩ := h
  have h4 := h3 k hk
  rcases Maps.fit_look true keyed67 Try.underlying90 (zero32 w) hb F (keyOf67 k hk) with ⟨r1, r2, r3⟩ | ⟨e0, y, r0, r1, r2, r3, r4, r5⟩
  · rw [← hD] at r3
    have hn := Maps.has_false_of_atKey r3
    cases hL : L k with
    | none => exact r1
    | some p => rw [hL] at h4; have := h4.1; rw [hn] at this; cases this
  · rw [← hD] at r4
    have hy := Maps.has_true_of_atKey r4
    cases hL : L k with
    | none => rw [hL] at h4; simp only at h4; rw [hy] at h4; cases h4
    | some p =>
      rw [hL] at h4
      obtain ⟨a, ha, hz, _⟩ := plainElem_int_inv Try.underlying21 r3
      have e1 := (h4.2 .nil).symm.trans (r4 .nil)
      rw [hz] at e1
      have e2 : (p : Int) = a := by simpa using e1
      rw [r2, ha, ← e2]; rfl
/-- m[k] = v -/
theorem LastM.put {w : World} {g n : Nat} {L : List UInt8 → Option Nat} (h : LastM w g n L) (hn : n < 2147483647) (k : List UInt8) (hk : k.length = 3) (p : Nat) (hp : p < 2147483648) (W : World → Prop)
    (hW : ∀ w', LastM w' g (n + 1) (fun k' => if k' = k then some p else L k') → Keep [g] w w' → W w') :
    ∃ w', (Instr.mapUpdate 90 (.map (some g)) (key3 k) (.int .i32 (p : Int))).run Try.prog w = .ok () w' ∧ W w' := by
  obtain ⟨D, h1, h2, h3⟩ := h
  have hwf : (Lit.int .i32 (p : Int)).wf = true := by simp [Lit.wf, IntKind.min, IntKind.max, IntKind.signed, IntKind.bits]; omega
  obtain ⟨w', hr, g1, g2⟩ := h1.update keyed67 Try.underlying90 (by unfold maxLen; omega) (keyOf67 k hk) (plainElem_int Try.underlying21 hwf)
  refine ⟨w', hr, hW w' ⟨_, g1, h2.put _ _, fun k' hk' => ?_⟩ ((Keep.refl _ _).grown g2 (fun _ e => .inl (by simp at e ⊢; exact e.symm)))⟩
  by_cases e : k' = k
  · subst e
    simp only [if_true]
    exact ⟨Maps.has_put_same h2 (show WideAt.IsKeyLit (.string k') from trivial) _, fun z => Maps.atKey_put_same h2 (show WideAt.IsKeyLit (.string k') from trivial) _ z⟩
  · simp only [if_neg e]
    have h4 := h3 k' hk'
    have hne : (Lit.string k') ≠ (.string k) := fun q => e (by simpa using q)
    cases hL : L k' with
    | none => rw [hL] at h4; simp only at h4 ⊢; rw [Maps.has_put_other hne]; exact h4
    | some q =>
      rw [hL] at h4
      exact ⟨by rw [Maps.has_put_other hne]; exact h4.1, fun z => by rw [Maps.atKey_put_other hne]; exact h4.2 z⟩
end Go.Proofs.Ytmafgamacijdaaa
