/- Texts put together: AppZ -/
import Derived.Test.YtokfcgloogdeiaaGreatDoorPart3
import Derived.Lib.AppendZerosOnto
namespace Go.Proofs.YtokfcgloogdeiaaGreatDoor
set_option linter.unusedVariables false
set_option linter.unusedSimpArgs false
open Go.ChangeShapes Go.WideShapes Go.ChangeAt Go.RowKit

theorem zeroCells8 (n : Nat) : Builtin.zeroCells (Value.cells (.int .u8 0)) n = (List.replicate n (Value.int .u8 0)).toArray := by
  apply Array.ext
  · simp [Builtin.zeroCells, Value.cells]
  · intro i h1 h2
    simp [Builtin.zeroCells, Value.cells, Nat.mod_one]
theorem ints8_zeros (n : Nat) : ints8 (List.replicate n 0) = List.replicate n (.int .u8 0) := by simp [ints8]
theorem run_append_room_zeros {P : Program} (w : World) (t tn ty e : TypeId) (i : TypeInfo) (z : Value) (kq kn : IntKind) (ht : P.underlying t = some (.slice e)) (htn : P.underlying tn = some (.int kn)) (hi : P.info? e = some i) (hz : i.zero = some z)
    (g sLen sCap : Nat) (cur : Array Value) (hg : w.heap[g]? = some (.cells cur e (0, 0)))
    (k : Nat) (h0 : 0 < k) (hs : 0 < i.size) (hzs : z.cells.size = i.size) (h1 : ∀ u ∈ (Builtin.zeroCells z.cells k).toList, u.oneCell' = true) (h63 : ((sLen + k : Nat) : Int) ≤ 9223372036854775807) (h48 : k * i.bytes ≤ 281474976710656)
    (hroom : sLen + k ≤ sCap) (hfit : (sLen + k) * i.size ≤ cur.size) :
    (Builtin.append_ #[t, tn] ty #[.slice (some ⟨g, 0, none⟩) sLen sCap, .int kq k]).run P w =
      .ok (.slice (some ⟨g, 0, none⟩) (sLen + k) sCap) (w.setRow g (cur.toList.take (sLen * i.size) ++ (Builtin.zeroCells z.cells k).toList ++ cur.toList.drop (sLen * i.size + k * i.size)).toArray) := by
  have hk : k ≠ 0 := by omega
  have hw : IntKind.i64.wrap (k : Int) = k := by rw [IntKind.wrap_i64]; omega
  have h48i : ¬ (281474976710656 < (k : Int) * (i.bytes : Int)) := by
    rw [← Int.natCast_mul]
    omega
  have hneg : ¬ ((k : Int) < 0) := by omega
  have hns : ¬ (k * i.size = 0) := Nat.mul_ne_zero hk (by omega)
  have hsz : (Builtin.zeroCells z.cells k).toList.length = k * i.size := by rw [Array.length_toList, size_zeroCells, hzs]
  have hst := run_storeCells_at P g (sLen * i.size) e (Builtin.zeroCells z.cells k).toList 0 cur w hg (by rw [hsz, Nat.add_zero, ← Nat.add_mul]; exact hfit) h1
  simp only [Nat.add_zero, hsz] at hst
  simp [Builtin.append_, run_underlying ht, run_underlying htn, sizeOf, typeInfo, zeroValue, hi, hz, asInt, asIntOf, hw, hneg, hns, h48i, hroom, hst, Addr.add_lit]
theorem run_append_zerosB (w : World) (v : Value) (l : List UInt8) (k : Nat) (hown : OwnB w v l) (hlen : l.length + k ≤ 140737488355328) (ty : TypeId) :
    ∃ v' w', (Builtin.append_ #[22, 3] ty #[v, .int .i64 (k : Int)]).run Tryz.prog w = .ok v' w' ∧ OwnB w' v' (l ++ List.replicate k 0) ∧ w.grownBy w' v.ownBlock ∧
      (∀ b, v'.ownBlock = some b → v.ownBlock = some b ∨ b = w.heap.size) := by
  obtain ⟨i0, hi, hz0, hz1, hz2⟩ := info_parts info8
  have hsl := Tryz.underlying22
  have hin := Tryz.underlying3
  by_cases hk : k = 0
  · subst hk
    have e0 : l ++ List.replicate 0 (0 : UInt8) = l := by simp
    rw [e0]
    refine ⟨v, w, ?_, hown, World.grownBy.refl _ _, fun b hb => .inl hb⟩
    obtain ⟨rfl, rfl⟩ | ⟨g, cap, rfl, hc, _⟩ := hown.cases
    · simp [Builtin.append_, run_underlying hsl, run_underlying hin, sizeOf, typeInfo, zeroValue, hi, hz0, asInt, asIntOf, IntKind.wrap_i64]
    · simp [Builtin.append_, run_underlying hsl, run_underlying hin, sizeOf, typeInfo, zeroValue, hi, hz0, asInt, asIntOf, IntKind.wrap_i64, hc, storeCells, Addr.add_lit]
  have hlen2 : (ints8 (l ++ List.replicate k 0)).length = (l.length + k) * 1 := by simp [ints8]
  have hll : (ints8 l).length = l.length := by simp [ints8]
  have hzc : ∀ n, Builtin.zeroCells (Value.cells (.int .u8 0)) n = (List.replicate n (Value.int .u8 0)).toArray := zeroCells8
  have fresh : ∀ (old : Nat), old < l.length + k → OwnB (w.drew.alloc (.cells ((ints8 l).toArray ++ Builtin.zeroCells (Value.cells (.int .u8 0)) k ++ Builtin.zeroCells (Value.cells (.int .u8 0)) (grownCap w (l.length + k) old 5 - (l.length + k))) 5))
        (.slice (some ⟨w.heap.size, 0, none⟩) (l.length + k) (grownCap w (l.length + k) old 5)) (l ++ List.replicate k 0) := by
    intro old ho
    have hge := grownCap_ge w (l.length + k) old 5
    have hcm : grownCap w (l.length + k) old 5 ≤ maxLen := grownCap_le_maxLen w (l.length + k) old 5 (by unfold maxLen; omega)
    unfold OwnB
    rw [List.length_append, List.length_replicate]
    refine ⟨hlen2, .inr ⟨w.heap.size, _, _, rfl, Nat.zero_le _, heap_alloc_new w.drew _, hge, hcm, ?_, ?_⟩⟩
    · rw [hzc, hzc]; simp [hll]; omega
    · rw [hzc, hzc, ints8_append, ints8_zeros]
      simp only [Array.toList_append, Nat.mul_one]
      exact List.take_left' (by simp [hll])
  have hnew : ∀ (row : Option Nat) (o : Obj), w.grownBy (w.drew.alloc o) row := fun row o => ⟨rfl, rfl, rfl, by simp, fun b hb _ => heap_alloc_old w.drew _ hb⟩
  obtain ⟨rfl, rfl⟩ | ⟨g, cap, hv, hnc, hcm, hrest⟩ := hown.cases
  · have hr := Lib.run_append_nil_zeros (P := Tryz.prog) w 22 3 ty 5 i0 (.int .u8 0) .i64 .i64 hsl hin hi hz0 k (by omega) (by omega) (by omega) (by rw [hz2]; simp at hlen; omega)
    have hf := fresh 0 (by simp; omega)
    simp only [List.length_nil, Nat.zero_add, List.nil_append, ints8, List.map_nil, Array.empty_append] at hf hr ⊢
    exact ⟨_, _, hr, hf, hnew _ _, fun b hb => .inr (by simpa [Value.ownBlock, eq_comm] using hb)⟩
  · have hown2 := hown
    unfold OwnB at hown2
    rcases hown2.2 with ⟨h, _⟩ | ⟨g', cap', cur, hv', hbg, hg, hnc', hcm', hcs, htake⟩
    · rw [hv] at h; cases h
    rw [hv] at hv'
    obtain ⟨⟨rfl⟩, _, rfl⟩ : some (⟨g, 0, none⟩ : Addr) = some ⟨g', 0, none⟩ ∧ l.length = l.length ∧ cap = cap' := by simpa using hv'
    subst hv
    by_cases hroom : l.length + k ≤ cap
    · have hr := run_append_room_zeros (P := Tryz.prog) w 22 3 ty 5 i0 (.int .u8 0) .i64 .i64 hsl hin hi hz0 g l.length cap cur hg k (by omega) (by omega) (by rw [hz1]; rfl) (by rw [hzc]; simp [Value.oneCell']) (by omega) (by rw [hz2]; omega) hroom (by rw [hz1, hcs]; omega)
      refine ⟨_, _, hr, ?_, ⟨rfl, rfl, rfl, by simp, fun b _ hb => setRow_other w g b _ (fun e => hb (by simp [Value.ownBlock, e]))⟩, fun b hb => .inl (by simpa [Value.ownBlock] using hb)⟩
      unfold OwnB
      rw [List.length_append, List.length_replicate]
      refine ⟨hlen2, .inr ⟨g, cap, _, rfl, Nat.zero_le _, setRow_heap w g cur _ 5 _ hg, hroom, hcm, ?_, ?_⟩⟩
      · rw [hzc, hz1]; simp; omega
      · rw [hzc, hz1] at *
        rw [htake, ints8_append, ints8_zeros]
        exact List.take_left' (by simp [hll])
    · have holds : ∀ j u, (ints8 l)[j]? = some u → w.cell? ((⟨g, 0, none⟩ : Addr).add j) = some u := hown2.cells (g := g) rfl
      have hf0 := run_firstCells_some (P := Tryz.prog) w.drew i0.size l.length ⟨g, 0, none⟩ l.length cap (ints8 l) (by rw [hz1, hll]; omega) (fun j u hu => holds j u hu)
      have hr := Lib.run_append_grow_zeros (P := Tryz.prog) w 22 3 ty 5 i0 (.int .u8 0) .i64 .i64 hsl hin hi hz0 (some ⟨g, 0, none⟩) l.length cap (ints8 l) hf0 k (by omega) (by omega) (by omega) (by omega) (by rw [hz2]; omega) (growslice_fits (by omega) (by rw [hz2]; omega))
      exact ⟨_, _, hr, fresh cap (by omega), hnew _ _, fun b hb => .inr (by simpa [Value.ownBlock, eq_comm] using hb)⟩
/-- append of noughts -/
theorem wpList_appendZ {w : World} {ops : Array Oper} {rest : List Oper} {o : Oper} {a : Act} {Q : Exit → Act → World → Prop} (s x : Operand) (hgd : o.guard = none)
    (ho : o.op = .call { callee := .builtin .append, args := #[s, x], argTypes := #[22, 3] })
    (v : Value) (l : List UInt8) (hs : a.eval s = v) (hown : OwnB w v l) (k : Nat) (hx : a.eval x = .int .i64 (k : Int)) (hlen : l.length + k ≤ 140737488355328)
    (h : ∀ v' w', OwnB w' v' (l ++ List.replicate k 0) → Keep v.ownBlock.toList w w' → (∀ b, v'.ownBlock = some b → v.ownBlock = some b ∨ b = w.heap.size) → wpList Tryz.prog ops Q rest (a.put o.dst v') w') : wpList Tryz.prog ops Q (o :: rest) a w := by
  obtain ⟨v', w', hr, h2, h3, h4⟩ := run_append_zerosB w v l k hown hlen o.type
  exact Lib.wpList_append_run w hgd s x _ _ ho v _ hs hx v' w' hr (h v' w' h2 ((Keep.refl _ _).grown h3 (fun k hk => .inl (by simp [hk]))) h4)
end Go.Proofs.YtokfcgloogdeiaaGreatDoor
