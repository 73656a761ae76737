/- The library's Backward over limit's rows: it hands out the rows, the last one first. -/
import Derived.Test.YtibhelfiibincaaLim5
import Derived.Test.YtibhelfiibincaaRange
namespace Go.Proofs.Ytibhelfiibincaa
set_option linter.unusedVariables false
set_option linter.unusedSimpArgs false
open Go.ChangeShapes Go.WideShapes Go.ChangeAt Go.RowKit Go.Shelf
attribute [local go_sem] Oper.semAt_some

theorem KB.cell {S : List Nat} {n₀ : Nat} {A B : World} (h : KB S n₀ A B) {p : Addr} {v : Value} (hc : A.cell? p = some v) (hp : p.block < n₀) (hs : p.block ∉ S) : B.cell? p = some v :=
  (World.cell?_of_block (w := A) (h.block p.block hp hs)).trans hc
/-- rows of counts, as values -/
structure Rws (w : World) (gc L : Nat) (V : Nat → Value) (G T : Nat → Nat) (c : Nat → Nat → Nat) : Prop where
  val : ∀ j, j < L → V j = .slice (some ⟨G j, 0, none⟩) (T (j + 1) + 1) (T (j + 1) + 1)
  at_ : ∀ j, j < L → w.cell? ⟨gc, j, none⟩ = some (V j)
  row : ∀ j, j < L → ∀ m, m ≤ T (j + 1) → w.cell? ⟨G j, m, none⟩ = some (.int .i16 (c (j + 1) m))
theorem Cts.rws {w : World} {gc L : Nat} {T : Nat → Nat} {c : Nat → Nat → Nat} (h : Cts w gc L L T c) : ∃ V G, Rws w gc L V G T c := by
  obtain ⟨arr, h1, h2, h3⟩ := h.blk
  have key : ∀ j, ∃ g, j < L → w.cell? ⟨gc, j, none⟩ = some (.slice (some ⟨g, 0, none⟩) (T (j + 1) + 1) (T (j + 1) + 1)) ∧ ∀ m, m ≤ T (j + 1) → w.cell? ⟨g, m, none⟩ = some (.int .i16 (c (j + 1) m)) := fun j => by
    by_cases hj : j < L
    · obtain ⟨v, h4, g, h5, _, h6⟩ := h3 j hj
      exact ⟨g, fun _ => ⟨by rw [h1.cell j v h4, h5], h6⟩⟩
    · exact ⟨0, fun h => absurd h hj⟩
  exact ⟨fun j => .slice (some ⟨Classical.choose (key j), 0, none⟩) (T (j + 1) + 1) (T (j + 1) + 1), fun j => Classical.choose (key j), fun j _ => rfl, fun j hj => (Classical.choose_spec (key j) hj).1, fun j hj => (Classical.choose_spec (key j) hj).2⟩
def down (L : Nat) : List Nat := (List.range L).reverse
theorem down_at (L k : Nat) (hk : k < L) : (down L)[k]? = some (L - 1 - k) := by
  unfold down
  rw [List.getElem?_reverse (by simpa using hk), List.length_range, List.getElem?_range (by omega)]
theorem down_get (L k x : Nat) (h : (down L)[k]? = some x) : k < L ∧ x = L - 1 - k := by
  have hk : k < L := by have := (List.getElem?_eq_some_iff.1 h).1; simpa [down] using this
  rw [down_at L k hk] at h
  exact ⟨hk, by simpa using h.symm⟩
theorem down_len (L : Nat) : (down L).length = L := by simp [down]
theorem backward_c (w : World) (a : Option Addr) (n c : Nat) : Calls Try.prog 30 #[.slice a n c] w fun e w' => e = .returned (.func (.func 35) #[] #[.pointer (some ⟨w.heap.size, 0, none⟩)]) ∧ w' = w.alloc (.cells #[.slice a n c] 40) := by
  go_enter Try.func30, Try.ntmps30
  go_wp2
  go_ret
  exact ⟨rfl, rfl⟩
set_option maxRecDepth 100000 in
set_option maxHeartbeats 2000000 in
theorem backward_steps (S : List Nat) (n₀ Bs gc L : Nat) (hL : L ≤ 100000) (V : Nat → Value) (w : World) (hn : n₀ ≤ w.heap.size) (hBn : Bs < n₀) (hgn : gc < n₀) (hBS : Bs ∉ S) (hgS : gc ∉ S)
    (hb : w.cell? ⟨Bs, 0, none⟩ = some (.slice (some ⟨gc, 0, none⟩) L L)) (hv : ∀ j, j < L → w.cell? ⟨gc, j, none⟩ = some (V j)) :
    StepsBy Try.prog 35 #[.pointer (some ⟨Bs, 0, none⟩)] (fun j : Nat => #[.int .i64 j, V j]) (KB S n₀) (down L) w := by
  intro l J W hW hY h0
  have hKW : KB S n₀ w W := ⟨hW.os, hW.tape, hW.output, hW.size, fun k h1 h2 => hW.block k (by omega)⟩
  refine callsIn_of_wp Try.func35 rfl trivial ?_ rfl
  simp only [Try.ntmps35, List.size_toArray, List.length_cons, List.length_nil, Nat.reduceAdd, Nat.reduceSub, Array.replicate_succ, Array.replicate_zero, List.push_toArray, List.append_toArray, List.nil_append, List.cons_append]
  have HB := Lib.hid (fun W' (k : KB S n₀ w W') => k.cell hb hBn hBS)
  have HV := Lib.hid (fun W' (k : KB S n₀ w W') j hj => k.cell (hv j hj) hgn hgS)
  have HY := Lib.hid hY
  have HK := Lib.hid hKW
  have hb1 := HB.out W hKW
  have e0 : IntKind.i64.wrap ((L : Int) - 1) = (L : Int) - 1 := by rw [IntKind.wrap_i64]; omega
  clear hb hv hY hKW hW
  gi_wp2
  clear e0 hb1
  gi_loopw [3] (fun i wr => ∃ (k : Nat) (z : Int), k ≤ L ∧ i = .int .i64 z ∧ Hid (z = (L : Int) - 1 - (k : Int)) ∧ J k wr ∧ Hid (KB S n₀ w wr)) (fun i _ => (intOf i + 1).toNat)
  case atStart => exact ⟨0, _, Nat.zero_le _, rfl, (show _ = _ by omega), h0, HK.out⟩
  case round =>
    clear h0 HK
    obtain ⟨k, z, hk, rfl, HZ, hJ, HK⟩ := hrel
    have hb2 := HB.out wr HK.out
    by_cases hlt : k < L
    · obtain ⟨j, hj⟩ : ∃ j : Nat, j = L - 1 - k := ⟨_, rfl⟩
      have hjL : j < L := by omega
      have hz : z = (j : Int) := by have := HZ.out; omega
      subst hz
      have c1 := HV.out wr HK.out j hjL
      obtain ⟨fn, tmps, assign, body, hy, hR⟩ := HY.out k j wr (by rw [down_at L k hlt, hj]) hJ
      have e1 : IntKind.i64.wrap ((j : Int) - 1) = (j : Int) - 1 := by rw [IntKind.wrap_i64]; omega
      have hjz : (j : Int) < (L : Int) := by omega
      clear hj
      gi_wp2
      refine hR.mono ?_
      rintro e W3 ⟨rfl, hJ3, hk3⟩
      have HK3 : Hid (KB S n₀ w W3) := HK.out.trans hk3
      have HZ3 : Hid ((j : Int) - 1 = (L : Int) - 1 - ((k + 1 : Nat) : Int)) := by have := HZ.out; unfold Hid; omega
      clear hk3 hb2 c1 hy hR hJ HK HZ
      gi_wp2
      go_roundw
      case rel => exact ⟨k + 1, _, by omega, rfl, HZ3, hJ3, HK3⟩
      case measure => simp [intOf]
    · obtain rfl : k = L := by omega
      have hz : z = -1 := by have := HZ.out; omega
      subst hz
      gi_wp2
      go_end0
      exact ⟨⟨_, rfl⟩, by rw [down_len]; exact hJ⟩
end Go.Proofs.Ytibhelfiibincaa
