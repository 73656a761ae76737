/- The library's Backward over rows of bytes: it hands out the rows, the last one first. No condition beyond each theorem's own premises. -/
import Derived.Test.YtlnknnmlepgjfaaDown
namespace Go.Proofs.Ytlnknnmlepgjfaa
set_option linter.unusedVariables false
set_option linter.unusedSimpArgs false
open Go.ChangeShapes Go.WideShapes Go.ChangeAt Go.RowKit Go.Shelf
attribute [local go_sem] Oper.semAt_some

theorem backB_c (w : World) (a : Option Addr) (n c : Nat) : Calls Try.prog 21 #[.slice a n c] w fun e w' => e = .returned (.func (.func 33) #[] #[.pointer (some ⟨w.heap.size, 0, none⟩)]) ∧ w' = w.alloc (.cells #[.slice a n c] 56) := by
  go_enter Try.func21, Try.ntmps21
  go_wp2
  go_ret
  exact ⟨rfl, rfl⟩
set_option maxRecDepth 100000 in
set_option maxHeartbeats 2000000 in
theorem backB_steps (S : List Nat) (n₀ Bs gc L : Nat) (hL : L ≤ 100000) (V : Nat → Value) (w : World) (hn : n₀ ≤ w.heap.size) (hBn : Bs < n₀) (hgn : gc < n₀) (hBS : Bs ∉ S) (hgS : gc ∉ S)
    (hb : w.cell? ⟨Bs, 0, none⟩ = some (.slice (some ⟨gc, 0, none⟩) L L)) (hv : ∀ j, j < L → w.cell? ⟨gc, j, none⟩ = some (V j)) :
    StepsBy Try.prog 33 #[.pointer (some ⟨Bs, 0, none⟩)] (fun j : Nat => #[.int .i64 j, V j]) (KB S n₀) (down L) w := by
  intro l J W hW hY h0
  have hKW : KB S n₀ w W := ⟨hW.os, hW.tape, hW.output, hW.size, fun k h1 h2 => hW.block k (by omega)⟩
  refine callsIn_of_wp Try.func33 rfl trivial ?_ rfl
  simp only [Try.ntmps33, List.size_toArray, List.length_cons, List.length_nil, Nat.reduceAdd, Nat.reduceSub, Array.replicate_succ, Array.replicate_zero, List.push_toArray, List.append_toArray, List.nil_append, List.cons_append]
  have HB := Lib.hid (fun W' (k : KB S n₀ w W') => k.cell hb hBn hBS)
  have HV := Lib.hid (fun W' (k : KB S n₀ w W') j hj => k.cell (hv j hj) hgn hgS)
  have HY := Lib.hid hY
  have HK := Lib.hid hKW
  have hb1 := HB.out W hKW
  have e0 : IntKind.i64.wrap ((L : Int) - 1) = (L : Int) - 1 := by rw [IntKind.wrap_i64]; omega
  clear hb hv hY hKW hW
  gi_wp2
  clear e0 hb1
  gi_loopw [3] (fun i wr => ∃ (k : Nat) (z : Int), k ≤ L ∧ i = .int .i64 z ∧ Hid (z = (L : Int) - 1 - (k : Int)) ∧ J k wr ∧ Hid (KB S n₀ w wr)) (fun i _ => (intOf i + 1).toNat)
  case atStart => exact ⟨0, _, Nat.zero_le _, rfl, (show _ = _ by omega), h0, HK.out⟩
  case round =>
    clear h0 HK
    obtain ⟨k, z, hk, rfl, HZ, hJ, HK⟩ := hrel
    have hb2 := HB.out wr HK.out
    by_cases hlt : k < L
    · obtain ⟨j, hj⟩ : ∃ j : Nat, j = L - 1 - k := ⟨_, rfl⟩
      have hjL : j < L := by omega
      have hz : z = (j : Int) := by have := HZ.out; omega
      subst hz
      have c1 := HV.out wr HK.out j hjL
      obtain ⟨fn, tmps, assign, body, hy, hR⟩ := HY.out k j wr (by rw [down_at L k hlt, hj]) hJ
      have e1 : IntKind.i64.wrap ((j : Int) - 1) = (j : Int) - 1 := by rw [IntKind.wrap_i64]; omega
      have hjz : (j : Int) < (L : Int) := by omega
      clear hj
      gi_wp2
      refine hR.mono ?_
      rintro e W3 ⟨rfl, hJ3, hk3⟩
      have HK3 : Hid (KB S n₀ w W3) := HK.out.trans hk3
      have HZ3 : Hid ((j : Int) - 1 = (L : Int) - 1 - ((k + 1 : Nat) : Int)) := by have := HZ.out; unfold Hid; omega
      clear hk3 hb2 c1 hy hR hJ HK HZ
      gi_wp2
      go_roundw
      case rel => exact ⟨k + 1, _, by omega, rfl, HZ3, hJ3, HK3⟩
      case measure => simp [intOf]
    · obtain rfl : k = L := by omega
      have hz : z = -1 := by have := HZ.out; omega
      subst hz
      gi_wp2
      go_end0
      exact ⟨⟨_, rfl⟩, by rw [down_len]; exact hJ⟩
end Go.Proofs.Ytlnknnmlepgjfaa
