/- The library's Backward over a slice of numbers, and sfano's own fromLast: which symbols they hand out, in which order. -/
import Derived.Test.YtblogjpoijfpbaaSfOrd
import Derived.Test.YtblogjpoijfpbaaRefSf
import Derived.Test.YtblogjpoijfpbaaSf1
namespace Go.Proofs.Ytblogjpoijfpbaa
set_option linter.unusedVariables false
set_option linter.unusedSimpArgs false
open Go.ChangeShapes Go.WideShapes Go.ChangeAt Go.RowKit Go.Shelf
attribute [local go_sem] Oper.semAt_some

theorem KB.cell {S : List Nat} {n₀ : Nat} {A B : World} (h : KB S n₀ A B) {p : Addr} {v : Value} (hc : A.cell? p = some v) (hp : p.block < n₀) (hs : p.block ∉ S) : B.cell? p = some v :=
  (World.cell?_of_block (w := A) (h.block p.block hp hs)).trans hc
theorem backward64_c (w : World) (a : Option Addr) (n c : Nat) : Calls Try.prog 49 #[.slice a n c] w fun e w' => e = .returned (.func (.func 58) #[] #[.pointer (some ⟨w.heap.size, 0, none⟩)]) ∧ w' = w.alloc (.cells #[.slice a n c] 22) := by
  go_enter Try.func49, Try.ntmps49
  go_wp2
  go_ret
  exact ⟨rfl, rfl⟩
set_option maxRecDepth 100000 in
set_option maxHeartbeats 2000000 in
theorem backward64_steps (S : List Nat) (n₀ Bs g off L cap : Nat) (hL : L ≤ 100000) (f : Nat → Nat) (w : World) (hn : n₀ ≤ w.heap.size) (hBn : Bs < n₀) (hgn : g < n₀) (hBS : Bs ∉ S) (hgS : g ∉ S)
    (hb : w.cell? ⟨Bs, 0, none⟩ = some (.slice (some ⟨g, off, none⟩) L cap)) (hv : ∀ j, j < L → w.cell? ⟨g, off + j, none⟩ = some (.int .i64 (f j))) :
    StepsBy Try.prog 58 #[.pointer (some ⟨Bs, 0, none⟩)] (fun j : Nat => #[.int .i64 j, .int .i64 (f j)]) (KB S n₀) (dwn L) w := by
  intro l J W hW hY h0
  have hKW : KB S n₀ w W := ⟨hW.os, hW.tape, hW.output, hW.size, fun k h1 h2 => hW.block k (by omega)⟩
  refine callsIn_of_wp Try.func58 rfl trivial ?_ rfl
  simp only [Try.ntmps58, List.size_toArray, List.length_cons, List.length_nil, Nat.reduceAdd, Nat.reduceSub, Array.replicate_succ, Array.replicate_zero, List.push_toArray, List.append_toArray, List.nil_append, List.cons_append]
  have HB := Lib.hid (fun W' (k : KB S n₀ w W') => k.cell hb hBn hBS)
  have HV := Lib.hid (fun W' (k : KB S n₀ w W') j hj => k.cell (hv j hj) hgn hgS)
  have HY := Lib.hid hY
  have HK := Lib.hid hKW
  have hb1 := HB.out W hKW
  have e0 : IntKind.i64.wrap ((L : Int) - 1) = (L : Int) - 1 := by rw [IntKind.wrap_i64]; omega
  clear hb hv hY hKW hW
  gi_wp2
  clear e0 hb1
  gi_loopw [3] (fun i wr => ∃ (k : Nat) (z : Int), k ≤ L ∧ i = .int .i64 z ∧ Hid (z = (L : Int) - 1 - (k : Int)) ∧ J k wr ∧ Hid (KB S n₀ w wr)) (fun i _ => (intOf i + 1).toNat)
  case atStart => exact ⟨0, _, Nat.zero_le _, rfl, (show _ = _ by omega), h0, HK.out⟩
  case round =>
    clear h0 HK
    obtain ⟨k, z, hk, rfl, HZ, hJ, HK⟩ := hrel
    have hb2 := HB.out wr HK.out
    by_cases hlt : k < L
    · obtain ⟨j, hj⟩ : ∃ j : Nat, j = L - 1 - k := ⟨_, rfl⟩
      have hjL : j < L := by omega
      have hz : z = (j : Int) := by have := HZ.out; omega
      subst hz
      have c1 := HV.out wr HK.out j hjL
      obtain ⟨fn, tmps, assign, body, hy, hR⟩ := HY.out k j wr (by rw [dwn_at L k hlt, hj]) hJ
      have e1 : IntKind.i64.wrap ((j : Int) - 1) = (j : Int) - 1 := by rw [IntKind.wrap_i64]; omega
      have hjz : (j : Int) < (L : Int) := by omega
      clear hj
      gi_wp2
      refine hR.mono ?_
      rintro e W3 ⟨rfl, hJ3, hk3⟩
      have HK3 : Hid (KB S n₀ w W3) := HK.out.trans hk3
      have HZ3 : Hid ((j : Int) - 1 = (L : Int) - 1 - ((k + 1 : Nat) : Int)) := by have := HZ.out; unfold Hid; omega
      clear hk3 hb2 c1 hy hR hJ HK HZ
      gi_wp2
      go_roundw
      case rel => exact ⟨k + 1, _, by omega, rfl, HZ3, hJ3, HK3⟩
      case measure => simp [intOf]
    · obtain rfl : k = L := by omega
      have hz : z = -1 := by have := HZ.out; omega
      subst hz
      gi_wp2
      go_end0
      exact ⟨⟨_, rfl⟩, by rw [dwn_len]; exact hJ⟩
theorem fromlast_c (w : World) (a : Option Addr) (n c : Nat) : Calls Try.prog 33 #[.slice a n c] w fun e w' => e = .returned (.func (.func 48) #[] #[.pointer (some ⟨w.heap.size, 0, none⟩)]) ∧ w' = w.alloc (.cells #[.slice a n c] 22) := by
  go_enter Try.func33, Try.ntmps33
  go_wp2
  go_ret
  exact ⟨rfl, rfl⟩
/-- what has been handed out of symbols of one length, k of Backward's rounds on -/
def part (L : List Nat) (n k : Nat) : List Nat := ((dwn L.length).take k).filter fun s => len L s == n
theorem part_zero (L : List Nat) (n : Nat) : part L n 0 = [] := rfl
theorem part_all (L : List Nat) (n : Nat) : part L n L.length = ofLen L n := by unfold part ofLen; rw [List.take_of_length_le (by rw [dwn_len]; exact Nat.le_refl _)]
theorem part_hit (L : List Nat) (n k : Nat) (hk : k < L.length) (h : len L (L.length - 1 - k) = n) : part L n (k + 1) = part L n k ++ [L.length - 1 - k] := by
  unfold part
  rw [List.take_add_one, dwn_at _ _ hk, List.filter_append]
  simp [h]
theorem part_miss (L : List Nat) (n k : Nat) (hk : k < L.length) (h : len L (L.length - 1 - k) ≠ n) : part L n (k + 1) = part L n k := by
  unfold part
  rw [List.take_add_one, dwn_at _ _ hk, List.filter_append]
  simp [h]
theorem ofLen_split (L : List Nat) (n k : Nat) (hk : k < L.length) (h : len L (L.length - 1 - k) = n) : ∃ M, ofLen L n = part L n k ++ (L.length - 1 - k) :: M := by
  refine ⟨((dwn L.length).drop (k + 1)).filter fun s => len L s == n, ?_⟩
  have hs := (List.take_append_drop (k + 1) (dwn L.length)).symm
  unfold ofLen
  conv => lhs; rw [hs]
  rw [List.filter_append]
  show part L n (k + 1) ++ _ = _
  rw [part_hit L n k hk h, List.append_assoc]
  rfl
end Go.Proofs.Ytblogjpoijfpbaa
