/- Texts put together: RefCan RefCan2 RefCan3 RefCan4 Can1 Can2 Can3 Can4 Can5 Can6 Can RefSf RefSf2 RefSf3 RefSf4 ExpMath ExpMath2 DynMath2 DynMath3 DynMath4 InfMath InfMath2 -/
import Derived.Test.YtokfcgloogdeiaaGreatDoorPart5
import Derived.Test.YtokfcgloogdeiaaGreatDoorPart3
import Derived.Test.YtokfcgloogdeiaaGreatDoorPart2
import Derived.Test.YtokfcgloogdeiaaGreatDoorPart6
import Derived.Test.YtokfcgloogdeiaaGreatDoorPart12
import Derived.Test.YtokfcgloogdeiaaGreatDoorPart13
import Derived.Laws.Tables
import Derived.BigRegion
import Derived.Laws.BitsAllLaws
import Derived.Deep.RegionLaw
import Derived.Test.YtokfcgloogdeiaaGreatDoorPart4
namespace Go.Proofs.YtokfcgloogdeiaaGreatDoor
set_option linter.unusedVariables false
set_option linter.unusedSimpArgs false
open Go.ChangeShapes Go.WideShapes Go.ChangeAt Go.RowKit

theorem Is.shape {k : IntKind} {w : World} {v : Value} {zs : List Int} (h : Is k w v zs) : ∃ a cap, v = .slice a zs.length cap ∧ zs.length ≤ cap ∧ cap ≤ maxLen := by
  obtain ⟨a, cap, rfl, h1, h2, _⟩ := h
  exact ⟨a, cap, rfl, h1, h2⟩
theorem Is.len {k : IntKind} {w : World} {v : Value} {zs : List Int} (h : Is k w v zs) : zs.length ≤ 9223372036854775807 := by
  obtain ⟨a, cap, _, h1, h2⟩ := h.shape
  unfold maxLen at h2; omega
theorem Is.drewN {k : IntKind} {w : World} {v : Value} {zs : List Int} (h : Is k w v zs) (n : Nat) : Is k (w.drewN n) v zs := h.keep ((Keep.refl [] w).drewN _) (by simp)
/-- lengths as numbers -/
def Ln (zs : List Int) : List Nat := zs.map Int.toNat
theorem Ln_length (zs : List Int) : (Ln zs).length = zs.length := by simp [Ln]
theorem Ln_take (zs : List Int) (i : Nat) : Ln (zs.take i) = (Ln zs).take i := by simp [Ln, List.map_take]
def mayB (zs : List Int) : Bool := decide (zs.length ≤ 4096) && zs.all fun z => decide (0 ≤ z) && decide (z ≤ 16)
theorem may_iff (zs : List Int) : mayB zs = true ↔ zs.length ≤ 4096 ∧ ∀ z ∈ zs, 0 ≤ z ∧ z ≤ 16 := by simp [mayB]
theorem may_Ln {zs : List Int} (h : mayB zs = true) : ∀ x ∈ Ln zs, x ≤ 16 := by
  intro x hx
  simp only [Ln, List.mem_map] at hx
  obtain ⟨z, hz, rfl⟩ := hx
  have := ((may_iff zs).1 h).2 z hz
  omega
theorem may_get {zs : List Int} (h : mayB zs = true) (i : Nat) (hi : i < zs.length) : zs[i] = ((len (Ln zs) i : Nat) : Int) ∧ len (Ln zs) i ≤ 16 := by
  have h1 := ((may_iff zs).1 h).2 zs[i] (List.getElem_mem hi)
  have h2 : len (Ln zs) i = zs[i].toNat := by rw [len_get _ _ (by rw [Ln_length]; exact hi)]; simp [Ln]
  omega
def chk (zs : List Int) : Nat := if mayB zs = false then 5 else if wt (Ln zs) = 0 then 4 else if 65536 < wt (Ln zs) then 2 else if wt (Ln zs) < 65536 then 3 else 1
theorem chk_bad {zs : List Int} (h : mayB zs = false) : chk zs = 5 := by simp [chk, h]
theorem bad_at {zs : List Int} (i : Nat) (hi : i < zs.length) (h : zs[i] < 0 ∨ 16 < zs[i]) : mayB zs = false := by
  rw [Bool.eq_false_iff]
  intro hm
  have := ((may_iff zs).1 hm).2 zs[i] (List.getElem_mem hi)
  omega
theorem half_step (k z : Nat) (h : k < z) (hz : z ≤ 16) : 2 ^ (16 - k) / 2 = 2 ^ (16 - (k + 1)) := by
  rw [show 16 - k = (16 - (k + 1)) + 1 by omega, Nat.pow_succ]; simp
theorem wt_take (zs : List Int) (i : Nat) (hi : i < zs.length) : wt (Ln (zs.take (i + 1))) = wt (Ln (zs.take i)) + wt1 zs[i].toNat := by
  rw [List.take_succ_eq_append_getElem hi, Ln, List.map_append, wt, List.map_append, List.sum_append]
  simp [wt, Ln]
theorem wt_le (zs : List Int) (n : Nat) (h : zs.length ≤ n) : wt (Ln zs) ≤ n * 32768 := by
  induction zs generalizing n with
  | nil => simp [wt, Ln]
  | cons z zs ih =>
    obtain ⟨m, rfl⟩ : ∃ m, n = m + 1 := ⟨n - 1, by simp at h; omega⟩
    have := ih m (by simpa using h)
    have h1 : wt1 z.toNat ≤ 32768 := by
      unfold wt1; split
      · omega
      · exact Nat.le_trans (Nat.pow_le_pow_right (by decide) (show 16 - z.toNat ≤ 15 by omega)) (by decide)
    simp only [Ln, wt, List.map_cons, List.sum_cons] at *
    omega
set_option maxRecDepth 100000 in
set_option maxHeartbeats 1000000 in
theorem refcheck_c (w : World) (v : Value) (zs : List Int) (h : Is .i64 w v zs) : Calls Tryz.prog 54 #[v] w fun e w' => e = .returned (.int .i64 (chk zs)) ∧ ∃ n, w' = w.drewN n := by
  have hl := h.len
  have HI := Lib.hid (fun i hi => h.at i hi)
  obtain ⟨a, cap, rfl, _, _⟩ := h.shape
  by_cases hbig : 4096 < zs.length
  · have hb : chk zs = 5 := chk_bad (by rw [Bool.eq_false_iff]; intro hm; have := (may_iff zs).1 hm; omega)
    rw [hb]
    clear hb h
    go_enter Tryz.func54, Tryz.ntmps54
    go_wp2
    go_ret
    exact ⟨rfl, 0, rfl⟩
  have hw := wt_le zs 4096 (by omega)
  clear h
  go_enter Tryz.func54, Tryz.ntmps54
  go_wp2_with fail
  go_loopw [3, 4] (fun x i wr => ∃ (k y : Nat), k ≤ zs.length ∧ i = .int .i64 k ∧ x = .int .i64 y ∧ Hid (y = wt (Ln (zs.take k))) ∧ y ≤ k * 32768 ∧ Hid (∀ j (hj : j < zs.length), j < k → 0 ≤ zs[j] ∧ zs[j] ≤ 16) ∧ ∃ n, wr = w.drewN n) (fun _ i _ => zs.length - (intOf i).toNat)
  case atStart => exact ⟨0, 0, by omega, rfl, rfl, by simp [Hid, wt, Ln], by omega, fun j _ hj => by omega, 0, rfl⟩
  case round =>
    obtain ⟨k, y, hk, rfl, rfl, HY, hy, HR, n, rfl⟩ := hrel
    by_cases hlt : k < zs.length
    · obtain ⟨b, off, cap', hv, e1⟩ := HI.out k hlt
      simp only [Value.slice.injEq] at hv
      obtain ⟨rfl, _, rfl⟩ := hv
      by_cases hbad : zs[k] < 0 ∨ 16 < zs[k]
      · have hc := Lib.hid (chk_bad (bad_at k hlt hbad))
        generalize zs[k] = z at e1 hbad
        by_cases hneg : z < 0
        · clear hbad
          go_wp2_with fail
          go_ret
          exact ⟨by rw [hc.out]; rfl, _, rfl⟩
        · have : 16 < z := by omega
          clear hbad
          go_wp2_with fail
          go_ret
          exact ⟨by rw [hc.out]; rfl, _, rfl⟩
      · have HR2 : Hid (∀ j (hj : j < zs.length), j < k + 1 → 0 ≤ zs[j] ∧ zs[j] ≤ 16) := by
          intro j hj hjk
          by_cases e : j = k
          · subst e; omega
          · exact HR.out j hj (by omega)
        have HT := Lib.hid (wt_take zs k hlt)
        obtain ⟨z, hz⟩ : ∃ z : Nat, zs[k] = z := ⟨zs[k].toNat, by omega⟩
        have hz2 : z ≤ 16 := by omega
        rw [hz] at e1 HT
        have HT2 : Hid (wt (Ln (zs.take (k + 1))) = y + wt1 z) := by
          unfold Hid; rw [HT.out, HY.out]; rfl
        have hw1 : wt1 z ≤ 32768 := by
          unfold wt1; split
          · omega
          · exact Nat.le_trans (Nat.pow_le_pow_right (by decide) (show 16 - z ≤ 15 by omega)) (by decide)
        clear hbad hz HR HT
        by_cases hz0 : z = 0
        · have hw0 : wt1 z = 0 := by simp [wt1, hz0]
          rw [hw0] at HT2
          clear hw0 hw1
          subst hz0
          go_wp2_with fail
          go_roundw
          case rel => exact ⟨k + 1, y, by omega, by go_num, rfl, HT2.out.symm, by omega, HR2, _, rfl⟩
          case measure => simp [intOf]; omega
        · have hw0 : wt1 z = 2 ^ (16 - z) := by unfold wt1; rw [if_neg hz0]
          have HW0 := Lib.hid hw0
          clear hw0
          go_wp2_with fail
          go_loopw [5, 6] (fun x i w2 => ∃ (m q : Nat), m ≤ z ∧ i = .int .i64 m ∧ x = .int .i64 q ∧ q ≤ 65536 ∧ Hid (q = 2 ^ (16 - m)) ∧ ∃ n, w2 = w.drewN n) (fun _ i _ => z - (intOf i).toNat)
          case atStart => exact ⟨0, 65536, by omega, rfl, rfl, by omega, by simp [Hid], _, rfl⟩
          case round =>
            obtain ⟨m, q, hm, rfl, rfl, hq, HQ, n2, rfl⟩ := hrel
            by_cases hmz : m < z
            · have HQ2 : Hid (q / 2 = 2 ^ (16 - (m + 1))) := by unfold Hid; rw [HQ.out, half_step m z hmz hz2]
              go_wp2_with fail
              go_roundw
              case rel => exact ⟨m + 1, q / 2, by omega, by go_num, by go_num, by omega, HQ2, _, rfl⟩
              case measure => simp [intOf]; omega
            · obtain rfl : m = z := by omega
              have hqq : q = wt1 m := by rw [HQ.out, HW0.out]
              rw [← hqq] at HT2 hw1
              clear hqq HQ HW0
              go_wp2_with fail
              go_roundw
              case rel => exact ⟨k + 1, y + q, by omega, by go_num, by go_num, HT2.out.symm, by omega, HR2, _, rfl⟩
              case measure => simp [intOf]; omega
    · obtain rfl : k = zs.length := by omega
      have hm : mayB zs = true := (may_iff zs).2 ⟨by omega, fun z hz => by
        obtain ⟨j, hj, rfl⟩ := List.getElem_of_mem hz
        exact HR.out j hj hj⟩
      have HC : Hid (chk zs = if y = 0 then 4 else if 65536 < y then 2 else if y < 65536 then 3 else 1) := by
        have := HY.out
        rw [List.take_length] at this
        unfold Hid chk; rw [hm, ← this]; rfl
      clear hm HY HR
      by_cases h0 : y = 0
      · rw [if_pos h0] at HC
        subst h0
        go_wp2_with fail
        go_ret
        exact ⟨by rw [HC.out]; rfl, _, rfl⟩
      rw [if_neg h0] at HC
      by_cases h1 : 65536 < y
      · rw [if_pos h1] at HC
        go_wp2_with fail
        go_ret
        exact ⟨by rw [HC.out]; rfl, _, rfl⟩
      rw [if_neg h1] at HC
      have b0 : ((y : Int) == 0) = false := by simp; omega
      have b1 : decide ((65536 : Int) < y) = false := by simp; omega
      by_cases h2 : y < 65536
      · rw [if_pos h2] at HC
        have b2 : decide ((y : Int) < 65536) = true := by simp; omega
        clear h0 h1 h2 hy hbig hw
        go_wp2_with fail
        go_ret
        exact ⟨by rw [HC.out]; rfl, _, rfl⟩
      rw [if_neg h2] at HC
      have b2 : decide ((y : Int) < 65536) = false := by simp; omega
      clear h0 h1 h2 hy hbig hw
      go_wp2_with fail
      go_ret
      exact ⟨by rw [HC.out]; rfl, _, rfl⟩
/-- v is the row of the words of L -/
def Cds (w : World) (v : Value) (L : List Nat) : Prop := Sts w v L.length 2 fun i j => if j = 0 then .int .u32 (code L i) else .int .i64 (len L i)
def werr (zs : List Int) : Nat := if chk zs = 5 then 2 else if chk zs = 2 then 6 else 0
theorem werr_ok {zs : List Int} (h : werr zs = 0) : mayB zs = true ∧ wt (Ln zs) ≤ 65536 := by
  unfold werr at h
  by_cases h5 : chk zs = 5
  · rw [if_pos h5] at h; omega
  by_cases h2 : chk zs = 2
  · rw [if_neg h5, if_pos h2] at h; omega
  unfold chk at h5 h2
  cases hm : mayB zs with
  | false => rw [hm] at h5; simp at h5
  | true =>
    rw [hm] at h5 h2
    refine ⟨rfl, ?_⟩
    by_cases h0 : wt (Ln zs) = 0
    · omega
    · rw [if_neg (by simp), if_neg h0] at h2
      by_cases h3 : 65536 < wt (Ln zs)
      · rw [if_pos h3] at h2; simp at h2
      · omega
/-- how much of the row is given out ahead of symbol i of n bits -/
def upTo (L : List Nat) (n i : Nat) : Nat := acc L (n - 1) + (L.take i).count n * 2 ^ (16 - n)
theorem upTo_lo (L : List Nat) (n i : Nat) (h : len L i = n) : upTo L n i = lo L i := by subst h; rfl
theorem upTo_le (L : List Nat) (n i : Nat) (h1 : 0 < n) (h : n ≤ 16) (hL : ∀ x ∈ L, x ≤ 16) : upTo L n i ≤ wt L := by
  obtain ⟨m, rfl⟩ : ∃ m, n = m + 1 := ⟨n - 1, by omega⟩
  have h2 := acc_mono L (m + 1) 16 h
  rw [acc16 L hL, acc] at h2
  have h3 : (L.take i).count (m + 1) ≤ L.count (m + 1) := List.Sublist.count_le _ (List.take_sublist _ _)
  have := Nat.mul_le_mul_right (2 ^ (16 - (m + 1))) h3
  unfold upTo
  rw [Nat.add_sub_cancel]
  omega
theorem upTo_skip (L : List Nat) (n i : Nat) (hi : i < L.length) (h : len L i ≠ n) : upTo L n (i + 1) = upTo L n i := by
  unfold upTo
  rw [List.take_succ_eq_append_getElem hi, List.count_append, ← len_get L i hi]
  simp [List.count_cons, h]
theorem upTo_take (L : List Nat) (n i : Nat) (hi : i < L.length) (h : len L i = n) : upTo L n (i + 1) = upTo L n i + 2 ^ (16 - n) := by
  unfold upTo
  rw [List.take_succ_eq_append_getElem hi, List.count_append, ← len_get L i hi, h]
  simp [Nat.add_mul]; omega
theorem upTo_next (L : List Nat) (n : Nat) (h : 0 < n) : upTo L n L.length = upTo L (n + 1) 0 := by
  obtain ⟨m, rfl⟩ : ∃ m, n = m + 1 := ⟨n - 1, by omega⟩
  unfold upTo
  simp [acc]
/-- has the word of symbol j been given out? -/
def dn (L : List Nat) (n i j : Nat) : Bool := decide (0 < len L j) && (decide (len L j < n) || (decide (len L j = n) && decide (j < i)))
/-- the row's cells -/
def CsAt (cs : Array Value) (L : List Nat) (n i : Nat) : Prop := ∀ j, j < L.length → cs[j * 2]? = some (.int .u32 (if dn L n i j then (code L j : Int) else 0)) ∧ cs[j * 2 + 1]? = some (.int .i64 (if dn L n i j then (len L j : Int) else 0))
theorem dn_skip (L : List Nat) (n i j : Nat) (h : len L i ≠ n) : dn L n (i + 1) j = dn L n i j := by
  unfold dn
  by_cases e : j = i
  · subst e; simp [h]
  · rw [show decide (j < i + 1) = decide (j < i) by simp; omega]
theorem dn_take (L : List Nat) (n i j : Nat) (h : len L i = n) (h0 : 0 < n) : dn L n (i + 1) j = if j = i then true else dn L n i j := by
  unfold dn
  by_cases e : j = i
  · subst e; simp [h, h0]
  · rw [if_neg e, show decide (j < i + 1) = decide (j < i) by simp; omega]
theorem dn_next (L : List Nat) (n j : Nat) (hj : j < L.length) : dn L n L.length j = dn L (n + 1) 0 j := by
  unfold dn
  rw [show decide (j < L.length) = true by simpa using hj, Bool.and_true, show decide (j < 0) = false by simp, Bool.and_false, Bool.or_false]
  congr 1
  by_cases e : len L j = n
  · simp [e]
  · rw [show decide (len L j = n) = false by simpa using e, Bool.or_false]
    by_cases e2 : len L j < n
    · simp [e2]; omega
    · simp [e2]; omega
theorem dn_all (L : List Nat) (j : Nat) (hL : ∀ x ∈ L, x ≤ 16) : dn L 17 0 j = decide (0 < len L j) := by
  have : len L j < 17 := by have := longest_ge L j; have := longest_le L 16 hL; omega
  simp [dn, this]
theorem CsAt.skip {cs : Array Value} {L : List Nat} {n i : Nat} (h : CsAt cs L n i) (hn : len L i ≠ n) : CsAt cs L n (i + 1) := by
  intro j hj; rw [dn_skip L n i j hn]; exact h j hj
theorem CsAt.next {cs : Array Value} {L : List Nat} {n : Nat} (h : CsAt cs L n L.length) : CsAt cs L (n + 1) 0 := by
  intro j hj; rw [← dn_next L n j hj]; exact h j hj
theorem CsAt.take {cs : Array Value} {L : List Nat} {n i : Nat} (h : CsAt cs L n i) (hs : cs.size = L.length * 2) (hi : i < L.length) (hn : len L i = n) (h0 : 0 < n) :
    CsAt ((cs.setIfInBounds (i * 2) (.int .u32 (code L i))).setIfInBounds (i * 2 + 1) (.int .i64 n)) L n (i + 1) := by
  intro j hj
  rw [dn_take L n i j hn h0]
  simp only [Array.getElem?_setIfInBounds, Array.size_setIfInBounds]
  by_cases e : j = i
  · subst e
    simp [hn, hs]
    omega
  · have a1 : ¬ i * 2 + 1 = j * 2 := by omega
    have a2 : ¬ i * 2 = j * 2 := by omega
    have a3 : ¬ i * 2 + 1 = j * 2 + 1 := by omega
    have a4 : ¬ i * 2 = j * 2 + 1 := by omega
    simp only [if_neg e, if_neg a1, if_neg a2, if_neg a3, if_neg a4]
    exact h j hj
theorem CsAt.cds {w : World} {b : Nat} {cs : Array Value} {L : List Nat} (hb : Blk w b cs 106) (h : CsAt cs L 17 0) (hL : ∀ x ∈ L, x ≤ 16) (hm : L.length ≤ maxLen) : Cds w (.slice (some ⟨b, 0, none⟩) L.length L.length) L := by
  refine ⟨_, _, rfl, Nat.le_refl _, hm, by simp, ?_⟩
  intro x hx i hi j hj
  obtain rfl : _ = x := Option.some.inj hx
  have h1 := h i hi
  rw [dn_all L i hL] at h1
  have e : ∀ m, ((⟨b, 0, none⟩ : Addr).add m) = ⟨b, m, none⟩ := fun m => by cases m <;> simp [Addr.add]
  rw [e]
  obtain rfl | rfl : j = 0 ∨ j = 1 := by omega
  · have h2 := hb.cell (i * 2) _ h1.1
    rw [Nat.add_zero, h2]
    by_cases h0 : 0 < len L i
    · simp [h0]
    · have : len L i = 0 := by omega
      simp [this, code, tr]
  · have h2 := hb.cell (i * 2 + 1) _ h1.2
    rw [h2]
    by_cases h0 : 0 < len L i
    · simp [h0]
    · have : len L i = 0 := by omega
      simp [this]
theorem infoCode : (Tryz.prog.info? 106).map (fun i => (i.zero.map (·.cells), i.size, i.bytes)) = some (some #[.int .u32 0, .int .i64 0], 2, 16) := by kernel_rfl
theorem run_make_codes (w : World) (n : Nat) (hn : n ≤ 4096) : (Instr.makeSlice 83 (.int .i64 (n : Int)) (.int .i64 (n : Int))).run Tryz.prog w = .ok (.slice (some ⟨w.heap.size, 0, none⟩) n n) (w.alloc (.cells (madeCells #[.int .u32 0, .int .i64 0] (n * 2)) 106)) := by
  obtain ⟨i, hi, hzz⟩ := Option.map_eq_some_iff.1 infoCode
  simp only [Prod.mk.injEq] at hzz
  obtain ⟨hz, hs, hb⟩ := hzz
  obtain ⟨z, hz, hzc⟩ := Option.map_eq_some_iff.1 hz
  have := run_make (P := Tryz.prog) (w := w) 83 106 i z Tryz.underlying83 hi hz .i64 .i64 n n (by omega) (by omega) (by rw [hb]; omega) (by omega)
  rw [this, hzc, hs]
  simp
theorem CsAt.made (L : List Nat) : CsAt (madeCells #[.int .u32 0, .int .i64 0] (L.length * 2)) L 1 0 := by
  intro j hj
  have hd : dn L 1 0 j = false := by simp [dn]; omega
  rw [hd]
  unfold madeCells
  have e1 : j * 2 % 2 = 0 := by omega
  have e2 : (j * 2 + 1) % 2 = 1 := by omega
  constructor
  · rw [Array.getElem?_map, Array.getElem?_range, if_pos (by omega)]; simp
  · rw [Array.getElem?_map, Array.getElem?_range, if_pos (by omega)]; simp [e2]
end Go.Proofs.YtokfcgloogdeiaaGreatDoor
namespace Go.Proofs.YtokfcgloogdeiaaGreatDoor
set_option linter.unusedVariables false
set_option linter.unusedSimpArgs false
open Go.ChangeShapes Go.WideShapes Go.ChangeAt Go.RowKit

theorem turn_code (x n : Nat) (h : n ≤ 16) : turn x (n : Int) = tr n x 0 := by
  unfold turn
  rw [show (max 0 (min (n : Int) 32)).toNat = n by omega]
/-- where the words stand: the last one and its length -/
def At (A y m n : Nat) : Prop := (m = 0 ∧ y = 0 ∧ A = 0) ∨ (0 < m ∧ m ≤ n ∧ (y + 1) * 2 ^ (16 - m) = A)
theorem At.next {A y m n : Nat} (h : At A y m n) : At A y m (n + 1) := by
  rcases h with h | ⟨a, b, c⟩
  · exact .inl h
  · exact .inr ⟨a, by omega, c⟩
theorem double (y m n : Nat) (h : m < n) (hn : n ≤ 16) : y * 2 * 2 ^ (16 - (m + 1)) = y * 2 ^ (16 - m) := by
  rw [show 16 - m = (16 - (m + 1)) + 1 by omega, Nat.pow_succ', Nat.mul_assoc]
theorem le_of_mul {y q A : Nat} (h : y * q = A) (hq : 0 < q) (hA : A ≤ 65536) : y ≤ 65536 := by
  have : y * 1 ≤ y * q := Nat.mul_le_mul_left y hq
  omega
set_option maxRecDepth 100000 in
set_option maxHeartbeats 2000000 in
theorem refwords_ok (w : World) (v : Value) (zs : List Int) (h : Is .i64 w v zs) (h0 : werr zs = 0) : Calls Tryz.prog 33 #[v] w fun e w' => ∃ v', e = .returned (.tuple #[v', .int .i64 0]) ∧ Cds w' v' (Ln zs) ∧ Keep [] w w' ∧ ∀ b, v'.ownBlock = some b → w.heap.size ≤ b := by
  obtain ⟨hm, hwt⟩ := werr_ok h0
  have hL := may_Ln hm
  have hlen : zs.length ≤ 4096 := ((may_iff zs).1 hm).1
  have HG := Lib.hid (fun i hi => may_get hm i hi)
  have n5 : (((chk zs : Nat) : Int) == 5) = false := by
    by_cases e : chk zs = 5
    · unfold werr at h0; rw [if_pos e] at h0; omega
    · simp; omega
  have n2 : (((chk zs : Nat) : Int) == 2) = false := by
    by_cases e : chk zs = 2
    · unfold werr at h0; rw [e] at h0; simp at h0
    · simp; omega
  have hN := Ln_length zs
  obtain ⟨a, cap, rfl, _, _⟩ := h.shape
  have HC := Lib.hid (fun w' (k : Keep [] w w') => refcheck_c w' _ zs (h.keep k (by simp)))
  have hmk := fun w' => run_make_codes w' zs.length hlen
  have HI := Lib.hid (fun i hi => h.at i hi)
  have HL := Lib.hid hL
  generalize chk zs = ck at n5 n2 HC
  generalize Ln zs = L at hL hwt HG hN HL ⊢
  have HN := Lib.hid hN; clear hN hL hm h0 h
  go_enter Tryz.func33, Tryz.ntmps33
  go_wp2_with fail
  refine (HC.out _ (Keep.refl _ _)).mono ?_; rintro e w1 ⟨rfl, m1, rfl⟩
  go_wp2_with fail
  refine (HC.out _ ((Keep.refl _ _).drewN _)).mono ?_; rintro e w1 ⟨rfl, m2, rfl⟩
  go_wp2_with fail
  go_loopw [5, 6, 7] (fun x m n wr => ∃ (y l k : Nat) (cs : Array Value), 1 ≤ k ∧ k ≤ 17 ∧ n = .int .i64 k ∧ m = .int .i64 l ∧ x = .int .u32 y ∧ Hid (At (upTo L k 0) y l k) ∧ Hid (cs.size = zs.length * 2) ∧ Hid (CsAt cs L k 0) ∧ Blk wr w.heap.size cs 106 ∧ Keep [] w wr) (fun _ _ n _ => 17 - (intOf n).toNat)
  case atStart =>
    refine ⟨0, 0, 1, _, by omega, by omega, rfl, rfl, rfl, .inl ⟨rfl, rfl, by simp [upTo, acc]⟩, ?_, ?_, Blk.new _ _ _, ((Keep.refl [] w).drewN _).alloc _⟩
    · unfold Hid; rw [size_madeCells]
    · rw [← HN.out]; exact CsAt.made L
  case round =>
    obtain ⟨y, l, k, cs, hk1, hk2, rfl, rfl, rfl, HA, HS, HCs, hb, K⟩ := hrel
    by_cases hk : k ≤ 16
    · have hd16 : decide ((k : Int) ≤ 16) = true := by simp; omega
      go_wp2_with fail
      go_loopw [5, 6, 8] (fun x m n w2 => ∃ (y l i : Nat) (cs : Array Value), i ≤ zs.length ∧ n = .int .i64 i ∧ m = .int .i64 l ∧ x = .int .u32 y ∧ Hid (At (upTo L k i) y l k) ∧ Hid (cs.size = zs.length * 2) ∧ Hid (CsAt cs L k i) ∧ Blk w2 w.heap.size cs 106 ∧ Keep [] w w2) (fun _ _ n _ => zs.length - (intOf n).toNat)
      case atStart => exact ⟨y, l, 0, cs, by omega, rfl, rfl, rfl, HA, HS, HCs, hb, K⟩
      case round =>
        clear HA HS HCs hb K
        obtain ⟨y, l, i, cs, hi, rfl, rfl, rfl, HA, HS, HCs, hb, K⟩ := hrel
        by_cases hlt : i < zs.length
        · obtain ⟨b, off, cap', hv, e1⟩ := HI.out i hlt
          simp only [Value.slice.injEq] at hv
          obtain ⟨rfl, _, rfl⟩ := hv
          have e1 := K.cell e1 (by simp)
          obtain ⟨g1, g2⟩ := HG.out i hlt
          rw [g1] at e1
          clear g1
          by_cases hne : len L i = k
          · have hup := upTo_le L k i (by omega) hk HL.out
            have hlo : upTo L k i = wd L i * 2 ^ (16 - k) := by
              rw [upTo_lo L k i hne, ← lo_wd L i (by omega) g2, hne]
            have hq : 0 < 2 ^ (16 - k) := Nat.pow_pos (by decide)
            have htk := upTo_take L k i (by rw [HN.out]; exact hlt) hne
            have hcs := HCs.out.take (by rw [HS.out, HN.out]) (by rw [HN.out]; exact hlt) hne (by omega)
            have hcode : code L i = tr k (wd L i) 0 := by unfold code; rw [hne]
            have hnext : At (upTo L k (i + 1)) (wd L i) k k := .inr ⟨by omega, Nat.le_refl _, by rw [htk, hlo, Nat.add_mul, Nat.one_mul]⟩
            have HNX := Lib.hid hnext
            have HCO := Lib.hid hcode
            have HCS := Lib.hid hcs
            have HLO := Lib.hid hlo
            have e1' := e1
            rw [hne] at e1
            clear hlo htk hcs hcode hnext e1' hne HCs
            have HU : Hid (wd L i * 2 ^ (16 - k) ≤ 65536) := by unfold Hid; rw [← HLO.out]; exact Nat.le_trans hup hwt
            have hwl : wd L i ≤ 65536 := le_of_mul rfl hq HU.out
            clear hup
            by_cases hl0 : l = 0
            · obtain ⟨hy0, hA0⟩ : y = 0 ∧ upTo L k i = 0 := by
                rcases HA.out with ⟨_, b, c⟩ | ⟨b, _, _⟩
                · exact ⟨b, c⟩
                · omega
              have hw0 : wd L i * 2 ^ (16 - k) = 0 := by rw [← HLO.out]; exact hA0
              have HW0 := Lib.hid hw0
              subst hl0 hy0
              clear hw0 hA0 HA
              go_wp2_with fail
              go_loopw [5, 6] (fun x m w3 => ∃ (y l : Nat), 1 ≤ l ∧ l ≤ k ∧ m = .int .i64 l ∧ x = .int .u32 y ∧ y ≤ 65536 ∧ Hid (y * 2 ^ (16 - l) = wd L i * 2 ^ (16 - k)) ∧ ∃ n, w3 = wr.drewN n) (fun _ m _ => k - (intOf m).toNat)
              case atStart => exact ⟨0, k, by omega, by omega, rfl, rfl, by omega, by unfold Hid; rw [HW0.out]; simp, 0, rfl⟩
              case round =>
                obtain ⟨y, l, hl1, hl2, rfl, rfl, hy, HY, n3, rfl⟩ := hrel
                by_cases hlk : l < k
                · have hd := double y l k hlk hk
                  have hy2 : y * 2 ≤ 65536 := le_of_mul (hd.trans (HY.out)) (Nat.pow_pos (by decide)) HU.out
                  have HD : Hid (y * 2 * 2 ^ (16 - (l + 1)) = wd L i * 2 ^ (16 - k)) := hd.trans HY.out
                  clear hd
                  go_wp2_with fail
                  go_roundw
                  case rel => exact ⟨y * 2, l + 1, by omega, by omega, by go_num, by go_num, hy2, HD, _, rfl⟩
                  case measure => simp [intOf]; omega
                · obtain rfl : l = k := by omega
                  have hyw : y = wd L i := Nat.eq_of_mul_eq_mul_right (Nat.pow_pos (by decide)) HY.out
                  subst hyw
                  have ht := turn_code (wd L i) l hk
                  rw [← HCO.out] at ht
                  have HTC := Lib.hid (fun w4 => turnref_c (wd L i) (l : Int) w4 (by omega))
                  rw [ht] at HTC
                  clear ht HY
                  generalize wd L i = y at *
                  generalize code L i = cd at *
                  clear HU HCO HLO
                  have hb' := hb.drewN n3
                  have K' := K.drewN n3
                  generalize wr.drewN n3 = w5 at hb' K' ⊢
                  go_wp2_with fail
                  refine (HTC.out _).mono ?_; rintro e w6 ⟨rfl, rfl⟩
                  have s0 : i * 2 < cs.size := by rw [HS.out]; omega
                  have s1 : i * 2 + 1 < cs.size := by rw [HS.out]; omega
                  have c0 := hb'.cell (i * 2) _ (Array.getElem?_eq_getElem s0)
                  have c1 := hb'.cell (i * 2 + 1) _ (Array.getElem?_eq_getElem s1)
                  have f0 := hb'.free (i * 2)
                  have f1 := hb'.free (i * 2 + 1)
                  go_wp2_with fail
                  go_roundw
                  case rel => exact ⟨y, l, i + 1, _, by omega, by go_num, rfl, rfl, HNX, by unfold Hid; simpa using HS.out, HCS, (hb'.set (i * 2) _).set (i * 2 + 1) _, (K'.setCell (.inr (by simp)) _).setCell (.inr (by simp)) _⟩
                  case measure => simp [intOf]; omega
            · obtain ⟨hl1, hA0⟩ : l ≤ k ∧ (y + 1) * 2 ^ (16 - l) = upTo L k i := by
                rcases HA.out with ⟨b, _⟩ | ⟨_, b, c⟩
                · omega
                · exact ⟨b, c⟩
              have hw0 : (y + 1) * 2 ^ (16 - l) = wd L i * 2 ^ (16 - k) := hA0.trans HLO.out
              have hy1 : y + 1 ≤ 65536 := le_of_mul hw0 (Nat.pow_pos (by decide)) HU.out
              have HW0 := Lib.hid hw0
              clear hw0 hA0 HA
              go_wp2_with fail
              go_loopw [5, 6] (fun x m w3 => ∃ (y l : Nat), 1 ≤ l ∧ l ≤ k ∧ m = .int .i64 l ∧ x = .int .u32 y ∧ y ≤ 65536 ∧ Hid (y * 2 ^ (16 - l) = wd L i * 2 ^ (16 - k)) ∧ ∃ n, w3 = wr.drewN n) (fun _ m _ => k - (intOf m).toNat)
              case atStart => exact ⟨y + 1, l, by omega, hl1, rfl, by go_num, hy1, HW0, 0, rfl⟩
              case round =>
                obtain ⟨y, l, hl1, hl2, rfl, rfl, hy, HY, n3, rfl⟩ := hrel
                by_cases hlk : l < k
                · have hd := double y l k hlk hk
                  have hy2 : y * 2 ≤ 65536 := le_of_mul (hd.trans (HY.out)) (Nat.pow_pos (by decide)) HU.out
                  have HD : Hid (y * 2 * 2 ^ (16 - (l + 1)) = wd L i * 2 ^ (16 - k)) := hd.trans HY.out
                  clear hd
                  go_wp2_with fail
                  go_roundw
                  case rel => exact ⟨y * 2, l + 1, by omega, by omega, by go_num, by go_num, hy2, HD, _, rfl⟩
                  case measure => simp [intOf]; omega
                · obtain rfl : l = k := by omega
                  have hyw : y = wd L i := Nat.eq_of_mul_eq_mul_right (Nat.pow_pos (by decide)) HY.out
                  subst hyw
                  have ht := turn_code (wd L i) l hk
                  rw [← HCO.out] at ht
                  have HTC := Lib.hid (fun w4 => turnref_c (wd L i) (l : Int) w4 (by omega))
                  rw [ht] at HTC
                  clear ht HY
                  generalize wd L i = y at *
                  generalize code L i = cd at *
                  clear HU HCO HLO
                  have hb' := hb.drewN n3
                  have K' := K.drewN n3
                  generalize wr.drewN n3 = w5 at hb' K' ⊢
                  go_wp2_with fail
                  refine (HTC.out _).mono ?_; rintro e w6 ⟨rfl, rfl⟩
                  have s0 : i * 2 < cs.size := by rw [HS.out]; omega
                  have s1 : i * 2 + 1 < cs.size := by rw [HS.out]; omega
                  have c0 := hb'.cell (i * 2) _ (Array.getElem?_eq_getElem s0)
                  have c1 := hb'.cell (i * 2 + 1) _ (Array.getElem?_eq_getElem s1)
                  have f0 := hb'.free (i * 2)
                  have f1 := hb'.free (i * 2 + 1)
                  go_wp2_with fail
                  go_roundw
                  case rel => exact ⟨y, l, i + 1, _, by omega, by go_num, rfl, rfl, HNX, by unfold Hid; simpa using HS.out, HCS, (hb'.set (i * 2) _).set (i * 2 + 1) _, (K'.setCell (.inr (by simp)) _).setCell (.inr (by simp)) _⟩
                  case measure => simp [intOf]; omega
          · have HA2 : Hid (At (upTo L k (i + 1)) y l k) := by unfold Hid; rw [upTo_skip L k i (by rw [HN.out]; exact hlt) hne]; exact HA.out
            have HC2 : Hid (CsAt cs L k (i + 1)) := HCs.out.skip hne
            clear HA HCs
            go_wp2_with fail
            go_roundw
            case rel => exact ⟨y, l, i + 1, cs, by omega, by go_num, rfl, rfl, HA2, HS, HC2, hb, K⟩
            case measure => simp [intOf]; omega
        · obtain rfl : i = zs.length := by omega
          go_wp2_with fail
          go_roundw
          case rel =>
            refine ⟨y, l, k + 1, cs, by omega, by omega, by go_num, rfl, rfl, ?_, HS, ?_, hb, K⟩
            · have := HA.out; unfold Hid; rw [← HN.out, upTo_next L k (by omega)] at this; exact this.next
            · have := HCs.out; rw [← HN.out] at this; exact this.next
          case measure => simp [intOf]; omega
    · obtain rfl : k = 17 := by omega
      have hc := CsAt.cds hb HCs.out HL.out (by rw [HN.out]; unfold maxLen; omega)
      rw [HN.out] at hc
      go_wp2_with fail
      go_ret2
      exact ⟨_, rfl, hc, K, by simp [Value.ownBlock]⟩
end Go.Proofs.YtokfcgloogdeiaaGreatDoor
namespace Go.Proofs.YtokfcgloogdeiaaGreatDoor
set_option linter.unusedVariables false
set_option linter.unusedSimpArgs false
open Go.ChangeShapes Go.WideShapes Go.ChangeAt Go.RowKit

theorem Cds.nix (w : World) : Cds w (.slice none 0 0) [] := ⟨none, 0, rfl, by simp, by simp, fun _ => rfl, fun x hx => nomatch hx⟩
theorem Cds.keep {w w' : World} {v : Value} {L : List Nat} {S : List Nat} (h : Cds w v L) (k : Keep S w w') (hb : ∀ b, v.ownBlock = some b → b ∉ S) : Cds w' v L := Sts.keep h k hb
theorem Cds.drewN {w : World} {v : Value} {L : List Nat} (h : Cds w v L) (n : Nat) : Cds (w.drewN n) v L := h.keep ((Keep.refl [] w).drewN _) (by simp)
theorem Cds.shape {w : World} {v : Value} {L : List Nat} (h : Cds w v L) : ∃ a cap, v = .slice a L.length cap ∧ L.length ≤ 9223372036854775807 := by
  obtain ⟨a, cap, rfl, h1, h2, _⟩ := h
  unfold maxLen at h2
  exact ⟨a, cap, rfl, by omega⟩
theorem Cds.at {w : World} {v : Value} {L : List Nat} (h : Cds w v L) (i : Nat) (hi : i < L.length) : ∃ b off cap, v = .slice (some ⟨b, off, none⟩) L.length cap ∧ w.cell? ⟨b, off + i * 2, none⟩ = some (.int .u32 (code L i)) ∧ w.cell? ⟨b, off + i * 2 + 1, none⟩ = some (.int .i64 (len L i)) := by
  rcases Sts.cases (by decide) h with ⟨h0, _⟩ | ⟨_, b, off, cap, rfl, _, _, _, hc⟩
  · omega
  · exact ⟨b, off, cap, rfl, hc i hi 0 (by omega), hc i hi 1 (by omega)⟩
set_option maxHeartbeats 1000000 in
theorem refwords_err (w : World) (v : Value) (zs : List Int) (h : Is .i64 w v zs) (h0 : werr zs ≠ 0) : Calls Tryz.prog 33 #[v] w fun e w' => e = .returned (.tuple #[.slice none 0 0, .int .i64 (werr zs)]) ∧ Keep [] w w' := by
  have HC := Lib.hid (fun w' (k : Keep [] w w') => refcheck_c w' _ zs (h.keep k (by simp)))
  obtain ⟨a, cap, rfl, _, _⟩ := h.shape
  by_cases h5 : chk zs = 5
  · have n5 : (((chk zs : Nat) : Int) == 5) = true := by simp; omega
    have hw : Hid (werr zs = 2) := by unfold Hid werr; rw [if_pos h5]
    generalize chk zs = ck at n5 HC
    clear h5 h h0
    go_enter Tryz.func33, Tryz.ntmps33
    go_wp2_with fail
    refine (HC.out _ (Keep.refl _ _)).mono ?_; rintro e w1 ⟨rfl, m1, rfl⟩
    go_wp2_with fail
    go_ret2
    exact ⟨by rw [hw.out]; rfl, (Keep.refl _ _).drewN _⟩
  · have h2 : chk zs = 2 := by
      unfold werr at h0
      rw [if_neg h5] at h0
      by_cases e : chk zs = 2
      · exact e
      · rw [if_neg e] at h0; omega
    have n5 : (((chk zs : Nat) : Int) == 5) = false := by simp; omega
    have n2 : (((chk zs : Nat) : Int) == 2) = true := by simp; omega
    have hw : Hid (werr zs = 6) := by unfold Hid werr; rw [if_neg h5, if_pos h2]
    generalize chk zs = ck at n5 n2 HC
    clear h5 h2 h h0
    go_enter Tryz.func33, Tryz.ntmps33
    go_wp2_with fail
    refine (HC.out _ (Keep.refl _ _)).mono ?_; rintro e w1 ⟨rfl, m1, rfl⟩
    go_wp2_with fail
    refine (HC.out _ ((Keep.refl _ _).drewN _)).mono ?_; rintro e w1 ⟨rfl, m2, rfl⟩
    go_wp2_with fail
    go_ret2
    exact ⟨by rw [hw.out]; rfl, (Keep.refl _ _).drewN _⟩
/-- lengths whose words are asked for: none where there is an error -/
def Lw (zs : List Int) : List Nat := if werr zs = 0 then Ln zs else []
theorem refwords_c (w : World) (v : Value) (zs : List Int) (h : Is .i64 w v zs) : Calls Tryz.prog 33 #[v] w fun e w' => ∃ v', e = .returned (.tuple #[v', .int .i64 (werr zs)]) ∧ Cds w' v' (Lw zs) ∧ Keep [] w w' ∧ (∀ b, v'.ownBlock = some b → w.heap.size ≤ b) ∧ (werr zs ≠ 0 → v' = .slice none 0 0) := by
  unfold Lw
  by_cases h0 : werr zs = 0
  · rw [if_pos h0]
    refine (refwords_ok w v zs h h0).mono ?_
    rintro e w' ⟨v', rfl, a, b, c⟩
    exact ⟨v', by rw [h0]; rfl, a, b, c, fun h => absurd h0 h⟩
  · rw [if_neg h0]
    refine (refwords_err w v zs h h0).mono ?_
    rintro e w' ⟨rfl, a⟩
    exact ⟨_, rfl, Cds.nix _, a, by simp [Value.ownBlock], fun _ => rfl⟩
theorem longest_take (L : List Nat) (i : Nat) (h : i < L.length) : longest (L.take (i + 1)) = max (longest (L.take i)) (len L i) := by
  rw [List.take_succ_eq_append_getElem h, longest_snoc, ← len_get L i h]
set_option maxHeartbeats 1000000 in
theorem reflongest_c (w : World) (v : Value) (L : List Nat) (hL : ∀ x ∈ L, x ≤ 16) (h : Cds w v L) : Calls Tryz.prog 85 #[v] w fun e w' => e = .returned (.int .i64 (longest L)) ∧ ∃ n, w' = w.drewN n := by
  have HI := Lib.hid (fun i hi => h.at i hi)
  obtain ⟨a, cap, rfl, hm⟩ := h.shape
  have hl16 := longest_le L 16 hL
  have HL16 := Lib.hid (fun i => longest_ge L i)
  clear h
  go_enter Tryz.func85, Tryz.ntmps85
  go_wp2_with fail
  go_loopw [3, 4] (fun x i wr => ∃ (k y : Nat), k ≤ L.length ∧ i = .int .i64 k ∧ x = .int .i64 y ∧ Hid (y = longest (L.take k)) ∧ y ≤ 16 ∧ ∃ n, wr = w.drewN n) (fun _ i _ => L.length - (intOf i).toNat)
  case atStart => exact ⟨0, 0, by omega, rfl, rfl, by simp [Hid, longest], by omega, 0, rfl⟩
  case round =>
    obtain ⟨k, y, hk, rfl, rfl, HY, hy, n, rfl⟩ := hrel
    by_cases hlt : k < L.length
    · obtain ⟨b, off, cap', hv, e0, e1⟩ := HI.out k hlt
      simp only [Value.slice.injEq] at hv
      obtain ⟨rfl, _, rfl⟩ := hv
      have HT := Lib.hid (longest_take L k hlt)
      have h16 : len L k ≤ 16 := by have := HL16.out k; omega
      have HT2 : Hid (longest (L.take (k + 1)) = max y (len L k)) := by unfold Hid; rw [HT.out, HY.out]
      generalize len L k = z at *
      by_cases hz : y < z
      · go_wp2_with fail
        go_roundw
        case rel => exact ⟨k + 1, z, by omega, by go_num, rfl, by unfold Hid; rw [HT2.out]; omega, h16, _, rfl⟩
        case measure => simp [intOf]; omega
      · go_wp2_with fail
        go_roundw
        case rel => exact ⟨k + 1, y, by omega, by go_num, rfl, by unfold Hid; rw [HT2.out]; omega, hy, _, rfl⟩
        case measure => simp [intOf]; omega
    · obtain rfl : k = L.length := by omega
      have hy2 := HY.out
      rw [List.take_length] at hy2
      have HY2 := Lib.hid hy2
      clear hy2
      go_wp2_with fail
      go_ret
      exact ⟨by rw [HY2.out]; rfl, _, rfl⟩
end Go.Proofs.YtokfcgloogdeiaaGreatDoor
namespace Go.Proofs.YtokfcgloogdeiaaGreatDoor
set_option linter.unusedVariables false
set_option linter.unusedSimpArgs false
open Go.ChangeShapes Go.WideShapes Go.ChangeAt Go.RowKit

/-- what reading a word answers: symbol, error, and the reader's state -/
def RS.next (L : List Nat) (s : RS) : Int × Nat × RS :=
  if s.E ≠ 0 then (-1, s.E, s) else
  match pick L (tr 16 (num s.l s.pos 16) 0) (min 16 s.left) with
  | some i => ((i : Int), 0, { s with pos := s.pos + len L i })
  | none => (-1, if s.left < longest L then 3 else 7, s)
theorem RS.next_err (L : List Nat) (s : RS) (h : s.E ≠ 0) : s.next L = (-1, s.E, s) := by unfold RS.next; rw [if_pos h]
theorem RS.next_hit (L : List Nat) (s : RS) (h : s.E = 0) (i : Nat) (hp : pick L (tr 16 (num s.l s.pos 16) 0) (min 16 s.left) = some i) : s.next L = ((i : Int), 0, { s with pos := s.pos + len L i }) := by
  unfold RS.next; rw [if_neg (by omega), hp]
theorem RS.next_none (L : List Nat) (s : RS) (h : s.E = 0) (hp : pick L (tr 16 (num s.l s.pos 16) 0) (min 16 s.left) = none) : s.next L = (-1, if s.left < longest L then 3 else 7, s) := by
  unfold RS.next; rw [if_neg (by omega), hp]
theorem mask32 (x n : Nat) (hx : x < 4294967296) (hn : n ≤ 16) : Go.bits .and .u32 (x : Int) (IntKind.u32.wrap (IntKind.u32.wrap (2 ^ n) - 1)) = ((x % 2 ^ n : Nat) : Int) := by
  have h2 : 2 ^ n ≤ 2 ^ 16 := Nat.pow_le_pow_right (by decide) hn
  have h3 : 0 < 2 ^ n := Nat.two_pow_pos n
  have e1 : IntKind.u32.wrap (IntKind.u32.wrap (2 ^ n) - 1) = ((2 ^ n - 1 : Nat) : Int) := by
    rw [show ((2 : Int) ^ n) = ((2 ^ n : Nat) : Int) by simp, IntKind.wrap_u32, IntKind.wrap_u32]
    generalize 2 ^ n = q at h2 h3
    omega
  rw [e1, u32_and_nat _ _ hx (by omega), Nat.and_two_pow_sub_one_eq_mod]
theorem mask32' (x n : Nat) (hx : x < 4294967296) (hn : n ≤ 16) : ∃ P : Nat, (2 : Int) ^ n % 4294967296 = P ∧ 1 ≤ P ∧ P ≤ 65536 ∧ Go.bits .and .u32 (x : Int) ((P : Int) - 1) = ((x % 2 ^ n : Nat) : Int) := by
  have h2 : 2 ^ n ≤ 2 ^ 16 := Nat.pow_le_pow_right (by decide) hn
  have h3 : 0 < 2 ^ n := Nat.two_pow_pos n
  refine ⟨2 ^ n, ?_, h3, h2, ?_⟩
  · rw [show ((2 : Int) ^ n) = ((2 ^ n : Nat) : Int) by simp]
    generalize 2 ^ n = q at h2 h3
    omega
  · rw [show (((2 ^ n : Nat) : Int) - 1) = ((2 ^ n - 1 : Nat) : Int) by omega, u32_and_nat _ _ hx (by omega), Nat.and_two_pow_sub_one_eq_mod]
/-- is word k the one? as bits -/
theorem hit_bits (L : List Nat) (x k h : Nat) (hk : k < L.length) (hL : ∀ y ∈ L, y ≤ 16) (hwt : wt L ≤ 65536) (h0 : 0 < len L k) : x % 2 ^ len L k = code L k ↔ hit L (tr 16 x 0) k := by
  have h16 : len L k ≤ 16 := by rw [len_get L k hk]; exact hL _ (List.getElem_mem hk)
  unfold code hit
  rw [bits_word x (wd L k) (len L k) h16 (wd_lt L k hk hL hwt h0)]
  exact ⟨fun h => ⟨hk, h0, h16, h⟩, fun h => h.2.2.2⟩
set_option maxRecDepth 100000 in
set_option maxHeartbeats 2000000 in
theorem refnext_c (w : World) (q : Nat) (v cv : Value) (s : RS) (L : List Nat) (hL : ∀ x ∈ L, x ≤ 16) (hwt : wt L ≤ 65536) (hc : Cds w cv L) (h : Rr w q v s) : Calls Tryz.prog 72 #[cv, .pointer (some ⟨q, 0, none⟩)] w fun e w' => e = .returned (.tuple #[.int .i64 (s.next L).1, .int .i64 (s.next L).2.1]) ∧ Rr w' q v (s.next L).2.2 ∧ Keep [q] w w' := by
  have c2 := h.1.cell 2 _ rfl
  have hE := h.E
  obtain ⟨a, cap, rfl, hm⟩ := hc.shape
  by_cases he : s.E = 0
  · have he2 : ((s.err : Int) != 0) = false := by simp; omega
    have hlk : s.look 16 = (num s.l s.pos 16, min 16 s.left) := by unfold RS.look; rw [if_neg (by omega)]; rfl
    have HK := Lib.hid (rlook_c w q v s 16 h)
    rw [hlk] at HK
    have HI := Lib.hid (fun i hi => hc.at i hi)
    have HB := Lib.hid (fun k hk h0 => hit_bits L (num s.l s.pos 16) k 0 hk hL hwt h0)
    have HS := Lib.hid (RS.next_hit L s he)
    have HN := Lib.hid (RS.next_none L s he)
    have HP := Lib.hid (pick_some L (tr 16 (num s.l s.pos 16) 0) (min 16 s.left) · hL)
    have HPN := Lib.hid (pick_none L (tr 16 (num s.l s.pos 16) 0) (min 16 s.left) hL)
    have HLG := Lib.hid (fun n => reflongest_c (w.drewN n) _ L hL (hc.drewN n))
    have H16 := Lib.hid (fun i => Nat.le_trans (longest_ge L i) (longest_le L 16 hL))
    have hx : num s.l s.pos 16 < 65536 := num_lt s.l s.pos 16
    generalize num s.l s.pos 16 = x at hx HK HB HS HN HP HPN
    have hmin : min 16 s.left ≤ 16 := by omega
    have hmin2 : min 16 s.left ≤ s.left := by omega
    have hle := RS.left_le s h.2.2.1
    generalize min 16 s.left = mn at HK HS HN HP HPN hmin hmin2
    have hlen16 := longest_le L 16 hL
    clear hL hc hlk hE
    have HH := Lib.hid h
    have HEE := Lib.hid he
    clear he
    go_enter Tryz.func72, Tryz.ntmps72
    go_wp2_with fail
    refine HK.out.mono ?_; rintro e w1 ⟨rfl, m1, rfl⟩
    go_wp2_with fail
    go_loopw [8] (fun i wr => ∃ k : Nat, k ≤ L.length ∧ i = .int .i64 k ∧ Hid (∀ j, j < k → ¬ (hit L (tr 16 x 0) j ∧ len L j ≤ mn)) ∧ ∃ n, wr = w.drewN n) (fun i _ => L.length - (intOf i).toNat)
    case atStart => exact ⟨0, by omega, rfl, fun j hj => by omega, _, rfl⟩
    case round =>
      obtain ⟨k, hk, rfl, HR, n, rfl⟩ := hrel
      by_cases hlt : k < L.length
      · obtain ⟨b, off, cap', hv, e0, e1⟩ := HI.out k hlt
        simp only [Value.slice.injEq] at hv
        obtain ⟨rfl, _, rfl⟩ := hv
        have h16 := H16.out k
        by_cases hm0 : hit L (tr 16 x 0) k ∧ len L k ≤ mn
        · have hpos : 0 < len L k := hm0.1.2.1
          have hx2 : x % 2 ^ len L k = code L k := (HB.out k hlt hpos).2 hm0.1
          have HP2 : Hid (pick L (tr 16 x 0) mn = some k) := (HP.out k).2 hm0
          have HS2 := Lib.hid (HS.out k HP2.out)
          obtain ⟨P, hP, hP1, hP2, hmk⟩ := mask32' x (len L k) (by omega) h16
          rw [hx2] at hmk
          have hzm := hm0.2
          have hl0 : s.left = 8 * s.l.length - s.pos := by unfold RS.left; rw [if_pos HEE.out]
          have hp1 := h.2.2.1.1
          have hlm : s.l.length ≤ 140737488355328 := h.2.2.1.2.1
          have H2 := (h.drewN n).setPos (s.pos + len L k) (by omega)
          have K2 : Keep [q] w ((w.drewN n).setCell ⟨q, 1, none⟩ (.int .i64 (s.pos + len L k : Nat))) := ((Keep.refl _ _).drewN n).setCell (by simp) _
          have f1 := h.1.free 1
          have c1 := h.1.cell 1 _ rfl
          generalize code L k = cd at *
          generalize len L k = z at *
          clear hm0 hx2 HP2 HB HP HN HPN hl0 HH HEE HR h
          go_wp2_with fail
          go_ret2
          rw [HS2.out]
          exact ⟨rfl, H2, K2⟩
        · have HR2 : Hid (∀ j, j < k + 1 → ¬ (hit L (tr 16 x 0) j ∧ len L j ≤ mn)) := by
            intro j hj
            by_cases e : j = k
            · subst e; exact hm0
            · exact HR.out j (by omega)
          by_cases hz0 : len L k = 0
          · rw [hz0] at e1
            clear hz0 hm0 HR
            go_wp2_with fail
            go_roundw
            case rel => exact ⟨k + 1, by omega, by go_num, HR2, _, rfl⟩
            case measure => simp [intOf]; omega
          by_cases hzm : mn < len L k
          · generalize len L k = z at *
            clear hm0 HR
            go_wp2_with fail
            go_roundw
            case rel => exact ⟨k + 1, by omega, by go_num, HR2, _, rfl⟩
            case measure => simp [intOf]; omega
          · have hpos : 0 < len L k := by omega
            have hne : x % 2 ^ len L k ≠ code L k := fun e => hm0 ⟨(HB.out k hlt hpos).1 e, by omega⟩
            obtain ⟨P, hP, hP1, hP2, hmk⟩ := mask32' x (len L k) (by omega) h16
            have hbe : (((x % 2 ^ len L k : Nat) : Int) == ((code L k : Nat) : Int)) = false := by
              simp only [beq_eq_false_iff_ne, ne_eq]; intro e; exact hne (Int.ofNat.inj e)
            generalize x % 2 ^ len L k = xm at hmk hbe
            generalize code L k = cd at e0 hbe
            generalize len L k = z at e1 h16 hz0 hzm hpos hP
            clear hm0 HR hne
            go_wp2_with fail
            go_roundw
            case rel => exact ⟨k + 1, by omega, by go_num, HR2, _, rfl⟩
            case measure => simp [intOf]; omega
      · obtain rfl : k = L.length := by omega
        have HP2 : Hid (pick L (tr 16 x 0) mn = none) := HPN.out.2 (fun i hi => by
          have := HR.out i hi.1
          rcases Nat.lt_or_ge mn (len L i) with h1 | h1
          · exact h1
          · exact absurd ⟨hi, h1⟩ this)
        have HN2 := Lib.hid (HN.out HP2.out)
        clear HR HP2 HB HP HPN HN HS HI
        go_wp2_with fail
        refine (rleft_c _ _ _ _ (HH.out.drewN n)).mono ?_; rintro e w2 ⟨rfl, m2, rfl⟩
        go_wp2_with fail
        refine (HLG.out (n + m2)).mono ?_; rintro e w2 ⟨rfl, m3, rfl⟩
        by_cases hll : s.left < longest L
        · rw [if_pos hll] at HN2
          generalize longest L = lg at *
          go_wp2_with fail
          go_ret2
          rw [HN2.out]
          exact ⟨rfl, HH.out.drewN _, (Keep.refl _ _).drewN _⟩
        · rw [if_neg hll] at HN2
          generalize longest L = lg at *
          go_wp2_with fail
          go_ret2
          rw [HN2.out]
          exact ⟨rfl, HH.out.drewN _, (Keep.refl _ _).drewN _⟩
  · have he2 : ((s.err : Int) != 0) = true := by simp; omega
    have HF := Lib.hid (RS.next_err L s he)
    have HE := Lib.hid hE
    clear hE he hc
    go_enter Tryz.func72, Tryz.ntmps72
    go_wp2_with fail
    go_quiet (fail)
    go_wp2_with fail
    go_ret2
    rw [HF.out, HE.out]
    exact ⟨rfl, h.drewN _, (Keep.refl _ _).drewN _⟩
end Go.Proofs.YtokfcgloogdeiaaGreatDoor
namespace Go.Proofs.YtokfcgloogdeiaaGreatDoor
set_option maxRecDepth 100000
set_option linter.unusedVariables false
set_option linter.unusedSimpArgs false
open Go.ChangeShapes Go.WideShapes Go.ChangeAt Go.RowKit

/-- an array by lengths -/
def BL (f : Nat → Nat) : Array Value := ((List.range 17).map fun n => Value.int .i64 (f n)).toArray
theorem BL_size (f : Nat → Nat) : (BL f).size = 17 := by simp [BL]
theorem BL_get (f : Nat → Nat) (n : Nat) (h : n < 17) : (BL f)[n]? = some (.int .i64 (f n)) := by
  simp [BL, List.getElem?_range h]
theorem BL_eq {cs : Array Value} {f : Nat → Nat} (hs : cs.size = 17) (h : ∀ n, n < 17 → cs[n]? = some (.int .i64 (f n))) : cs = BL f := by
  apply Array.ext_getElem?
  intro i
  by_cases hi : i < 17
  · rw [h i hi, BL_get f i hi]
  · rw [Array.getElem?_eq_none (by omega), Array.getElem?_eq_none (by rw [BL_size]; omega)]
theorem BL_set (f : Nat → Nat) (n : Nat) (y : Nat) (h : n < 17) : (BL f).setIfInBounds n (.int .i64 y) = BL fun i => if i = n then y else f i := by
  refine BL_eq (by simp [BL_size]) fun i hi => ?_
  rw [Array.getElem?_setIfInBounds, BL_size]
  by_cases e : n = i
  · subst e; simp [h]
  · rw [if_neg e, BL_get f i hi, if_neg (fun h => e h.symm)]
theorem BL_one (f : Nat → Nat) : ∀ v ∈ (BL f).toList, v.oneCell' = true := by
  intro v hv
  simp only [BL, List.mem_map] at hv
  obtain ⟨n, _, rfl⟩ := hv
  rfl
theorem BL_zero : BL (fun _ => 0) = Array.replicate 17 (.int .i64 0) := rfl
theorem lenInfo : (Tryz.prog.info? 149).map (fun i => (i.zero, i.size)) = some (some (.agg (Array.replicate 17 (.int .i64 0))), 17) := by kernel_rfl
theorem lenSize : (Tryz.prog.info? 149).map (·.size) = some 17 := by kernel_rfl
theorem wpList_loadL {ops : Array Oper} {rest : List Oper} {o : Oper} {a : Act} {w : World} {Q : Exit → Act → World → Prop} (hgd : o.guard = none) (x : Operand) (ho : o.op = .load 149 x)
    (g : Nat) (hx : a.eval x = .pointer (some ⟨g, 0, none⟩)) (f : Nat → Nat) (hb : Blk w g (BL f) 149)
    (h : wpList Tryz.prog ops Q rest (a.put o.dst (.agg (BL f))) w) : wpList Tryz.prog ops Q (o :: rest) a w :=
  wpList_load_row hgd 149 x ho g hx _ _ _ _ hb Tryz.underlying149 rfl (by rw [BL_size]; exact lenSize) h
theorem wpList_storeL {ops : Array Oper} {rest : List Oper} {o : Oper} {a : Act} {w : World} {Q : Exit → Act → World → Prop} (hgd : o.guard = none) (x y : Operand) (ho : o.op = .store 149 x y)
    (g : Nat) (f : Nat → Nat) (hx : a.eval x = .pointer (some ⟨g, 0, none⟩)) (hy : a.eval y = .agg (BL f)) (t : TypeId) (old : Array Value) (hb : Blk w g old t) (hold : old.size = 17)
    (h : wpList Tryz.prog ops Q rest (a.put o.dst undef) (w.setRow g (BL f))) : wpList Tryz.prog ops Q (o :: rest) a w :=
  wpList_store_row hgd 149 x y ho g _ hx hy t old hb (by rw [BL_size]; exact lenSize) (by rw [hold, BL_size]) (Array.all_eq_true_iff_forall_mem.2 fun v hv => BL_one f v (by simpa using hv)) h
theorem results_cellL {fn : Func} {p : Tmp} (h : fn.results = #[.cell p 149]) (tmps : Array Value) {w : World} {g : Nat} {f : Nat → Nat} (hp : tmps.getD p undef = .pointer (some ⟨g, 0, none⟩)) (hb : Blk w g (BL f) 149) :
    (results fn tmps).run Tryz.prog w = .ok (.agg (BL f)) w :=
  results_cellA h tmps hp hb _ Tryz.underlying149 rfl (by rw [BL_size]; exact lenSize)
/-- how many words have each length -/
def cnt (L : List Nat) (n : Nat) : Nat := if n = 0 then 0 else L.count n
/-- how many words are shorter -/
def stt (L : List Nat) : Nat → Nat
  | 0 => 0
  | n + 1 => stt L n + cnt L n
theorem cnt_le (L : List Nat) (n : Nat) : cnt L n ≤ L.length := by unfold cnt; split; omega; exact List.count_le_length
theorem stt_le (L : List Nat) (n : Nat) : stt L n ≤ n * L.length := by
  induction n with
  | zero => simp [stt]
  | succ n ih => have := cnt_le L n; rw [stt, Nat.add_mul]; omega
theorem canmaybe_c (w : World) (v : Value) (zs : List Int) (h : Is .i64 w v zs) : Calls Tryz.prog 116 #[v] w fun e w' => e = .returned (.bool (mayB zs)) ∧ ∃ n, w' = w.drewN n := by
  have hl := h.len
  have HI := Lib.hid (fun i hi => h.at i hi)
  obtain ⟨a, cap, rfl, _, _⟩ := h.shape
  by_cases hbig : 4096 < zs.length
  · have hb : mayB zs = false := by rw [Bool.eq_false_iff]; intro hm; have := (may_iff zs).1 hm; omega
    rw [hb]
    clear hb h
    go_enter Tryz.func116, Tryz.ntmps116
    go_wp2
    go_ret
    exact ⟨rfl, 0, rfl⟩
  clear h
  go_enter Tryz.func116, Tryz.ntmps116
  go_wp2_with fail
  go_loopw [10] (fun i wr => ∃ k : Nat, k ≤ zs.length ∧ i = .int .i64 k ∧ Hid (∀ j (hj : j < zs.length), j < k → 0 ≤ zs[j] ∧ zs[j] ≤ 16) ∧ ∃ n, wr = w.drewN n) (fun i _ => zs.length - (intOf i).toNat)
  case atStart => exact ⟨0, by omega, rfl, fun j _ hj => by omega, 0, rfl⟩
  case round =>
    obtain ⟨k, hk, rfl, HR, n, rfl⟩ := hrel
    by_cases hlt : k < zs.length
    · obtain ⟨b, off, cap', hv, e1⟩ := HI.out k hlt
      simp only [Value.slice.injEq] at hv
      obtain ⟨rfl, hvv, rfl⟩ := hv
      clear hvv
      by_cases hbad : zs[k] < 0 ∨ 16 < zs[k]
      · have hc := Lib.hid (bad_at k hlt hbad)
        generalize zs[k] = z at e1 hbad
        by_cases hneg : z < 0
        · clear hbad
          go_wp2_with fail
          go_ret
          exact ⟨by rw [hc.out]; rfl, _, rfl⟩
        · have : 16 < z := by omega
          clear hbad
          go_wp2_with fail
          go_ret
          exact ⟨by rw [hc.out]; rfl, _, rfl⟩
      · have HR2 : Hid (∀ j (hj : j < zs.length), j < k + 1 → 0 ≤ zs[j] ∧ zs[j] ≤ 16) := by
          intro j hj hjk
          by_cases e : j = k
          · subst e; omega
          · exact HR.out j hj (by omega)
        generalize zs[k] = z at e1 hbad
        have h1 : 0 ≤ z := by omega
        have h2 : z ≤ 16 := by omega
        clear hbad HR
        go_wp2_with fail
        go_roundw
        case rel => exact ⟨k + 1, by omega, by go_num, HR2, _, rfl⟩
        case measure => simp [intOf]; omega
    · obtain rfl : k = zs.length := by omega
      have hm : mayB zs = true := (may_iff zs).2 ⟨by omega, fun z hz => by
        obtain ⟨j, hj, rfl⟩ := List.getElem_of_mem hz
        exact HR.out j hj hj⟩
      have HM := Lib.hid hm
      clear hm HR
      go_wp2_with fail
      go_ret
      exact ⟨by rw [HM.out]; rfl, _, rfl⟩

theorem acc_le (zs : List Int) (hm : mayB zs = true) (n : Nat) (hn : n ≤ 16) : acc (Ln zs) n ≤ 4096 * 32768 := by
  have h1 := acc_mono (Ln zs) n 16 hn
  rw [acc16 _ (may_Ln hm)] at h1
  have := wt_le zs 4096 ((may_iff zs).1 hm).1
  omega
theorem fst_le (zs : List Int) (hm : mayB zs = true) (n : Nat) (hn : n ≤ 16) : fst (Ln zs) n ≤ 4096 * 32768 := by
  cases n with
  | zero => simp [fst]
  | succ n =>
    have h1 := fst_acc (Ln zs) n (by omega)
    have h2 := acc_le zs hm n (by omega)
    have h3 : 0 < 2 ^ (16 - (n + 1)) := Nat.pow_pos (by decide)
    have := Nat.le_mul_of_pos_right (fst (Ln zs) (n + 1)) h3
    omega
set_option maxHeartbeats 2000000 in
theorem counts_c (w : World) (v : Value) (zs : List Int) (h : Is .i64 w v zs) (hm : mayB zs = true) : Calls Tryz.prog 100 #[v] w fun e w' => e = .returned (.agg (BL (cnt (Ln zs)))) ∧ Keep [] w w' := by
  have hz := (zero_of_info (P := Tryz.prog) lenInfo).1
  have hsz := (zero_of_info (P := Tryz.prog) lenInfo).2
  rw [← BL_zero] at hz
  have hl := ((may_iff zs).1 hm).1
  have HM := Lib.hid (may_get hm)
  have KA : Keep [] w ((w.alloc (.cells (BL fun _ => 0) 149)).alloc (.cells (BL fun _ => 0) 149)) := ((Keep.refl [] w).alloc _).alloc _
  have HI := Lib.hid (fun i hi => h.at i hi)
  obtain ⟨a, cap, rfl, _, _⟩ := h.shape
  have hb0 : Blk ((w.alloc (.cells (BL fun _ => 0) 149)).alloc (.cells (BL fun _ => 0) 149)) w.heap.size (BL fun _ => 0) 149 := (Blk.new w _ _).alloc _
  have hb1 : Blk ((w.alloc (.cells (BL fun _ => 0) 149)).alloc (.cells (BL fun _ => 0) 149)) (w.heap.size + 1) (BL fun _ => 0) 149 := by
    have := Blk.new (w.alloc (.cells (BL fun _ => 0) 149)) (BL fun _ => 0) 149
    simpa using this
  clear h
  generalize hZ : BL (fun _ => 0) = Z at hz hb0 hb1 KA HI
  have HZ := Lib.hid hZ
  have HS := Lib.hid hsz
  clear hZ hsz
  go_enter Tryz.func100, Tryz.ntmps100
  go_wp2_with fail
  go_loopw [8] (fun i wr => ∃ k : Nat, k ≤ zs.length ∧ i = .int .i64 k ∧ Blk wr (w.heap.size + 1) (BL fun n => ((Ln zs).take k).count n) 149 ∧ Blk wr w.heap.size Z 149 ∧ Keep [] w wr) (fun i _ => zs.length - (intOf i).toNat)
  case atStart => exact ⟨0, by omega, rfl, by simpa [HZ.out] using hb1, hb0, KA⟩
  case round =>
    obtain ⟨k, hk, rfl, h1, h0, KK⟩ := hrel
    by_cases hlt : k < zs.length
    · obtain ⟨b, off, cap', hv, e1⟩ := HI.out k hlt
      simp only [Value.slice.injEq] at hv
      obtain ⟨rfl, hvv, rfl⟩ := hv
      obtain ⟨hz1, hz2⟩ := HM.out k hlt
      have hsn : (Ln zs).take (k + 1) = (Ln zs).take k ++ [len (Ln zs) k] := by
        have hk2 : k < (Ln zs).length := by rw [Ln_length]; exact hlt
        rw [List.take_succ_eq_append_getElem hk2, len_get _ _ hk2]
      rw [hz1] at e1
      have e2 := KK.cellW e1
      have c1 := h1.cell (len (Ln zs) k) _ (BL_get _ _ (by omega))
      have f1 := h1.free (len (Ln zs) k)
      have hcl : ((Ln zs).take k).count (len (Ln zs) k) ≤ k := Nat.le_trans List.count_le_length (by rw [List.length_take]; omega)
      have hs1 := h1.set (len (Ln zs) k) (.int .i64 (((Ln zs).take k).count (len (Ln zs) k) + 1 : Nat))
      rw [BL_set _ _ _ (by omega)] at hs1
      have he : (BL fun i => if i = len (Ln zs) k then ((Ln zs).take k).count (len (Ln zs) k) + 1 else ((Ln zs).take k).count i) = BL fun n => ((Ln zs).take (k + 1)).count n := by
        congr 1; funext i
        rw [hsn, List.count_append]
        by_cases e : i = len (Ln zs) k
        · subst e; simp
        · rw [if_neg e]; simp [List.count_cons, Ne.symm e]
      rw [he] at hs1
      have h0' : Blk (wr.setCell ⟨w.heap.size + 1, len (Ln zs) k, none⟩ (.int .i64 (((Ln zs).take k).count (len (Ln zs) k) + 1 : Nat))) w.heap.size Z 149 := h0.other (by simp) _
      have KK' : Keep [] w (wr.setCell ⟨w.heap.size + 1, len (Ln zs) k, none⟩ (.int .i64 (((Ln zs).take k).count (len (Ln zs) k) + 1 : Nat))) := KK.setCell (.inr (by simp)) _
      generalize ((Ln zs).take k).count (len (Ln zs) k) = cc at c1 hcl hs1 h0' KK'
      generalize len (Ln zs) k = z at *
      clear hvv hz1 hsn he e1
      go_wp2_with fail
      go_roundw
      case rel => exact ⟨k + 1, by omega, by go_num, hs1, h0', KK'⟩
      case measure => simp [intOf]; omega
    · obtain rfl : k = zs.length := by omega
      rw [List.take_of_length_le (by rw [Ln_length]; omega)] at h1
      have f1 := h1.free 0
      have c1 := h1.cell 0 _ (BL_get _ _ (by omega))
      have hs1 := h1.set 0 (.int .i64 (0 : Nat))
      rw [BL_set _ _ _ (by omega)] at hs1
      have h0' : Blk (wr.setCell ⟨w.heap.size + 1, 0, none⟩ (.int .i64 (0 : Nat))) w.heap.size Z 149 := h0.other (by simp) _
      have KK' : Keep [] w (wr.setCell ⟨w.heap.size + 1, 0, none⟩ (.int .i64 (0 : Nat))) := KK.setCell (.inr (by simp)) _
      have he : (BL fun i => if i = 0 then 0 else (Ln zs).count i) = BL (cnt (Ln zs)) := rfl
      rw [he] at hs1
      have hb2 := h0'.setRow (BL (cnt (Ln zs)))
      have K2 : Keep [] w ((wr.setCell ⟨w.heap.size + 1, 0, none⟩ (.int .i64 (0 : Nat))).setRow w.heap.size (BL (cnt (Ln zs)))) := KK'.trans (Keep.setRow _) (by simp)
      have hz17 : Z.size = 17 := by rw [← HZ.out, BL_size]
      clear hb0 hb1 KA h1 h0 KK KK' HI he
      go_wp2_with (first | refine wpList_loadL rfl _ rfl _ rfl _ hs1 ?_ | refine wpList_storeL rfl _ _ rfl _ _ rfl rfl _ _ h0' hz17 ?_)
      refine bodyPost_ret (results_cellL rfl _ rfl hb2) rfl ?_
      exact ⟨rfl, K2⟩
set_option maxHeartbeats 2000000 in
theorem weight_c (w : World) (L : List Nat) (hb : ∀ n, n ≤ 16 → acc L n ≤ 4096 * 32768) (hL : L.length ≤ 4096) : Calls Tryz.prog 117 #[.agg (BL (cnt L))] w fun e w' => e = .returned (.int .i64 (acc L 16)) ∧ Keep [] w w' := by
  have HB := Blk.new w (BL (cnt L)) 149
  have KA : Keep [] w (w.alloc (.cells (BL (cnt L)) 149)) := (Keep.refl [] w).alloc _
  have HC := Lib.hid (cnt_le L)
  have HA := Lib.hid hb
  go_enter Tryz.func117, Tryz.ntmps117
  go_wp2_with (refine wpList_loadL rfl _ rfl _ rfl _ HB ?_)
  generalize w.alloc (.cells (BL (cnt L)) 149) = wA at HB KA ⊢
  have HI := Lib.hid (fun (w : World) (k : Nat) (hk : k < 17) => run_index_arr (P := Tryz.prog) w 149 3 17 .i64 _ _ .i64 k _ Tryz.underlying149 Tryz.underlying3 rfl rfl hk (BL_get (cnt L) k hk))
  go_loopw [3, 7] (fun x i wr => ∃ k y : Nat, k ≤ 17 ∧ i = .int .i64 k ∧ x = .int .i64 y ∧ y ≤ 4096 * 32768 ∧ Hid (y = acc L (k - 1)) ∧ ∃ n, wr = wA.drewN n) (fun _ i _ => 17 - (intOf i).toNat)
  case atStart => exact ⟨0, 0, by omega, rfl, rfl, by omega, rfl, 0, rfl⟩
  case round =>
    obtain ⟨k, y, hk, rfl, rfl, hy, HY, n, rfl⟩ := hrel
    by_cases hlt : k < 17
    · have hi := HI.out (wA.drewN n) k hlt
      have hc := HC.out k
      have hn : acc L k = y + cnt L k * 2 ^ (16 - k) := by
        rw [HY.out]
        cases k with
        | zero => simp [acc, cnt]
        | succ k => rw [acc, Nat.add_sub_cancel]; simp [cnt]
      have hn2 := HA.out k (by omega)
      rw [hn] at hn2
      have hs : ((16 : Int) - k).toNat = 16 - k := by omega
      generalize hq : cnt L k * 2 ^ (16 - k) = q at hn hn2
      generalize cnt L k = c at hi hc hq
      go_wp2_with fail
      have e : wrap64 ((c : Int) * 2 ^ (16 - k)) = (q : Int) := by
        rw [show (c : Int) * 2 ^ (16 - k) = (q : Int) by rw [← hq]; simp]
        unfold wrap64; omega
      rw [e, IntWalk.wrap64_in _ (by omega)]
      refine ⟨⟨k + 1, y + q, by omega, by go_num, by go_num, hn2, by rw [Nat.add_sub_cancel]; exact hn.symm, n, rfl⟩, ?_⟩
      simp [intOf]; omega
    · obtain rfl : k = 17 := by omega
      go_wp2_with fail
      go_ret
      exact ⟨by rw [HY.out]; rfl, KA.drewN n⟩
theorem upto1 (f : Nat → Nat) (h : f 0 = 0) : (fun n => if n < 1 then f n else 0) = fun _ => 0 := by
  funext n
  by_cases e : n = 0
  · subst e; simp [h]
  · rw [if_neg (by omega)]
theorem uptoS (f : Nat → Nat) (m : Nat) : (fun i => if i = m then f m else if i < m then f i else 0) = fun n => if n < m + 1 then f n else 0 := by
  funext n
  by_cases e : n = m
  · subst e; simp
  · rw [if_neg e]
    by_cases e2 : n < m
    · rw [if_pos e2, if_pos (by omega)]
    · rw [if_neg e2, if_neg (by omega)]
theorem upto17 (f : Nat → Nat) : BL (fun n => if n < 17 then f n else 0) = BL f := by
  refine BL_eq (BL_size _) fun n hn => ?_
  rw [BL_get _ _ hn, if_pos hn]
set_option maxHeartbeats 2000000 in
theorem firsts_c (w : World) (L : List Nat) (hb : ∀ n, n ≤ 16 → fst L n ≤ 4096 * 32768) (hL : L.length ≤ 4096) : Calls Tryz.prog 102 #[.agg (BL (cnt L))] w fun e w' => e = .returned (.agg (BL (fst L))) ∧ Keep [] w w' := by
  have hz := (zero_of_info (P := Tryz.prog) lenInfo).1
  rw [← BL_zero] at hz
  have HB := Blk.new w (BL (cnt L)) 149
  have KA : Keep [] w (w.alloc (.cells (BL (cnt L)) 149)) := (Keep.refl [] w).alloc _
  have HC := Lib.hid (cnt_le L)
  have HA := Lib.hid hb
  generalize hZ : BL (fun _ => 0) = Z at hz
  have HZ := Lib.hid hZ
  clear hZ
  go_enter Tryz.func102, Tryz.ntmps102
  go_wp2_with fail
  have hb0 : Blk (((w.alloc (.cells (BL (cnt L)) 149)).alloc (.cells Z 149)).alloc (.cells Z 149)) w.heap.size (BL (cnt L)) 149 := (HB.alloc _).alloc _
  have hb1 : Blk (((w.alloc (.cells (BL (cnt L)) 149)).alloc (.cells Z 149)).alloc (.cells Z 149)) (w.heap.size + 1) Z 149 := by
    have := (Blk.new (w.alloc (.cells (BL (cnt L)) 149)) Z 149).alloc (.cells Z 149)
    simpa using this
  have hb2 : Blk (((w.alloc (.cells (BL (cnt L)) 149)).alloc (.cells Z 149)).alloc (.cells Z 149)) (w.heap.size + 1 + 1) Z 149 := by
    have := Blk.new ((w.alloc (.cells (BL (cnt L)) 149)).alloc (.cells Z 149)) Z 149
    simpa using this
  have KB := (KA.alloc (.cells Z 149)).alloc (.cells Z 149)
  have hz17 : Z.size = 17 := by rw [← HZ.out, BL_size]
  generalize ((w.alloc (.cells (BL (cnt L)) 149)).alloc (.cells Z 149)).alloc (.cells Z 149) = wA at hb0 hb1 hb2 KB ⊢
  clear HB KA
  go_loopw [4] (fun i wr => ∃ k : Nat, 1 ≤ k ∧ k ≤ 17 ∧ i = .int .i64 k ∧ Blk wr w.heap.size (BL (cnt L)) 149 ∧ Blk wr (w.heap.size + 1) Z 149 ∧ Blk wr (w.heap.size + 1 + 1) (BL fun n => if n < k then fst L n else 0) 149 ∧ Keep [] w wr) (fun i _ => 17 - (intOf i).toNat)
  case atStart => exact ⟨1, by omega, by omega, rfl, hb0, hb1, by
    rw [← HZ.out] at hb2
    rw [upto1 (fst L) rfl]; exact hb2, KB⟩
  case round =>
    obtain ⟨k, hk1, hk, rfl, h0, h1, h2, KK⟩ := hrel
    by_cases hlt : k < 17
    · obtain ⟨m, rfl⟩ : ∃ m, k = m + 1 := ⟨k - 1, by omega⟩
      have c1 := h2.cell m _ (BL_get _ _ (by omega))
      rw [if_pos (by omega)] at c1
      have c2 := h0.cell m _ (BL_get _ _ (by omega))
      have hc := HC.out m
      have hn : fst L (m + 1) = 2 * (fst L m + cnt L m) := by rw [fst]; congr 1
      have hn2 := HA.out (m + 1) (by omega)
      rw [hn] at hn2
      have hd0 := h0.drewN 1
      have hd1 := h1.drewN 1
      have hd2 := h2.drewN 1
      have KD := KK.drewN 1
      clear h0 h1 h2 KK
      have HF : Hid (fst L (m + 1) = 2 * (fst L m + cnt L m)) := hn
      clear hn
      generalize hcc : cnt L m = c at c2 hc hn2 HF
      generalize haa : fst L m = a at c1 hn2 HF
      go_wp2_with fail
      have hm0 : (0 : Int) ≤ m + 1 := by omega
      have hm17 : (m : Int) < 17 := by omega
      have hw1 : IntKind.i64.wrap (m : Int) = m := by rw [IntKind.wrap_i64]; omega
      have hw2 : IntKind.i64.wrap ((a : Int) + c) = a + c := by rw [IntKind.wrap_i64]; omega
      have hw3 : IntKind.i64.wrap (((a : Int) + c) * 2) = 2 * (a + c) := by rw [IntKind.wrap_i64]; omega
      go_still_tail 12, (by kernel_rfl)
      change wpList _ _ _ _ _ (wr.drewN 1)
      generalize wr.drewN 1 = w2 at hd0 hd1 hd2 KD ⊢
      have f1 := hd2.free (m + 1)
      have c3 := hd2.cell (m + 1) _ (BL_get _ _ (by omega))
      have hs2 := hd2.set (m + 1) (.int .i64 (fst L (m + 1) : Nat))
      rw [BL_set _ _ _ (by omega), uptoS (fst L), HF.out] at hs2
      have hs1 := hd1.other (p := ⟨w.heap.size + 1 + 1, m + 1, none⟩) (by simp) (.int .i64 (2 * (a + c) : Nat))
      have hs0 := hd0.other (p := ⟨w.heap.size + 1 + 1, m + 1, none⟩) (by simp; omega) (.int .i64 (2 * (a + c) : Nat))
      have KS : Keep [] w (w2.setCell ⟨w.heap.size + 1 + 1, m + 1, none⟩ (.int .i64 (2 * (a + c) : Nat))) := KD.setCell (.inr (by simp; omega)) _
      clear hd0 hd1 hd2 KD hcc haa
      go_wp2_with fail
      go_roundw
      case rel => exact ⟨m + 2, by omega, by omega, by go_num, hs0, hs1, hs2, KS⟩
      case measure => simp [intOf]; omega
    · obtain rfl : k = 17 := by omega
      rw [upto17] at h2
      have hb3 := h1.setRow (BL (fst L))
      have K2 : Keep [] w (wr.setRow (w.heap.size + 1) (BL (fst L))) := KK.trans (Keep.setRow _) (by simp)
      go_wp2_with (first | refine wpList_loadL rfl _ rfl _ rfl _ h2 ?_ | refine wpList_storeL rfl _ _ rfl _ _ rfl rfl _ _ h1 hz17 ?_)
      refine bodyPost_ret (results_cellL rfl _ rfl hb3) rfl ?_
      exact ⟨rfl, K2⟩
set_option maxHeartbeats 2000000 in
theorem starts_c (w : World) (L : List Nat) (hL : L.length ≤ 4096) : Calls Tryz.prog 103 #[.agg (BL (cnt L))] w fun e w' => e = .returned (.agg (BL (stt L))) ∧ Keep [] w w' := by
  have hz := (zero_of_info (P := Tryz.prog) lenInfo).1
  rw [← BL_zero] at hz
  have HB := Blk.new w (BL (cnt L)) 149
  have KA : Keep [] w (w.alloc (.cells (BL (cnt L)) 149)) := (Keep.refl [] w).alloc _
  have HC := Lib.hid (cnt_le L)
  have HA := Lib.hid (stt_le L)
  generalize hZ : BL (fun _ => 0) = Z at hz
  have HZ := Lib.hid hZ
  clear hZ
  go_enter Tryz.func103, Tryz.ntmps103
  go_wp2_with fail
  have hb0 : Blk (((w.alloc (.cells (BL (cnt L)) 149)).alloc (.cells Z 149)).alloc (.cells Z 149)) w.heap.size (BL (cnt L)) 149 := (HB.alloc _).alloc _
  have hb1 : Blk (((w.alloc (.cells (BL (cnt L)) 149)).alloc (.cells Z 149)).alloc (.cells Z 149)) (w.heap.size + 1) Z 149 := by
    have := (Blk.new (w.alloc (.cells (BL (cnt L)) 149)) Z 149).alloc (.cells Z 149)
    simpa using this
  have hb2 : Blk (((w.alloc (.cells (BL (cnt L)) 149)).alloc (.cells Z 149)).alloc (.cells Z 149)) (w.heap.size + 1 + 1) Z 149 := by
    have := Blk.new ((w.alloc (.cells (BL (cnt L)) 149)).alloc (.cells Z 149)) Z 149
    simpa using this
  have KB := (KA.alloc (.cells Z 149)).alloc (.cells Z 149)
  have hz17 : Z.size = 17 := by rw [← HZ.out, BL_size]
  generalize ((w.alloc (.cells (BL (cnt L)) 149)).alloc (.cells Z 149)).alloc (.cells Z 149) = wA at hb0 hb1 hb2 KB ⊢
  clear HB KA
  go_loopw [4] (fun i wr => ∃ k : Nat, 1 ≤ k ∧ k ≤ 17 ∧ i = .int .i64 k ∧ Blk wr w.heap.size (BL (cnt L)) 149 ∧ Blk wr (w.heap.size + 1) Z 149 ∧ Blk wr (w.heap.size + 1 + 1) (BL fun n => if n < k then stt L n else 0) 149 ∧ Keep [] w wr) (fun i _ => 17 - (intOf i).toNat)
  case atStart => exact ⟨1, by omega, by omega, rfl, hb0, hb1, by
    rw [← HZ.out] at hb2
    rw [upto1 (stt L) rfl]; exact hb2, KB⟩
  case round =>
    obtain ⟨k, hk1, hk, rfl, h0, h1, h2, KK⟩ := hrel
    by_cases hlt : k < 17
    · obtain ⟨m, rfl⟩ : ∃ m, k = m + 1 := ⟨k - 1, by omega⟩
      have c1 := h2.cell m _ (BL_get _ _ (by omega))
      rw [if_pos (by omega)] at c1
      have c2 := h0.cell m _ (BL_get _ _ (by omega))
      have hc := HC.out m
      have hn : stt L (m + 1) = stt L m + cnt L m := by rw [stt]
      have hn2 : stt L (m + 1) ≤ 17 * 4096 := by have := HA.out (m + 1); have := Nat.mul_le_mul (show m + 1 ≤ 17 by omega) hL; omega
      rw [hn] at hn2
      have hd0 := h0.drewN 1
      have hd1 := h1.drewN 1
      have hd2 := h2.drewN 1
      have KD := KK.drewN 1
      clear h0 h1 h2 KK
      have HF : Hid (stt L (m + 1) = stt L m + cnt L m) := hn
      clear hn
      generalize hcc : cnt L m = c at c2 hc hn2 HF
      generalize haa : stt L m = a at c1 hn2 HF
      go_wp2_with fail
      have hm0 : (0 : Int) ≤ m + 1 := by omega
      have hm17 : (m : Int) < 17 := by omega
      have hw1 : IntKind.i64.wrap (m : Int) = m := by rw [IntKind.wrap_i64]; omega
      have hw2 : IntKind.i64.wrap ((a : Int) + c) = a + c := by rw [IntKind.wrap_i64]; omega
      go_still_tail 11, (by kernel_rfl)
      change wpList _ _ _ _ _ (wr.drewN 1)
      generalize wr.drewN 1 = w2 at hd0 hd1 hd2 KD ⊢
      have f1 := hd2.free (m + 1)
      have c3 := hd2.cell (m + 1) _ (BL_get _ _ (by omega))
      have hs2 := hd2.set (m + 1) (.int .i64 (stt L (m + 1) : Nat))
      rw [BL_set _ _ _ (by omega), uptoS (stt L), HF.out] at hs2
      have hs1 := hd1.other (p := ⟨w.heap.size + 1 + 1, m + 1, none⟩) (by simp) (.int .i64 (a + c : Nat))
      have hs0 := hd0.other (p := ⟨w.heap.size + 1 + 1, m + 1, none⟩) (by simp; omega) (.int .i64 (a + c : Nat))
      have KS : Keep [] w (w2.setCell ⟨w.heap.size + 1 + 1, m + 1, none⟩ (.int .i64 (a + c : Nat))) := KD.setCell (.inr (by simp; omega)) _
      clear hd0 hd1 hd2 KD hcc haa
      go_wp2_with fail
      go_roundw
      case rel => exact ⟨m + 2, by omega, by omega, by go_num, hs0, hs1, hs2, KS⟩
      case measure => simp [intOf]; omega
    · obtain rfl : k = 17 := by omega
      rw [upto17] at h2
      have hb3 := h1.setRow (BL (stt L))
      have K2 : Keep [] w (wr.setRow (w.heap.size + 1) (BL (stt L))) := KK.trans (Keep.setRow _) (by simp)
      go_wp2_with (first | refine wpList_loadL rfl _ rfl _ rfl _ h2 ?_ | refine wpList_storeL rfl _ _ rfl _ _ rfl rfl _ _ h1 hz17 ?_)
      refine bodyPost_ret (results_cellL rfl _ rfl hb3) rfl ?_
      exact ⟨rfl, K2⟩
theorem longest_cnt (L : List Nat) (hL : ∀ x ∈ L, x ≤ 16) (n : Nat) (h : ∀ m, n < m → m ≤ 16 → cnt L m = 0) : longest L ≤ n := by
  refine longest_le L n fun x hx => ?_
  rcases Nat.lt_or_ge n x with h1 | h1
  · have h2 := h x h1 (hL x hx)
    unfold cnt at h2
    rw [if_neg (by omega)] at h2
    have := List.count_pos_iff.2 hx
    omega
  · exact h1
theorem longest_ge_cnt (L : List Nat) (n : Nat) (h : cnt L n ≠ 0) : n ≤ longest L := by
  unfold cnt at h
  by_cases h0 : n = 0
  · omega
  · rw [if_neg h0] at h
    have hm : n ∈ L := List.count_pos_iff.1 (by omega)
    obtain ⟨i, hi, e⟩ := List.getElem_of_mem hm
    have := longest_ge L i
    rw [len_get L i hi, e] at this
    exact this
set_option maxHeartbeats 2000000 in
theorem blongest_c (w : World) (L : List Nat) (hL : ∀ x ∈ L, x ≤ 16) : Calls Tryz.prog 101 #[.agg (BL (cnt L))] w fun e w' => e = .returned (.int .i64 (longest L)) ∧ Keep [] w w' := by
  have HB := Blk.new w (BL (cnt L)) 149
  have KA : Keep [] w (w.alloc (.cells (BL (cnt L)) 149)) := (Keep.refl [] w).alloc _
  have HL := Lib.hid (longest_cnt L hL)
  have HG := Lib.hid (longest_ge_cnt L)
  clear hL
  go_enter Tryz.func101, Tryz.ntmps101
  go_wp2_with fail
  generalize w.alloc (.cells (BL (cnt L)) 149) = wA at HB KA ⊢
  go_loopw [3] (fun i wr => ∃ k : Nat, k ≤ 16 ∧ i = .int .i64 k ∧ Hid (∀ m, k < m → m ≤ 16 → cnt L m = 0) ∧ ∃ n, wr = wA.drewN n) (fun i _ => (intOf i).toNat)
  case atStart => exact ⟨16, by omega, rfl, fun m h1 h2 => by omega, 0, rfl⟩
  case round =>
    obtain ⟨k, hk, rfl, HR, n, rfl⟩ := hrel
    by_cases h0 : k = 0
    · subst h0
      have HF := Lib.hid (Nat.le_zero.1 (HL.out 0 HR.out))
      go_wp2_with fail
      go_ret
      exact ⟨by rw [HF.out]; rfl, KA.drewN n⟩
    · have c1 := (HB.drewN n).cell k _ (BL_get _ _ (by omega))
      have hkp : (0 : Int) < k := by omega
      have hk17 : (k : Int) < 17 := by omega
      have h00 : (0 : Int) ≤ k := by omega
      by_cases hc : cnt L k = 0
      · have HR2 : Hid (∀ m, k - 1 < m → m ≤ 16 → cnt L m = 0) := by
          intro m h1 h2
          by_cases e : m = k
          · subst e; exact hc
          · exact HR.out m (by omega) h2
        rw [hc] at c1
        clear hc HR
        go_wp2_with fail
        go_roundw
        case rel => exact ⟨k - 1, by omega, by go_num, HR2, n, rfl⟩
        case measure => simp [intOf]; omega
      · have HF : Hid (longest L = k) := by
          have h1 := HL.out k HR.out
          have h2 := HG.out k hc
          unfold Hid; omega
        have hb : (((cnt L k : Nat) : Int) == 0) = false := by simp; omega
        generalize cnt L k = c at c1 hb
        clear hc
        go_wp2_with fail
        go_ret
        exact ⟨by rw [HF.out]; rfl, KA.drewN n⟩
end Go.Proofs.YtokfcgloogdeiaaGreatDoor
namespace Go.Proofs.YtokfcgloogdeiaaGreatDoor
set_option linter.unusedVariables false
set_option linter.unusedSimpArgs false
open Go.ChangeShapes Go.WideShapes Go.ChangeAt Go.RowKit

set_option maxHeartbeats 2000000 in
theorem can_check (w : World) (v : Value) (zs : List Int) (h : Is .i64 w v zs) : Calls Tryz.prog 109 #[v] w fun e w' => e = .returned (.int .i64 (chk zs)) ∧ Keep [] w w' := by
  have HM := Lib.hid (canmaybe_c w v zs h)
  cases hm : mayB zs with
  | false =>
    have HC := Lib.hid (chk_bad hm)
    go_enter Tryz.func109, Tryz.ntmps109
    go_wp2_with fail
    refine HM.out.mono ?_; rintro e w1 ⟨rfl, n, rfl⟩
    rw [hm]
    go_wp2_with fail
    go_ret
    exact ⟨by rw [HC.out]; rfl, (Keep.refl [] w).drewN n⟩
  | true =>
    have HK := Lib.hid (fun n => counts_c (w.drewN n) v zs (h.drewN n) hm)
    have HW := Lib.hid (fun w => weight_c w (Ln zs) (acc_le zs hm) (by rw [Ln_length]; exact ((may_iff zs).1 hm).1))
    have HY := Lib.hid (acc16 (Ln zs) (may_Ln hm))
    have HC : Hid (chk zs = if wt (Ln zs) = 0 then 4 else if 65536 < wt (Ln zs) then 2 else if wt (Ln zs) < 65536 then 3 else 1) := by
      unfold Hid chk; rw [hm]; rfl
    have hle := acc_le zs hm 16 (by omega)
    rw [HY.out] at hle
    go_enter Tryz.func109, Tryz.ntmps109
    go_wp2_with fail
    refine HM.out.mono ?_; rintro e w1 ⟨rfl, n, rfl⟩
    rw [hm]
    clear hm
    go_wp2_with fail
    refine (HK.out n).mono ?_; rintro e w1 ⟨rfl, k1⟩
    have K1 := ((Keep.refl [] w).drewN n).trans k1 (by simp)
    go_wp2_with fail
    refine (HW.out w1).mono ?_; rintro e w2 ⟨rfl, k2⟩
    have K2 := K1.trans k2 (by simp)
    rw [HY.out]
    generalize wt (Ln zs) = y at HC hle
    clear HM HK HW HY k1 k2 K1 h
    by_cases h0 : y = 0
    · rw [if_pos h0] at HC
      subst h0
      go_wp2_with fail
      go_ret
      exact ⟨by rw [HC.out]; rfl, K2⟩
    rw [if_neg h0] at HC
    have b0 : ((y : Int) == 0) = false := by simp; omega
    by_cases h1 : 65536 < y
    · rw [if_pos h1] at HC
      have b1 : decide ((y : Int) < 65536) = false := by simp; omega
      have b2 : ((y : Int) == 65536) = false := by simp; omega
      clear h0 h1
      go_wp2_with fail
      go_ret
      exact ⟨by rw [HC.out]; rfl, K2⟩
    rw [if_neg h1] at HC
    by_cases h2 : y < 65536
    · rw [if_pos h2] at HC
      have b2 : decide ((y : Int) < 65536) = true := by simp; omega
      clear h0 h1 h2
      go_wp2_with fail
      go_ret
      exact ⟨by rw [HC.out]; rfl, K2⟩
    rw [if_neg h2] at HC
    obtain rfl : y = 65536 := by omega
    clear h0 h1 h2
    go_wp2_with fail
    go_ret
    exact ⟨by rw [HC.out]; rfl, K2⟩
/-- the next word of each length, k symbols on -/
def nx (L : List Nat) (k n : Nat) : Nat := if n = 0 then 0 else fst L n + (L.take k).count n
theorem nx_zero (L : List Nat) : BL (nx L 0) = BL (fst L) := by
  congr 1; funext n
  unfold nx
  split
  · rename_i h; subst h; rfl
  · simp
theorem nx_skip (L : List Nat) (k : Nat) (hk : k < L.length) (h : len L k = 0) : nx L (k + 1) = nx L k := by
  funext n
  unfold nx
  by_cases h0 : n = 0
  · rw [if_pos h0, if_pos h0]
  · rw [if_neg h0, if_neg h0, List.take_succ_eq_append_getElem hk, List.count_append, ← len_get L k hk, h]
    simp [List.count_cons, Ne.symm h0]
theorem nx_take (L : List Nat) (k : Nat) (hk : k < L.length) (h : 0 < len L k) : (fun i => if i = len L k then wd L k + 1 else nx L k i) = nx L (k + 1) := by
  funext n
  unfold nx
  rw [List.take_succ_eq_append_getElem hk, List.count_append, ← len_get L k hk]
  by_cases h0 : n = len L k
  · subst h0
    rw [if_pos rfl, if_neg (by omega)]
    simp [wd, rk]; omega
  · rw [if_neg h0]
    by_cases h1 : n = 0
    · rw [if_pos h1, if_pos h1]
    · rw [if_neg h1, if_neg h1]
      simp [List.count_cons, Ne.symm h0]
theorem nx_at (L : List Nat) (k : Nat) (h : 0 < len L k) : nx L k (len L k) = wd L k := by unfold nx; rw [if_neg (by omega)]; rfl
/-- the row's cells, k symbols on -/
def CsK (cs : Array Value) (L : List Nat) (k : Nat) : Prop := cs.size = L.length * 2 ∧ ∀ j, j < L.length → cs[j * 2]? = some (.int .u32 (if j < k then (code L j : Int) else 0)) ∧ cs[j * 2 + 1]? = some (.int .i64 (if j < k then (len L j : Int) else 0))
theorem CsK.made (L : List Nat) : CsK (madeCells #[.int .u32 0, .int .i64 0] (L.length * 2)) L 0 := by
  refine ⟨by rw [size_madeCells], fun j hj => ?_⟩
  rw [if_neg (by omega), if_neg (by omega)]
  unfold madeCells
  have e1 : j * 2 % 2 = 0 := by omega
  have e2 : (j * 2 + 1) % 2 = 1 := by omega
  constructor
  · rw [Array.getElem?_map, Array.getElem?_range, if_pos (by omega)]; simp
  · rw [Array.getElem?_map, Array.getElem?_range, if_pos (by omega)]; simp [e2]
theorem CsK.skip {cs : Array Value} {L : List Nat} {k : Nat} (h : CsK cs L k) (h0 : len L k = 0) : CsK cs L (k + 1) := by
  refine ⟨h.1, fun j hj => ?_⟩
  have h1 := h.2 j hj
  by_cases e : j = k
  · subst e
    rw [if_neg (by omega), if_neg (by omega)] at h1
    rw [if_pos (by omega), if_pos (by omega)]
    simpa [code, h0, tr] using h1
  · have : (j < k + 1) = (j < k) := by simp; omega
    simpa only [this] using h1
theorem CsK.take {cs : Array Value} {L : List Nat} {k : Nat} (h : CsK cs L k) (hk : k < L.length) :
    CsK ((cs.setIfInBounds (k * 2) (.int .u32 (code L k))).setIfInBounds (k * 2 + 1) (.int .i64 (len L k))) L (k + 1) := by
  refine ⟨by simpa using h.1, fun j hj => ?_⟩
  have hs := h.1
  simp only [Array.getElem?_setIfInBounds, Array.size_setIfInBounds]
  by_cases e : j = k
  · subst e
    simp [hs]
    omega
  · have a1 : ¬ k * 2 + 1 = j * 2 := by omega
    have a2 : ¬ k * 2 = j * 2 := by omega
    have a3 : ¬ k * 2 + 1 = j * 2 + 1 := by omega
    have a4 : ¬ k * 2 = j * 2 + 1 := by omega
    have h1 := h.2 j hj
    have : (j < k + 1) = (j < k) := by simp; omega
    simp only [if_neg a1, if_neg a2, if_neg a3, if_neg a4, this]
    exact h1
theorem CsK.cds {w : World} {b : Nat} {cs : Array Value} {L : List Nat} (hb : Blk w b cs 106) (h : CsK cs L L.length) (hm : L.length ≤ maxLen) : Cds w (.slice (some ⟨b, 0, none⟩) L.length L.length) L := by
  refine ⟨_, _, rfl, Nat.le_refl _, hm, by simp, ?_⟩
  intro x hx i hi j hj
  obtain rfl : _ = x := Option.some.inj hx
  have h1 := h.2 i hi
  rw [if_pos hi, if_pos hi] at h1
  have e : ∀ m, ((⟨b, 0, none⟩ : Addr).add m) = ⟨b, m, none⟩ := fun m => by cases m <;> simp [Addr.add]
  rw [e]
  obtain rfl | rfl : j = 0 ∨ j = 1 := by omega
  · rw [Nat.add_zero, hb.cell (i * 2) _ h1.1]; simp
  · rw [hb.cell (i * 2 + 1) _ h1.2]; simp
set_option maxHeartbeats 2000000 in
theorem codes_err (w : World) (v : Value) (zs : List Int) (h : Is .i64 w v zs) (h0 : werr zs ≠ 0) : Calls Tryz.prog 99 #[v] w fun e w' => e = .returned (.tuple #[.slice none 0 0, .int .i64 (werr zs)]) ∧ Keep [] w w' := by
  have HC := Lib.hid (can_check w v zs h)
  by_cases h5 : chk zs = 5
  · have n5 : (((chk zs : Nat) : Int) == 5) = true := by simp; omega
    have hw : Hid (werr zs = 2) := by unfold Hid werr; rw [if_pos h5]
    generalize chk zs = ck at n5 HC
    clear h5 h h0
    go_enter Tryz.func99, Tryz.ntmps99
    go_wp2_with fail
    refine HC.out.mono ?_; rintro e w1 ⟨rfl, k1⟩
    go_wp2_with fail
    go_ret2
    exact ⟨by rw [hw.out]; rfl, k1⟩
  · have h2 : chk zs = 2 := by
      unfold werr at h0
      rw [if_neg h5] at h0
      by_cases e : chk zs = 2
      · exact e
      · rw [if_neg e] at h0; omega
    have n5 : (((chk zs : Nat) : Int) == 5) = false := by simp; omega
    have n2 : (((chk zs : Nat) : Int) == 2) = true := by simp; omega
    have hw : Hid (werr zs = 6) := by unfold Hid werr; rw [if_neg h5, if_pos h2]
    generalize chk zs = ck at n5 n2 HC
    clear h5 h2 h h0
    go_enter Tryz.func99, Tryz.ntmps99
    go_wp2_with fail
    refine HC.out.mono ?_; rintro e w1 ⟨rfl, k1⟩
    go_wp2_with fail
    go_ret2
    exact ⟨by rw [hw.out]; rfl, k1⟩
set_option maxRecDepth 100000 in
set_option maxHeartbeats 4000000 in
theorem cancodes_ok (w : World) (v : Value) (zs : List Int) (h : Is .i64 w v zs) (h0 : werr zs = 0) : Calls Tryz.prog 99 #[v] w fun e w' => ∃ v', e = .returned (.tuple #[v', .int .i64 0]) ∧ Cds w' v' (Ln zs) ∧ Keep [] w w' ∧ ∀ b, v'.ownBlock = some b → w.heap.size ≤ b := by
  obtain ⟨hm, hwt⟩ := werr_ok h0
  have hL := may_Ln hm
  have hlen : zs.length ≤ 4096 := ((may_iff zs).1 hm).1
  have HG := Lib.hid (fun i hi => may_get hm i hi)
  have n5 : (((chk zs : Nat) : Int) == 5) = false := by
    by_cases e : chk zs = 5
    · unfold werr at h0; rw [if_pos e] at h0; omega
    · simp; omega
  have n2 : (((chk zs : Nat) : Int) == 2) = false := by
    by_cases e : chk zs = 2
    · unfold werr at h0; rw [e] at h0; simp at h0
    · simp; omega
  have hN := Ln_length zs
  have HC := Lib.hid (can_check w v zs h)
  have HK := Lib.hid (fun w1 (k : Keep [] w w1) => counts_c w1 v zs (h.keep k (by simp)) hm)
  have HF := Lib.hid (fun w => firsts_c w (Ln zs) (fst_le zs hm) (by rw [hN]; exact hlen))
  have hmk := fun w' => run_make_codes w' zs.length hlen
  have HI := Lib.hid (fun i hi => h.at i hi)
  have HWL := Lib.hid (fun i hi => wd_lt (Ln zs) i hi hL hwt)
  have hz := (zero_of_info (P := Tryz.prog) lenInfo).1
  rw [← BL_zero] at hz
  generalize hZ : BL (fun _ => 0) = Z at hz
  have hz17 : Z.size = 17 := by rw [← hZ, BL_size]
  clear hZ
  obtain ⟨a, cap, rfl, _, _⟩ := h.shape
  generalize chk zs = ck at n5 n2 HC
  generalize Ln zs = L at hL hwt HG hN HK HF HWL ⊢
  have HN := Lib.hid hN; clear hN hm h0 h hL hwt
  go_enter Tryz.func99, Tryz.ntmps99
  go_wp2_with fail
  refine HC.out.mono ?_; rintro e w1 ⟨rfl, k1⟩
  go_wp2_with fail
  refine (HK.out _ k1).mono ?_; rintro e w2 ⟨rfl, k2⟩
  have K2 := k1.trans k2 (by simp)
  go_wp2_with fail
  refine (HF.out w2).mono ?_; rintro e w3 ⟨rfl, k3⟩
  have K3 := K2.trans k3 (by simp)
  clear k1 k2 k3 K2
  have hb0 := Blk.new w3 Z 149
  go_wp2_with (refine wpList_storeL rfl _ _ rfl _ _ rfl rfl _ _ hb0 hz17 ?_)
  have hb1 := (hb0.setRow (BL (fst L))).alloc (.cells (madeCells #[.int .u32 0, .int .i64 0] (zs.length * 2)) 106)
  have hb2 : Blk (((w3.alloc (.cells Z 149)).setRow w3.heap.size (BL (fst L))).alloc (.cells (madeCells #[.int .u32 0, .int .i64 0] (zs.length * 2)) 106)) (w3.heap.size + 1) (madeCells #[.int .u32 0, .int .i64 0] (zs.length * 2)) 106 := by
    have := Blk.new ((w3.alloc (.cells Z 149)).setRow w3.heap.size (BL (fst L))) (madeCells #[.int .u32 0, .int .i64 0] (zs.length * 2)) 106
    simpa using this
  have K4 : Keep [] w (((w3.alloc (.cells Z 149)).setRow w3.heap.size (BL (fst L))).alloc (.cells (madeCells #[.int .u32 0, .int .i64 0] (zs.length * 2)) 106)) :=
    ((K3.alloc _).trans (Keep.setRow _) (fun x hx => .inr (by simp at hx; have := K3.size; omega))).alloc _
  generalize ((w3.alloc (.cells Z 149)).setRow w3.heap.size (BL (fst L))).alloc (.cells (madeCells #[.int .u32 0, .int .i64 0] (zs.length * 2)) 106) = w4 at hb1 hb2 K4 ⊢
  have hg0 := K3.size
  have HCM := Lib.hid (CsK.made L)
  clear hb0 K3
  generalize w3.heap.size = nb at hb1 hb2 hg0 ⊢
  go_loopw [22] (fun i wr => ∃ (k : Nat) (cs : Array Value), k ≤ zs.length ∧ i = .int .i64 k ∧ Blk wr nb (BL (nx L k)) 149 ∧ Blk wr (nb + 1) cs 106 ∧ Hid (CsK cs L k) ∧ Keep [] w wr) (fun i _ => zs.length - (intOf i).toNat)
  case atStart => exact ⟨0, _, by omega, rfl, by rw [nx_zero]; exact hb1, hb2, by have := HCM.out; rw [HN.out] at this; exact this, K4⟩
  case round =>
    clear hb1 hb2 K4
    obtain ⟨k, cs, hk, rfl, hb1, hb2, HCs, K⟩ := hrel
    by_cases hlt : k < zs.length
    · obtain ⟨b, off, cap', hv, e1⟩ := HI.out k hlt
      simp only [Value.slice.injEq] at hv
      obtain ⟨rfl, hvv, rfl⟩ := hv
      clear hvv
      obtain ⟨g1, g2⟩ := HG.out k hlt
      rw [g1] at e1
      have e2 := K.cellW e1
      have hkL : k < L.length := by rw [HN.out]; exact hlt
      clear g1 e1
      by_cases h0 : len L k = 0
      · have hs := nx_skip L k hkL h0
        have HC2 : Hid (CsK cs L (k + 1)) := HCs.out.skip h0
        rw [← hs] at hb1
        rw [h0] at e2
        clear hs h0 HCs g2
        go_wp2_with fail
        go_roundw
        case rel => exact ⟨k + 1, cs, by omega, by go_num, hb1, hb2, HC2, K⟩
        case measure => simp [intOf]; omega
      · have hpos : 0 < len L k := by omega
        have hwl := HWL.out k hkL hpos
        have hw2 : wd L k < 65536 := Nat.lt_of_lt_of_le hwl (Nat.pow_le_pow_right (by decide) g2)
        have c0 := hb1.cell (len L k) _ (BL_get _ _ (by omega))
        rw [nx_at L k hpos] at c0
        have f0 := hb1.free (len L k)
        have HNX : Hid ((fun i => if i = len L k then wd L k + 1 else nx L k i) = nx L (k + 1)) := nx_take L k hkL hpos
        have hg1 : w.heap.size ≤ nb + 1 := by omega
        have ht := turn_code (wd L k) (len L k) g2
        have HT := Lib.hid (fun w => turn_c (wd L k) (len L k) w (by omega))
        rw [ht, show tr (len L k) (wd L k) 0 = code L k from rfl] at HT
        have hsz := HCs.out.1
        have HC2 : Hid (CsK _ L (k + 1)) := HCs.out.take hkL
        have s0 : k * 2 < cs.size := by rw [hsz]; omega
        have s1 : k * 2 + 1 < cs.size := by rw [hsz]; omega
        have d0 := hb2.cell (k * 2) _ (Array.getElem?_eq_getElem s0)
        have d1 := hb2.cell (k * 2 + 1) _ (Array.getElem?_eq_getElem s1)
        have p0 := hb2.free (k * 2)
        have p1 := hb2.free (k * 2 + 1)
        have hm1 : (0 : Int) < len L k := by omega
        generalize hzz : len L k = z at *
        generalize hyy : wd L k = y at *
        generalize hcc : code L k = cd at *
        clear ht hwl hsz HCs hzz hyy hcc h0
        go_wp2_with fail
        refine (HT.out _).mono ?_; rintro e w6 ⟨rfl, rfl⟩
        go_wp2_with fail
        go_roundw
        case rel =>
          refine ⟨k + 1, _, by omega, by go_num, ?_, ?_, HC2, ((K.setCell (.inr hg1) _).setCell (.inr hg1) _).setCell (.inr hg0) _⟩
          · have := ((hb1.other (p := ⟨nb + 1, k * 2, none⟩) (by simp) (.int .u32 cd)).other (p := ⟨nb + 1, k * 2 + 1, none⟩) (by simp) (.int .i64 z)).set z (.int .i64 (y + 1 : Nat))
            rw [BL_set _ _ _ (by omega), HNX.out] at this
            exact this
          · exact ((hb2.set (k * 2) (.int .u32 cd)).set (k * 2 + 1) (.int .i64 z)).other (p := ⟨nb, z, none⟩) (by simp) _
        case measure => simp [intOf]; omega
    · obtain rfl : k = zs.length := by omega
      have hcds := CsK.cds (L := L) hb2 (by rw [HN.out]; exact HCs.out) (by rw [HN.out]; unfold maxLen; omega)
      rw [HN.out] at hcds
      go_wp2_with fail
      go_ret2
      exact ⟨_, rfl, hcds, K, fun b hb => by simp [Value.ownBlock] at hb; omega⟩
theorem can_codes (w : World) (v : Value) (zs : List Int) (h : Is .i64 w v zs) : Calls Tryz.prog 99 #[v] w fun e w' => ∃ v', e = .returned (.tuple #[v', .int .i64 (werr zs)]) ∧ Cds w' v' (Lw zs) ∧ Keep [] w w' ∧ (∀ b, v'.ownBlock = some b → w.heap.size ≤ b) ∧ (werr zs ≠ 0 → v' = .slice none 0 0) := by
  unfold Lw
  by_cases h0 : werr zs = 0
  · rw [if_pos h0]
    refine (cancodes_ok w v zs h h0).mono ?_
    rintro e w' ⟨v', rfl, a, b, c⟩
    exact ⟨v', by rw [h0]; rfl, a, b, c, fun h => absurd h0 h⟩
  · rw [if_neg h0]
    refine (codes_err w v zs h h0).mono ?_
    rintro e w' ⟨rfl, b⟩
    exact ⟨_, rfl, Cds.nix _, b, by simp [Value.ownBlock], fun _ => rfl⟩
end Go.Proofs.YtokfcgloogdeiaaGreatDoor
namespace Go.Proofs.YtokfcgloogdeiaaGreatDoor
set_option linter.unusedVariables false
set_option linter.unusedSimpArgs false
open Go.ChangeShapes Go.WideShapes Go.ChangeAt Go.RowKit

/-- the cells of a Decoder -/
def DC (b : Bool) (lg : Int) (f g h : Nat → Nat) (sy : Value) (sh : List Value) : List Value :=
  .bool b :: .int .i64 lg :: ((List.range 17).map fun n => Value.int .i64 (f n)) ++ ((List.range 17).map fun n => Value.int .i64 (g n)) ++ ((List.range 17).map fun n => Value.int .i64 (h n)) ++ sy :: sh
/-- the cells of a Decoder that New did not make -/
def pz : Array Value := (DC false 0 (fun _ => 0) (fun _ => 0) (fun _ => 0) (.slice none 0 0) (List.replicate 1024 (.int .i16 0))).toArray
set_option maxRecDepth 100000 in
theorem decInfo : (Tryz.prog.info? 155).map (fun i => (i.zero, i.size)) = some (some (.agg pz), 1078) := by kernel_rfl
set_option maxRecDepth 100000 in
theorem decBuilt (lg : Int) (f g h : Nat → Nat) : Tryz.prog.built 155 [(0, .bool true), (1, .int .i64 lg), (2, .agg (BL f)), (3, .agg (BL g)), (4, .agg (BL h))] = some (DC true lg f g h (.slice none 0 0) (List.replicate 1024 (.int .i16 0))).toArray := by kernel_rfl
theorem same_res (x a c q : Nat) (h1 : x % q = c) (h2 : a % q = c) (h3 : a ≤ x) (h4 : x < a + q) : x = a := by
  have := Nat.sub_mod_eq_zero_of_mod_eq (h1.trans h2.symm)
  rw [Nat.mod_eq_of_lt (by omega)] at this
  omega
/-- the cells from cs on: bits that begin with the word cd of n bits, below a, tell symbol s -/
def Laid (cs cs' : Array Value) (s cd n a : Nat) : Prop := cs'.size = cs.size ∧ (∀ i, i < 54 → cs'[i]? = cs[i]?) ∧
  ∀ x, x < 512 → ((x % 2 ^ n = cd ∧ x < a) → cs'[54 + x * 2]? = some (.int .i16 s) ∧ cs'[54 + x * 2 + 1]? = some (.int .i16 n)) ∧
    (¬ (x % 2 ^ n = cd ∧ x < a) → cs'[54 + x * 2]? = cs[54 + x * 2]? ∧ cs'[54 + x * 2 + 1]? = cs[54 + x * 2 + 1]?)
theorem Laid.start (cs : Array Value) (s cd n : Nat) (h : cd < 2 ^ n) : Laid cs cs s cd n cd :=
  ⟨rfl, fun _ _ => rfl, fun x hx => ⟨fun ⟨h1, h2⟩ => by
    have := Nat.mod_le x (2 ^ n)
    omega, fun _ => ⟨rfl, rfl⟩⟩⟩
theorem Laid.step {cs cs' : Array Value} {s cd n a : Nat} (h : Laid cs cs' s cd n a) (hs : cs.size = 1078) (ha : a < 512) (hr : a % 2 ^ n = cd) :
    Laid cs ((cs'.setIfInBounds (54 + a * 2) (.int .i16 s)).setIfInBounds (54 + a * 2 + 1) (.int .i16 n)) s cd n (a + 2 ^ n) := by
  obtain ⟨h1, h2, h3⟩ := h
  refine ⟨by simpa using h1, fun i hi => ?_, fun x hx => ?_⟩
  · rw [Array.getElem?_setIfInBounds, if_neg (by omega), Array.getElem?_setIfInBounds, if_neg (by omega)]
    exact h2 i hi
  · obtain ⟨h4, h5⟩ := h3 x hx
    have hq : 0 < 2 ^ n := Nat.two_pow_pos n
    by_cases e : x = a
    · subst e
      refine ⟨fun _ => ?_, fun hn => absurd ⟨hr, by omega⟩ hn⟩
      simp only [Array.getElem?_setIfInBounds, Array.size_setIfInBounds]
      simp [h1, hs]; omega
    · have g1 : ¬ 54 + a * 2 + 1 = 54 + x * 2 := by omega
      have g2 : ¬ 54 + a * 2 = 54 + x * 2 := by omega
      have g3 : ¬ 54 + a * 2 + 1 = 54 + x * 2 + 1 := by omega
      have g4 : ¬ 54 + a * 2 = 54 + x * 2 + 1 := by omega
      simp only [Array.getElem?_setIfInBounds, Array.size_setIfInBounds, if_neg g1, if_neg g2, if_neg g3, if_neg g4]
      refine ⟨fun ⟨a1, a2⟩ => h4 ⟨a1, ?_⟩, fun hn => h5 fun ⟨a1, a2⟩ => hn ⟨a1, by omega⟩⟩
      rcases Nat.lt_or_ge x a with h | h
      · exact h
      · exact absurd (same_res x a cd _ a1 hr h a2) e
set_option maxRecDepth 100000 in
set_option maxHeartbeats 4000000 in
theorem layshort_c (w : World) (q : Nat) (cs : Array Value) (s cd n : Nat) (hb : Blk w q cs 155) (hsz : cs.size = 1078) (hs : s < 4096) (hn0 : 0 < n) (hn : n ≤ 16) (hcd : cd < 2 ^ n) :
    Calls Tryz.prog 104 #[.pointer (some ⟨q, 0, none⟩), .int .i64 s, .agg #[.int .u32 cd, .int .i64 n]] w fun e w' => e = .returned (.tuple #[]) ∧ Keep [q] w w' ∧ ∃ cs', Blk w' q cs' 155 ∧ (n ≤ 9 → Laid cs cs' s cd n 512) ∧ (9 < n → cs' = cs) := by
  have KA : Keep [q] w (w.alloc (.cells #[.int .u32 cd, .int .i64 n] 106)) := (Keep.refl [q] w).alloc _
  have hA := hb.alloc (.cells #[.int .u32 cd, .int .i64 n] 106)
  have hB := Blk.new w #[.int .u32 cd, .int .i64 n] 106
  have hq := hb.lt
  have b0 := hB.cell 0 _ rfl
  have b1 := hB.cell 1 _ rfl
  by_cases h9 : 9 < n
  · have h9' : decide ((9 : Int) < n) = true := by simp; omega
    go_enter Tryz.func104, Tryz.ntmps104
    go_wp2_with fail
    refine bodyPost_ret (results_none rfl _ _ _) rfl ?_
    exact ⟨rfl, KA, cs, hA, fun h => absurd h (by omega), fun _ => rfl⟩
  · have h16 : 2 ^ n ≤ 512 := Nat.pow_le_pow_right (n := 2) (j := 9) (by decide) (by omega)
    have HLs := Lib.hid (Laid.start cs s cd n hcd)
    have HST := Lib.hid (fun cs' a => @Laid.step cs cs' s cd n a)
    have hp : 0 < 2 ^ n := Nat.two_pow_pos n
    have hsh : (2 : Int) ^ n = ((2 ^ n : Nat) : Int) := by simp
    have HMOD := Lib.hid (fun a => Nat.add_mod_right a (2 ^ n))
    have HM0 := Lib.hid (Nat.mod_eq_of_lt hcd)
    clear hb
    generalize hQ : 2 ^ n = Q at *
    go_enter Tryz.func104, Tryz.ntmps104
    go_wp2_with fail
    generalize w.alloc (.cells #[.int .u32 cd, .int .i64 n] 106) = wA at KA hA hB b0 b1 ⊢
    go_loopw [6] (fun i wr => ∃ (a : Nat) (cs' : Array Value), a ≤ 1024 ∧ i = .int .i64 a ∧ Hid (a % Q = cd) ∧ Hid (Laid cs cs' s cd n a) ∧ Blk wr q cs' 155 ∧ Blk wr w.heap.size #[.int .u32 cd, .int .i64 n] 106 ∧ Keep [q] w wr) (fun i _ => 1024 - (intOf i).toNat)
    case atStart => exact ⟨cd, cs, by omega, rfl, HM0.out, HLs.out, hA, hB, KA⟩
    case round =>
      clear hA hB b0 b1 KA
      obtain ⟨a, cs', ha, rfl, HR, HL, hA, hB, KA⟩ := hrel
      by_cases hlt : a < 512
      · have b1 := hB.cell 1 _ rfl
        have HL2 := Lib.hid (HST.out cs' a HL.out hsz hlt HR.out)
        have HR2 : Hid ((a + Q) % Q = cd) := by unfold Hid; rw [HMOD.out]; exact HR.out
        have hsz' : cs'.size = 1078 := by rw [HL.out.1]; exact hsz
        have hd512 : (a : Int) < 512 := by omega
        have hw1 : IntKind.i16.wrap (s : Int) = s := by rw [IntKind.wrap]; simp [IntKind.bits, IntKind.signed]; omega
        have hw2 : IntKind.i16.wrap (n : Int) = n := by rw [IntKind.wrap]; simp [IntKind.bits, IntKind.signed]; omega
        have hA1 := hA.keep ((Keep.refl [] wr).drew) (by simp)
        have hB1 := hB.keep ((Keep.refl [] wr).drew) (by simp)
        have K1 := KA.drew
        clear HL HR
        go_wp2_with fail
        go_still_tail 11, (by kernel_rfl)
        change wpList _ _ _ _ _ wr.drew
        generalize wr.drew = w2 at hA1 hB1 K1 ⊢
        have d0 := hA1.cell (54 + a * 2) _ (Array.getElem?_eq_getElem (by omega))
        have d1 := hA1.cell (54 + a * 2 + 1) _ (Array.getElem?_eq_getElem (by omega))
        have p0 := hA1.free (54 + a * 2)
        have p1 := hA1.free (54 + a * 2 + 1)
        have hA2 := (hA1.set (54 + a * 2) (.int .i16 s)).set (54 + a * 2 + 1) (.int .i16 n)
        have hqw : w.heap.size ≠ q := by omega
        have hB2 := (hB1.other (p := ⟨q, 54 + a * 2, none⟩) hqw (.int .i16 s)).other (p := ⟨q, 54 + a * 2 + 1, none⟩) hqw (.int .i16 n)
        have K2 := (K1.setCell (p := ⟨q, 54 + a * 2, none⟩) (by simp) (.int .i16 s)).setCell (p := ⟨q, 54 + a * 2 + 1, none⟩) (by simp) (.int .i16 n)
        have b2 := hB2.cell 1 _ rfl
        clear hA1 hB1 K1 b1 hA hB KA
        go_wp2_with fail
        go_roundw
        case rel => exact ⟨a + Q, _, by omega, by go_num, HR2, HL2, hA2, hB2, K2⟩
        case measure => simp [intOf]; omega
      · have hd512 : ¬ (a : Int) < 512 := by omega
        have HE : Hid (Laid cs cs' s cd n 512) := by
          obtain ⟨h1, h2, h3⟩ := HL.out
          refine ⟨h1, h2, fun x hx => ?_⟩
          obtain ⟨h4, h5⟩ := h3 x hx
          exact ⟨fun ⟨a1, a2⟩ => h4 ⟨a1, by omega⟩, fun hn => h5 fun ⟨a1, a2⟩ => hn ⟨a1, hx⟩⟩
        clear HL HR hlt
        go_wp2_with fail
        go_end0
        first | exact ⟨rfl, KA, cs', hA, fun _ => HE.out, fun h => absurd h h9⟩ | exact ⟨rfl, KA, cs', hA, fun _ => HE.out⟩
end Go.Proofs.YtokfcgloogdeiaaGreatDoor
namespace Go.Proofs.YtokfcgloogdeiaaGreatDoor
set_option linter.unusedVariables false
set_option linter.unusedSimpArgs false
open Go.ChangeShapes Go.WideShapes Go.ChangeAt Go.RowKit

/-- a decoder's head: what is known of the lengths -/
def Hd (cs : Array Value) (L : List Nat) : Prop := cs.size = 1078 ∧ cs[0]? = some (.bool true) ∧ cs[1]? = some (.int .i64 (longest L)) ∧
  ∀ n, n < 17 → cs[2 + n]? = some (.int .i64 (cnt L n)) ∧ cs[19 + n]? = some (.int .i64 (fst L n)) ∧ cs[36 + n]? = some (.int .i64 (stt L n))
/-- how many symbols have words -/
def syN (L : List Nat) : Nat := stt L (longest L) + cnt L (longest L)
/-- the place of a symbol's word among all -/
def syAt (L : List Nat) (i : Nat) : Nat := stt L (len L i) + rk L i
theorem stt_mono (L : List Nat) (a b : Nat) (h : a ≤ b) : stt L a ≤ stt L b := by
  induction b with
  | zero => obtain rfl : a = 0 := by omega
            exact Nat.le_refl _
  | succ b ih =>
    by_cases e : a = b + 1
    · subst e; exact Nat.le_refl _
    · have := ih (by omega); rw [stt]; omega
theorem rk_lt_cnt (L : List Nat) (i : Nat) (hi : i < L.length) (h : 0 < len L i) : rk L i < cnt L (len L i) := by
  unfold cnt; rw [if_neg (by omega)]; exact rk_lt L i hi
theorem syAt_lt (L : List Nat) (i : Nat) (hi : i < L.length) (h : 0 < len L i) : syAt L i < syN L := by
  have h1 := rk_lt_cnt L i hi h
  have h2 := stt_mono L (len L i + 1) (longest L + 1) (by have := longest_ge L i; omega)
  rw [stt, stt] at h2
  unfold syAt syN; omega
theorem syAt_ne (L : List Nat) (i k : Nat) (hik : i < k) (hk : k < L.length) (h : 0 < len L i) (h' : 0 < len L k) : syAt L i ≠ syAt L k := by
  have h1 := rk_lt_cnt L i (by omega) h
  have h2 := rk_lt_cnt L k hk h'
  unfold syAt
  rcases Nat.lt_trichotomy (len L i) (len L k) with e | e | e
  · have := stt_mono L (len L i + 1) (len L k) e
    rw [stt] at this; omega
  · have h3 := count_take_lt L i k (len L i) hik (by omega) rfl
    unfold rk
    rw [← e]; omega
  · have := stt_mono L (len L k + 1) (len L i) e
    rw [stt] at this; omega
/-- the symbols' row, k symbols on -/
def Sy (ss : Array Value) (L : List Nat) (k : Nat) : Prop := ss.size = syN L ∧ ∀ i, i < k → i < L.length → 0 < len L i → ss[syAt L i]? = some (.int .i64 i)
theorem Sy.skip {ss : Array Value} {L : List Nat} {k : Nat} (h : Sy ss L k) (h0 : len L k = 0) : Sy ss L (k + 1) :=
  ⟨h.1, fun i hi hl hp => h.2 i (by by_cases e : i = k; (subst e; omega); omega) hl hp⟩
theorem Sy.take {ss : Array Value} {L : List Nat} {k : Nat} (h : Sy ss L k) (hk : k < L.length) (h0 : 0 < len L k) : Sy (ss.setIfInBounds (syAt L k) (.int .i64 k)) L (k + 1) := by
  refine ⟨by simpa using h.1, fun i hi hl hp => ?_⟩
  rw [Array.getElem?_setIfInBounds]
  by_cases e : i = k
  · subst e
    rw [if_pos rfl, if_pos (by rw [h.1]; exact syAt_lt L i hk h0)]
  · rw [if_neg (fun e2 => syAt_ne L i k (by omega) hk hp h0 e2.symm)]
    exact h.2 i (by omega) hl hp
/-- what is looked up at once, k symbols on -/
def ShT (cs : Array Value) (L : List Nat) (k : Nat) : Prop := ∀ x, x < 512 →
  (∃ i, i < k ∧ i < L.length ∧ 0 < len L i ∧ len L i ≤ 9 ∧ x % 2 ^ len L i = code L i ∧ cs[54 + x * 2]? = some (.int .i16 i) ∧ cs[54 + x * 2 + 1]? = some (.int .i16 (len L i))) ∨
  ((∀ i, i < k → i < L.length → 0 < len L i → len L i ≤ 9 → x % 2 ^ len L i ≠ code L i) ∧ cs[54 + x * 2]? = some (.int .i16 0) ∧ cs[54 + x * 2 + 1]? = some (.int .i16 0))
theorem ShT.skip {cs : Array Value} {L : List Nat} {k : Nat} (h : ShT cs L k) (h0 : len L k = 0 ∨ 9 < len L k) : ShT cs L (k + 1) := by
  intro x hx
  rcases h x hx with ⟨i, h1, h2⟩ | ⟨h1, h2⟩
  · exact .inl ⟨i, by omega, h2⟩
  · refine .inr ⟨fun i hi => ?_, h2⟩
    by_cases e : i = k
    · subst e; omega
    · exact h1 i (by omega)
theorem ShT.take {cs cs' : Array Value} {L : List Nat} {k : Nat} (h : ShT cs L k) (hk : k < L.length) (h0 : 0 < len L k) (h9 : len L k ≤ 9) (hl : Laid cs cs' k (code L k) (len L k) 512) : ShT cs' L (k + 1) := by
  intro x hx
  obtain ⟨h1, h2⟩ := hl.2.2 x hx
  by_cases e : x % 2 ^ len L k = code L k
  · exact .inl ⟨k, by omega, hk, h0, h9, e, h1 ⟨e, hx⟩⟩
  · obtain ⟨e1, e2⟩ := h2 (fun h => e h.1)
    rw [e1, e2]
    rcases h x hx with ⟨i, h1, h2⟩ | ⟨h1, h2⟩
    · exact .inl ⟨i, by omega, h2⟩
    · refine .inr ⟨fun i hi => ?_, h2⟩
      by_cases e' : i = k
      · subst e'; exact fun _ _ _ => e
      · exact h1 i (by omega)
theorem Hd.laid {cs cs' : Array Value} {L : List Nat} {s cd n a : Nat} (h : Hd cs L) (hl : Laid cs cs' s cd n a) : Hd cs' L := by
  obtain ⟨h1, h2, h3, h4⟩ := h
  refine ⟨by rw [hl.1, h1], by rw [hl.2.1 0 (by omega), h2], by rw [hl.2.1 1 (by omega), h3], fun n hn => ?_⟩
  rw [hl.2.1 _ (by omega), hl.2.1 _ (by omega), hl.2.1 _ (by omega)]
  exact h4 n hn
theorem Hd.sy {cs : Array Value} {L : List Nat} (h : Hd cs L) (u : Value) : Hd (cs.setIfInBounds 53 u) L := by
  obtain ⟨h1, h2, h3, h4⟩ := h
  refine ⟨by simpa using h1, ?_, ?_, fun n hn => ?_⟩
  · rw [Array.getElem?_setIfInBounds, if_neg (by omega), h2]
  · rw [Array.getElem?_setIfInBounds, if_neg (by omega), h3]
  · simp only [Array.getElem?_setIfInBounds, if_neg (show ¬ 53 = 2 + n by omega), if_neg (show ¬ 53 = 19 + n by omega), if_neg (show ¬ 53 = 36 + n by omega)]
    exact h4 n hn
theorem ShT.sy {cs : Array Value} {L : List Nat} {k : Nat} (h : ShT cs L k) (u : Value) : ShT (cs.setIfInBounds 53 u) L k := by
  intro x hx
  simp only [Array.getElem?_setIfInBounds, if_neg (show ¬ 53 = 54 + x * 2 by omega), if_neg (show ¬ 53 = 54 + x * 2 + 1 by omega)]
  exact h x hx
def r1024 : List Value := List.replicate 1024 (Value.int .i16 0)
theorem r1024_len : r1024.length = 1024 := by unfold r1024; exact List.length_replicate
theorem r1024_get (j : Nat) (h : j < 1024) : r1024[j]? = some (.int .i16 0) := by unfold r1024; rw [List.getElem?_replicate, if_pos h]
def dcl (L : List Nat) : List Value := DC true (longest L) (cnt L) (fst L) (stt L) (.slice none 0 0) []
def dc0 (L : List Nat) : Array Value := (dcl L ++ r1024).toArray
theorem dcl_len (L : List Nat) : (dcl L).length = 54 := rfl
theorem dcl_head (L : List Nat) : (dcl L)[0]? = some (.bool true) ∧ (dcl L)[1]? = some (.int .i64 (longest L)) ∧ ∀ n, n < 17 → (dcl L)[2 + n]? = some (.int .i64 (cnt L n)) ∧ (dcl L)[19 + n]? = some (.int .i64 (fst L n)) ∧ (dcl L)[36 + n]? = some (.int .i64 (stt L n)) := by
  refine ⟨rfl, rfl, fun n hn => ?_⟩
  obtain rfl | rfl | rfl | rfl | rfl | rfl | rfl | rfl | rfl | rfl | rfl | rfl | rfl | rfl | rfl | rfl | rfl : n = 0 ∨ n = 1 ∨ n = 2 ∨ n = 3 ∨ n = 4 ∨ n = 5 ∨ n = 6 ∨ n = 7 ∨ n = 8 ∨ n = 9 ∨ n = 10 ∨ n = 11 ∨ n = 12 ∨ n = 13 ∨ n = 14 ∨ n = 15 ∨ n = 16 := by omega
  all_goals exact ⟨rfl, rfl, rfl⟩
theorem dc0_lo (L : List Nat) (i : Nat) (h : i < 54) : (dc0 L)[i]? = (dcl L)[i]? := by
  unfold dc0; rw [List.getElem?_toArray, List.getElem?_append_left (by rw [dcl_len]; exact h)]
theorem dc0_hi (L : List Nat) (j : Nat) (h : j < 1024) : (dc0 L)[54 + j]? = some (.int .i16 0) := by
  unfold dc0; rw [List.getElem?_toArray, List.getElem?_append_right (by rw [dcl_len]; omega), dcl_len, Nat.add_sub_cancel_left, r1024_get j h]
theorem dc0_hd (L : List Nat) : Hd (dc0 L) L := by
  obtain ⟨h0, h1, h2⟩ := dcl_head L
  refine ⟨by unfold dc0; rw [List.size_toArray, List.length_append, dcl_len, r1024_len], by rw [dc0_lo _ _ (by omega), h0], by rw [dc0_lo _ _ (by omega), h1], fun n hn => ?_⟩
  rw [dc0_lo _ _ (by omega), dc0_lo _ _ (by omega), dc0_lo _ _ (by omega)]
  exact h2 n hn
theorem dc0_sh (L : List Nat) : ShT (dc0 L) L 0 := fun x hx => .inr ⟨fun i hi => by omega, dc0_hi L _ (by omega), by rw [Nat.add_assoc]; exact dc0_hi L _ (by omega)⟩
set_option maxRecDepth 100000 in
theorem dc0_built (L : List Nat) : Tryz.prog.built 155 [(0, .bool true), (1, .int .i64 (longest L)), (2, .agg (BL (cnt L))), (3, .agg (BL (fst L))), (4, .agg (BL (stt L)))] = some (dc0 L) := decBuilt _ _ _ _
theorem wpQuiet_op {P : Program} {ops : Array Oper} {Q : Act → Prop} {a : Act} {o : Oper} {rest : List Oper} {w : World} (hw : Region.wanted o (yielded ops a.tmps) = true) (v : Value)
    (hl : ∀ p : Kept w, (execOp a.eval o).run P p.x = .ok (.value v) p.x) (h : wpQuiet P ops (fun w' => ∃ p : Kept w, w' = p.x) Q rest (a.put o.dst v)) : wpQuiet P ops (fun w' => ∃ p : Kept w, w' = p.x) Q (o :: rest) a := by
  unfold wpQuiet
  rw [if_pos hw]
  refine ⟨v, ?_, h⟩
  rintro _ ⟨p, rfl⟩
  unfold Oper.quietAt
  rw [hl p]
  exact ⟨rfl, rfl⟩
theorem wpQuiet_build {P : Program} {ops : Array Oper} {Q : Act → Prop} {a : Act} {o : Oper} {rest : List Oper} {w : World} (ty : TypeId) (parts : Array (Nat × Operand)) (ho : o.op = .build ty parts) (hw : Region.wanted o (yielded ops a.tmps) = true)
    (vs : List (Nat × Value)) (hv : (parts.map fun (i, x) => (i, a.eval x)).toList = vs) (c : Array Value) (hc : P.built ty vs = some c)
    (h : wpQuiet P ops (fun w' => ∃ p : Kept w, w' = p.x) Q rest (a.put o.dst (.agg c))) : wpQuiet P ops (fun w' => ∃ p : Kept w, w' = p.x) Q (o :: rest) a := by
  refine wpQuiet_op hw _ (fun p => ?_) h
  have := run_build (P := P) p.x ty (parts.map fun (i, x) => (i, a.eval x)) c (by rw [hv]; exact hc)
  unfold execOp
  simp only [ho, Sem.run_bind, Sem.run_pure, Result.andThen_ok, this]
end Go.Proofs.YtokfcgloogdeiaaGreatDoor
namespace Go.Proofs.YtokfcgloogdeiaaGreatDoor
set_option linter.unusedVariables false
set_option linter.unusedSimpArgs false
open Go.ChangeShapes Go.WideShapes Go.ChangeAt Go.RowKit

theorem infoInt : (Tryz.prog.info? 3).map (fun i => (i.zero.map (·.cells), i.size, i.bytes)) = some (some #[.int .i64 0], 1, 8) := by kernel_rfl
theorem run_make_ints (w : World) (n : Nat) (hn : n ≤ 100000) : (Instr.makeSlice 38 (.int .i64 (n : Int)) (.int .i64 (n : Int))).run Tryz.prog w = .ok (.slice (some ⟨w.heap.size, 0, none⟩) n n) (w.alloc (.cells (madeCells #[.int .i64 0] (n * 1)) 3)) := by
  obtain ⟨i, hi, hzz⟩ := Option.map_eq_some_iff.1 infoInt
  simp only [Prod.mk.injEq] at hzz
  obtain ⟨hz, hs, hb⟩ := hzz
  obtain ⟨z, hz, hzc⟩ := Option.map_eq_some_iff.1 hz
  have := run_make (P := Tryz.prog) (w := w) 38 3 i z Tryz.underlying38 hi hz .i64 .i64 n n (by omega) (by omega) (by rw [hb]; omega) (by omega)
  rw [this, hzc, hs]
  simp
/-- a decoder, k symbols on -/
def Mk (w : World) (q sb nb : Nat) (L : List Nat) (k : Nat) : Prop := ∃ cs ss, Blk w q cs 155 ∧ Hd cs L ∧ cs[53]? = some (.slice (some ⟨sb, 0, none⟩) (syN L) (syN L)) ∧ ShT cs L k ∧ Blk w sb ss 3 ∧ Sy ss L k
def ns (L : List Nat) (k n : Nat) : Nat := stt L n + if n = 0 then 0 else (L.take k).count n
theorem ns_zero (L : List Nat) : ns L 0 = stt L := by funext n; simp [ns]
theorem ns_at (L : List Nat) (k : Nat) (h : 0 < len L k) : ns L k (len L k) = syAt L k := by unfold ns; rw [if_neg (by omega)]; rfl
theorem ns_skip (L : List Nat) (k : Nat) (hk : k < L.length) (h : len L k = 0) : ns L (k + 1) = ns L k := by
  funext n
  unfold ns
  by_cases h0 : n = 0
  · rw [if_pos h0, if_pos h0]
  · rw [if_neg h0, if_neg h0, List.take_succ_eq_append_getElem hk, List.count_append, ← len_get L k hk, h]
    simp [List.count_cons, Ne.symm h0]
theorem ns_take (L : List Nat) (k : Nat) (hk : k < L.length) (h : 0 < len L k) : (fun i => if i = len L k then syAt L k + 1 else ns L k i) = ns L (k + 1) := by
  funext n
  unfold ns
  rw [List.take_succ_eq_append_getElem hk, List.count_append, ← len_get L k hk]
  by_cases h0 : n = len L k
  · subst h0
    rw [if_pos rfl, if_neg (by omega)]
    simp [syAt, rk]; omega
  · rw [if_neg h0]
    by_cases h1 : n = 0
    · rw [if_pos h1, if_pos h1]
    · rw [if_neg h1, if_neg h1]
      simp [List.count_cons, Ne.symm h0]
theorem syN_le (L : List Nat) (h : L.length ≤ 4096) (hl : longest L ≤ 16) : syN L ≤ 17 * 4096 := by
  have h1 := stt_le L (longest L + 1)
  rw [stt] at h1
  unfold syN
  have := Nat.mul_le_mul (show longest L + 1 ≤ 17 by omega) h
  omega
theorem Sy.made (L : List Nat) (N : Nat) (h : syN L = N) : Sy (madeCells #[.int .i64 0] N) L 0 := ⟨by rw [size_madeCells, h], fun i hi => by omega⟩
theorem Hd.start {w : World} {q : Nat} {cs : Array Value} {L : List Nat} (h : Hd cs L) (hb : Blk w q cs 155) : w.rangeAt q 36 ((List.range 17).map fun n => Value.int .i64 (stt L n)) := by
  intro j v hv
  have hj : j < 17 := by
    have := (List.getElem?_eq_some_iff.1 hv).1
    simpa using this
  simp only [List.getElem?_map, List.getElem?_range hj, Option.map_some, Option.some.injEq] at hv
  rw [← hv]
  exact hb.cell (36 + j) _ (h.2.2.2 j hj).2.2
theorem Mk.keep {w w' : World} {q sb nb : Nat} {L S : List Nat} {k : Nat} (h : Mk w q sb nb L k) (K : Keep S w w') (hq : q ∉ S) (hs : sb ∉ S) : Mk w' q sb nb L k := by
  obtain ⟨cs, ss, a, b, c, d, e, f⟩ := h
  exact ⟨cs, ss, a.keep K hq, b, c, d, e.keep K hs, f⟩
theorem Mk.skip {w : World} {q sb nb : Nat} {L : List Nat} {k : Nat} (h : Mk w q sb nb L k) (h0 : len L k = 0) : Mk w q sb nb L (k + 1) := by
  obtain ⟨cs, ss, a, b, c, d, e, f⟩ := h
  exact ⟨cs, ss, a, b, c, d.skip (.inl h0), e, f.skip h0⟩
theorem cannew_err (w : World) (v : Value) (zs : List Int) (h : Is .i64 w v zs) (h0 : werr zs ≠ 0) : Calls Tryz.prog 87 #[v] w fun e w' => e = .returned (.tuple #[.pointer none, .int .i64 (werr zs)]) ∧ Keep [] w w' := by
  have HC := Lib.hid (can_codes w v zs h)
  have hb : (((werr zs : Nat) : Int) != 0) = true := by simp; omega
  generalize werr zs = er at hb HC h0 ⊢
  clear h
  go_enter Tryz.func87, Tryz.ntmps87
  go_wp2_with fail
  refine HC.out.mono ?_; rintro e w1 ⟨v', rfl, _, k1, _, _⟩
  clear HC h0
  go_wp2_with fail
  go_ret2
  exact ⟨rfl, k1⟩
set_option maxRecDepth 100000 in
set_option maxHeartbeats 8000000 in
theorem cannew_ok (w : World) (v : Value) (zs : List Int) (h : Is .i64 w v zs) (h0 : werr zs = 0) : Calls Tryz.prog 87 #[v] w fun e w' => ∃ q sb nb, e = .returned (.tuple #[.pointer (some ⟨q, 0, none⟩), .int .i64 0]) ∧ Keep [] w w' ∧ Mk w' q sb nb (Ln zs) (Ln zs).length ∧ w.heap.size ≤ q ∧ w.heap.size ≤ sb ∧ q ≠ sb := by
  obtain ⟨hm, hwt⟩ := werr_ok h0
  have hL := may_Ln hm
  have hlen : zs.length ≤ 4096 := ((may_iff zs).1 hm).1
  have hN := Ln_length zs
  have HC := Lib.hid (cancodes_ok w v zs h h0)
  have HK := Lib.hid (fun w1 (k : Keep [] w w1) => counts_c w1 v zs (h.keep k (by simp)) hm)
  have HF := Lib.hid (fun w => firsts_c w (Ln zs) (fst_le zs hm) (by rw [hN]; exact hlen))
  have HS := Lib.hid (fun w => starts_c w (Ln zs) (by rw [hN]; exact hlen))
  have HG := Lib.hid (fun w => blongest_c w (Ln zs) hL)
  have hsyn := syN_le (Ln zs) (by rw [hN]; exact hlen) (longest_le _ 16 hL)
  have hlg := longest_le (Ln zs) 16 hL
  have hz := (zero_of_info (P := Tryz.prog) lenInfo).1
  rw [← BL_zero] at hz
  generalize hZ : BL (fun _ => 0) = Z at hz
  have hz17 : Z.size = 17 := by rw [← hZ, BL_size]
  clear hZ
  have HLL := Lib.hid (may_Ln hm)
  obtain ⟨a, cap, rfl, _, _⟩ := h.shape
  generalize Ln zs = L at hL hwt hN HK HF HS HG HC hsyn hlg HLL ⊢
  have HN := Lib.hid hN; clear hN hm h0 h hL
  go_enter Tryz.func87, Tryz.ntmps87
  go_wp2_with fail
  refine HC.out.mono ?_; rintro e w1 ⟨v', rfl, hcd, k1, hfr⟩
  clear HC
  go_wp2_with fail
  refine (HK.out w1 k1).mono ?_; rintro e w2 ⟨rfl, k2⟩
  have K2 : Keep [] w1 w2 := k2
  clear k2 HK
  have hb0 := Blk.new w2 Z 149
  go_wp2_with (refine wpList_storeL rfl _ _ rfl _ _ rfl rfl _ _ hb0 hz17 ?_)
  have hb1 := hb0.setRow (BL (cnt L))
  have K3 : Keep [] w1 ((w2.alloc (.cells Z 149)).setRow w2.heap.size (BL (cnt L))) := (K2.alloc _).trans (Keep.setRow _) (fun x hx => .inr (by simp at hx; have := K2.size; omega))
  generalize (w2.alloc (.cells Z 149)).setRow w2.heap.size (BL (cnt L)) = w3 at hb1 K3 ⊢
  generalize w2.heap.size = cb at hb1 ⊢
  clear hb0 K2
  have hld : ∀ p : Kept w3, (Instr.loadAt 149 (.pointer (some ⟨cb, 0, none⟩))).run Tryz.prog p.x = .ok (.agg (BL (cnt L))) p.x :=
    fun p => (hb1.keep p.h (by simp)).load (P := Tryz.prog) _ Tryz.underlying149 rfl (by rw [BL_size]; exact lenSize)
  have HLD := Lib.hid hld
  clear hld
  refine wp_region_kept_tail 8 (by kernel_rfl) (by kernel_rfl) ?_
  simp only [List.take_succ_cons, List.take_zero, List.drop_succ_cons, List.drop_zero]
  refine wpQuiet_loadA 149 _ rfl rfl _ rfl _ HLD.out ?_
  quiet_step ((go_at_call 101; with_reducible exact kept_of (HG.out _)))
  refine wpQuiet_loadA 149 _ rfl rfl _ rfl _ HLD.out ?_
  refine wpQuiet_loadA 149 _ rfl rfl _ rfl _ HLD.out ?_
  quiet_step ((go_at_call 102; with_reducible exact kept_of (HF.out _)))
  refine wpQuiet_loadA 149 _ rfl rfl _ rfl _ HLD.out ?_
  quiet_step ((go_at_call 103; with_reducible exact kept_of (HS.out _)))
  refine wpQuiet_build 155 _ rfl (by kernel_rfl) [(0, .bool true), (1, .int .i64 (longest L)), (2, .agg (BL (cnt L))), (3, .agg (BL (fst L))), (4, .agg (BL (stt L)))] (by kernel_rfl) (dc0 L) (dc0_built L) ?_
  refine wpQuiet_nil ?_
  rintro _ ⟨⟨w4, k4⟩, rfl⟩
  have K4 := K3.trans k4 (by simp)
  have hb2 := hb1.keep k4 (by simp)
  clear HLD HG HF HS hb1 K3 k4
  rename_i w4
  simp only [Act.put, List.setIfInBounds_toArray, List.set_cons_succ, List.set_cons_zero]
  go_wp2_with fail
  have hq0 := Blk.new w4 (dc0 L) 155
  have hb3 := hb2.alloc (.cells (dc0 L) 155)
  have K5 := K4.alloc (.cells (dc0 L) 155)
  have hcq : cb ≠ w4.heap.size := by have := hb2.lt; omega
  have hq1 : w1.heap.size ≤ w4.heap.size := K4.size
  have hqs : (w4.alloc (.cells (dc0 L) 155)).heap.size = w4.heap.size + 1 := by simp
  generalize w4.alloc (.cells (dc0 L) 155) = w5 at hq0 hb3 K5 hqs ⊢
  generalize w4.heap.size = q at hq0 hcq hq1 hqs ⊢
  clear hb2 K4
  have HH := dc0_hd L
  have d1 := hq0.cell 1 _ HH.2.2.1
  have d2 := hq0.cell (36 + longest L) _ (HH.2.2.2 (longest L) (by omega)).2.2
  have d3 := hb3.cell (longest L) _ (BL_get _ _ (by omega))
  have s1 : 53 < (dc0 L).size := by rw [HH.1]; omega
  have d53 : ∀ o, (w5.alloc o).cell? ⟨q, 53, none⟩ = some ((dc0 L)[53]'s1) := fun o => (hq0.alloc o).cell 53 _ (Array.getElem?_eq_getElem s1)
  have p53 : ∀ o, (w5.alloc o).frozen? ⟨q, 53, none⟩ = false := fun o => (hq0.alloc o).free 53
  have hmk := fun w' => run_make_ints w' (syN L) (by omega)
  have hw1 : IntKind.i64.wrap ((stt L (longest L) : Int) + cnt L (longest L)) = syN L := by
    rw [IntKind.wrap_i64]; unfold syN at hsyn ⊢; omega
  have HSS := Lib.hid hsyn
  have hlgi : (longest L : Int) < 17 := by omega
  generalize hN : syN L = N at hw1 hmk hsyn HSS
  generalize stt L (longest L) = A at d2 hw1
  generalize cnt L (longest L) = B at d3 hw1
  generalize (dc0 L)[53] = c53 at d53
  generalize longest L = lg at d1 d2 d3 hlgi hlg
  clear HH
  go_region
  subst hN
  have hq5 := hq0.lt
  have hS := ((hq0.set 53 (.slice (some ⟨q + 1, 0, none⟩) (syN L) (syN L))).alloc (.cells (madeCells #[.int .i64 0] (syN L)) 3)).keep ((Keep.refl [] _).drew) (by simp)
  have hC := ((hb3.other (p := ⟨q, 53, none⟩) hcq (.slice (some ⟨q + 1, 0, none⟩) (syN L) (syN L))).alloc (.cells (madeCells #[.int .i64 0] (syN L)) 3)).keep ((Keep.refl [] _).drew) (by simp)
  have hY : Blk ((w5.setCell ⟨q, 53, none⟩ (.slice (some ⟨q + 1, 0, none⟩) (syN L) (syN L))).alloc (.cells (madeCells #[.int .i64 0] (syN L)) 3)).drew (q + 1) (madeCells #[.int .i64 0] (syN L)) 3 := by
    have := (Blk.new (w5.setCell ⟨q, 53, none⟩ (.slice (some ⟨q + 1, 0, none⟩) (syN L) (syN L))) (madeCells #[.int .i64 0] (syN L)) 3).keep ((Keep.refl [] _).drew) (by simp)
    simpa [hqs] using this
  have K6 : Keep [] w1 ((w5.setCell ⟨q, 53, none⟩ (.slice (some ⟨q + 1, 0, none⟩) (syN L) (syN L))).alloc (.cells (madeCells #[.int .i64 0] (syN L)) 3)).drew := ((K5.setCell (.inr hq1) _).alloc _).drew
  have hz6 : ((w5.setCell ⟨q, 53, none⟩ (.slice (some ⟨q + 1, 0, none⟩) (syN L) (syN L))).alloc (.cells (madeCells #[.int .i64 0] (syN L)) 3)).drew.heap.size = q + 2 := by simp [World.drew, hqs]
  generalize ((w5.setCell ⟨q, 53, none⟩ (.slice (some ⟨q + 1, 0, none⟩) (syN L) (syN L))).alloc (.cells (madeCells #[.int .i64 0] (syN L)) 3)).drew = w6 at hS hC hY K6 hz6 ⊢
  have h53 : ((dc0 L).setIfInBounds 53 (.slice (some ⟨q + 1, 0, none⟩) (syN L) (syN L)))[53]? = some (.slice (some ⟨q + 1, 0, none⟩) (syN L) (syN L)) := by
    rw [Array.getElem?_setIfInBounds, if_pos rfl, if_pos s1]
  have HMk : Mk w6 q (q + 1) (q + 2) L 0 := ⟨_, _, hS, (dc0_hd L).sy _, h53, (dc0_sh L).sy _, hY, Sy.made L _ rfl⟩
  have HMK := Lib.hid HMk
  have hrng := ((dc0_hd L).sy (.slice (some ⟨q + 1, 0, none⟩) (syN L) (syN L))).start hS
  have HR := Lib.hid hrng
  clear hS hY HMk hrng d1 d2 d3 d53 p53 hq0 hb3 K5 hmk hw1 HSS s1 h53 hC hlgi hq5 hqs
  obtain ⟨av, capv, hv', hvl⟩ := hcd.shape
  subst hv'
  have hb7 : Blk (w6.alloc (.cells Z 149)) (q + 2) Z 149 := by rw [← hz6]; exact Blk.new w6 Z _
  go_wp2_with (first
    | refine wpList_load_mid rfl 149 _ rfl q 36 rfl _ _ HR.out Tryz.underlying149 rfl (by exact lenSize) ?_
    | refine wpList_storeL rfl _ _ rfl _ (stt L) rfl rfl _ _ hb7 hz17 ?_)
  have hb8 := hb7.setRow (BL (stt L))
  have hq0 : q < w6.heap.size := by omega
  have HM8 := Lib.hid ((HMK.out.keep ((Keep.refl [] w6).alloc (.cells Z 149)) (by simp) (by simp)).keep (Keep.setRow (g := q + 2) (BL (stt L))) (by simp) (by simp))
  have K8 : Keep [] w1 ((w6.alloc (.cells Z 149)).setRow (q + 2) (BL (stt L))) := (K6.alloc _).trans (Keep.setRow _) (fun x hx => .inr (by simp at hx; omega))
  have hq8 : ((w6.alloc (.cells Z 149)).setRow (q + 2) (BL (stt L))).heap.size = q + 3 := by simp [hz6]
  generalize (w6.alloc (.cells Z 149)).setRow (q + 2) (BL (stt L)) = w8 at hb8 HM8 K8 hq8 ⊢
  clear hb7 HMK HR K6 hz6 hq0
  have HCD := Lib.hid (fun w' (k : Keep [] w1 w') i hi => (hcd.keep k (by simp)).at i hi)
  have HLY := Lib.hid (fun w q cs s cd n a b c d e => layshort_c w q cs s cd n a b c d e)
  clear hcd
  go_loopw [56] (fun i wr => ∃ k : Nat, k ≤ L.length ∧ i = .int .i64 k ∧ Hid (Mk wr q (q + 1) (q + 2) L k) ∧ Blk wr (q + 2) (BL (ns L k)) 149 ∧ Keep [] w1 wr) (fun i _ => L.length - (intOf i).toNat)
  case atStart => exact ⟨0, by omega, rfl, HM8.out, by rw [ns_zero]; exact hb8, K8⟩
  case round =>
    clear hb8 HM8 K8 hq8
    obtain ⟨k, hk, rfl, HM, hb, K⟩ := hrel
    by_cases hlt : k < L.length
    · obtain ⟨b, off, cap', hv, e0, e1⟩ := HCD.out wr K k hlt
      simp only [Value.slice.injEq] at hv
      obtain ⟨rfl, hvv, rfl⟩ := hv
      clear hvv
      have hl16 : len L k ≤ 16 := by rw [len_get L k hlt]; exact HLL.out _ (List.getElem_mem hlt)
      by_cases h0 : len L k = 0
      · have HM2 : Hid (Mk wr q (q + 1) (q + 2) L (k + 1)) := HM.out.skip h0
        have hb' := hb
        rw [← ns_skip L k hlt h0] at hb'
        rw [h0] at e1
        have HA : Hid (Mk (wr.alloc (.cells #[.int .u32 (code L k), .int .i64 0] 106)) q (q + 1) (q + 2) L (k + 1)) := HM2.out.keep ((Keep.refl [] wr).alloc _) (by simp) (by simp)
        have HB := hb'.alloc (.cells #[.int .u32 (code L k), .int .i64 0] 106)
        have HK := K.alloc (.cells #[.int .u32 (code L k), .int .i64 0] 106)
        clear h0 hb HM HM2
        go_wp2_with fail
        go_roundw
        case rel => exact ⟨k + 1, by omega, by go_num, HA, HB, HK⟩
        case measure => simp [intOf]; omega
      · have hpos : 0 < len L k := by omega
        have HMo := HM.out
        obtain ⟨cs, ss, m1, m2, m3, m4, m5, m6⟩ := HMo
        have hcdl : code L k < 2 ^ len L k := code_lt L k
        have hsl := syAt_lt L k hlt hpos
        have HNS := Lib.hid (ns_take L k hlt hpos)
        have HSY := Lib.hid (m6.take hlt hpos)
        have hsz := m2.1
        have HA := Lib.hid (fun cs' (h9 : len L k ≤ 9) hl => m4.take (cs' := cs') hlt hpos h9 hl)
        have HHD := Lib.hid m2
        have HSK := Lib.hid (fun h => m4.skip (.inr h))
        -- the copy of the word
        have A1 := m1.alloc (.cells #[.int .u32 (code L k), .int .i64 (len L k)] 106)
        have A5 := m5.alloc (.cells #[.int .u32 (code L k), .int .i64 (len L k)] 106)
        have AB := hb.alloc (.cells #[.int .u32 (code L k), .int .i64 (len L k)] 106)
        have AN := Blk.new wr #[.int .u32 (code L k), .int .i64 (len L k)] 106
        have AK := K.alloc (.cells #[.int .u32 (code L k), .int .i64 (len L k)] 106)
        have hq := m1.lt
        have hsb := m5.lt
        have hnb := hb.lt
        have hssz := m6.1
        have hnat := ns_at L k hpos
        have Hm3 := Lib.hid m3
        have hlp : (0 : Int) < len L k := by omega
        have hl17 : (len L k : Int) < 17 := by omega
        have hne : ((len L k : Int) == 0) = false := by simp; omega
        have hw16 : k < 4096 := by have := HN.out; omega
        clear HM hb m1 m2 m4 m5 m6 h0
        generalize code L k = cd at *
        generalize hzz : len L k = z at *
        go_upto_region 12 with fail
        have AR : Keep [] w1 (wr.alloc (.cells #[.int .u32 cd, .int .i64 z] 106)).drew := AK.drew
        have A1d := A1.keep ((Keep.refl [] _).drew) (by simp)
        have A5d := A5.keep ((Keep.refl [] _).drew) (by simp)
        have ABd := AB.keep ((Keep.refl [] _).drew) (by simp)
        have ANd := AN.keep ((Keep.refl [] _).drew) (by simp)
        have c53 := A1.cell 53 _ m3
        have c1 := AN.cell 1 _ rfl
        have cz := AB.cell z _ (BL_get _ _ (by omega))
        rw [hnat] at cz
        have hsr : 0 < wr.heap.size := by omega
        generalize wr.alloc (.cells #[.int .u32 cd, .int .i64 z] 106) = wB at A1 A5 AB AN AK AR A1d A5d ABd ANd c53 c1 cz ⊢
        generalize wr.heap.size = r at AN ANd hq hsb hnb c1 hsr ⊢
        have hyN : (syAt L k : Int) < syN L := by omega
        have hyi : IntKind.i64.wrap ((syAt L k : Int) + 1) = syAt L k + 1 := by rw [IntKind.wrap_i64]; omega
        generalize hyy : syAt L k = y at *
        generalize hNN : syN L = N at *
        go_still_tail 10, (by kernel_rfl)
        change wpList _ _ _ _ _ wB.drew
        generalize wB.drew = wC at A1d A5d ABd ANd AR ⊢
        clear A1 A5 AB AN AK c53 c1 cz
        have p1 := A5d.free y
        have d1 := A5d.cell y _ (Array.getElem?_eq_getElem (by omega))
        have B5 := A5d.set y (.int .i64 k)
        have B1 := A1d.other (p := ⟨q + 1, y, none⟩) (by simp) (.int .i64 k)
        have BB := ABd.other (p := ⟨q + 1, y, none⟩) (by simp) (.int .i64 k)
        have BN := ANd.other (p := ⟨q + 1, y, none⟩) (by simp; omega) (.int .i64 k)
        have BR : Keep [] w1 (wC.setCell ⟨q + 1, y, none⟩ (.int .i64 k)) := AR.setCell (.inr (by simp; omega)) _
        clear A1d A5d ABd ANd AR
        go_upto_region 13 with fail
        generalize wC.setCell ⟨q + 1, y, none⟩ (.int .i64 k) = wD at B1 B5 BB BN BR ⊢
        clear p1 d1
        have n1 := BN.cell 1 _ rfl
        have nz := BB.cell z _ (BL_get _ _ (by omega))
        rw [hnat] at nz
        have fz := BB.free z
        have CB := BB.set z (.int .i64 (y + 1 : Nat))
        rw [BL_set _ _ _ (by omega), HNS.out] at CB
        have C1 := B1.other (p := ⟨q + 2, z, none⟩) (by simp) (.int .i64 (y + 1 : Nat))
        have C5 := B5.other (p := ⟨q + 2, z, none⟩) (by simp) (.int .i64 (y + 1 : Nat))
        have CN := BN.other (p := ⟨q + 2, z, none⟩) (by simp; omega) (.int .i64 (y + 1 : Nat))
        have CR : Keep [] w1 (wD.setCell ⟨q + 2, z, none⟩ (.int .i64 (y + 1 : Nat))) := BR.setCell (.inr (by simp; omega)) _
        have ec : (Value.int .i64 ((y + 1 : Nat) : Int)) = Value.int .i64 ((y : Int) + 1) := by simp
        rw [ec] at CB C1 C5 CN CR
        clear B1 B5 BB BN BR ec
        go_upto_region 14 with fail
        generalize wD.setCell ⟨q + 2, z, none⟩ (.int .i64 ((y : Int) + 1)) = wE at CB C1 C5 CN CR ⊢
        clear n1 nz fz
        have e0 := CN.cell 0 _ rfl
        have e1 := CN.cell 1 _ rfl
        go_wp2_with fail
        refine (HLY.out wE q cs k cd z C1 hsz hw16 hpos hl16 hcdl).mono ?_
        rintro e wF ⟨rfl, kF, cs', F1, F2, F3⟩
        have FR : Keep [] w1 wF := CR.trans kF (fun x hx => .inr (by simp at hx; omega))
        have FB := CB.keep kF (by simp)
        have F5 := C5.keep kF (by simp)
        subst hNN
        have FM : Hid (Mk wF q (q + 1) (q + 2) L (k + 1)) := by
          by_cases h9 : z ≤ 9
          · have hl := F2 h9
            exact ⟨cs', _, F1, HHD.out.laid hl, by rw [hl.2.1 53 (by omega)]; exact m3, HA.out _ h9 hl, F5, HSY.out⟩
          · obtain rfl := F3 (by omega)
            exact ⟨_, _, F1, HHD.out, m3, HSK.out (by omega), F5, HSY.out⟩
        clear F1 F2 F3 F5 kF CB C1 C5 CN CR e0 e1 HSY HA HSK HHD Hm3 m3
        go_wp2_with fail
        go_roundw
        case rel => exact ⟨k + 1, by omega, by go_num, FM, FB, FR⟩
        case measure => simp [intOf]; omega
    · obtain rfl : k = L.length := by omega
      have HMo := HM.out
      have h1 := k1.size
      go_wp2_with fail
      go_ret2
      exact ⟨q, q + 1, q + 2, rfl, k1.trans K (by simp), HMo, by omega, by omega, by omega⟩
end Go.Proofs.YtokfcgloogdeiaaGreatDoor
namespace Go.Proofs.YtokfcgloogdeiaaGreatDoor
set_option linter.unusedVariables false
set_option linter.unusedSimpArgs false
open Go.ChangeShapes Go.WideShapes Go.ChangeAt Go.RowKit

/-- block q is a decoder made of lengths L, bs its blocks -/
def Dec (w : World) (q : Nat) (bs L : List Nat) : Prop := ∃ sb, bs = [q, sb] ∧ q ≠ sb ∧ Mk w q sb 0 L L.length ∧ (∀ x ∈ L, x ≤ 16) ∧ wt L ≤ 65536 ∧ L.length ≤ 4096
theorem Dec.keep {w w' : World} {q : Nat} {bs L S : List Nat} (h : Dec w q bs L) (k : Keep S w w') (hs : ∀ b ∈ bs, b ∉ S) : Dec w' q bs L := by
  obtain ⟨sb, rfl, a, b, c⟩ := h
  exact ⟨sb, rfl, a, b.keep k (hs q (by simp)) (hs sb (by simp)), c⟩
theorem Dec.lt {w : World} {q : Nat} {bs L : List Nat} (h : Dec w q bs L) : ∀ b ∈ bs, b < w.heap.size := by
  obtain ⟨sb, rfl, a, ⟨cs, ss, b1, _, _, _, b2, _⟩, c⟩ := h
  intro b hb
  simp at hb
  rcases hb with rfl | rfl
  · exact b1.lt
  · exact b2.lt
theorem Dec.ok {w : World} {q : Nat} {bs L : List Nat} (h : Dec w q bs L) : (∀ x ∈ L, x ≤ 16) ∧ wt L ≤ 65536 := by
  obtain ⟨sb, rfl, a, b, c, d, _⟩ := h
  exact ⟨c, d⟩
/-- what bits begin with: a symbol and its word's length -/
def bg (L : List Nat) (x : Nat) : Nat × Nat := match pick L (tr 16 x 0) 16 with | some i => (i, len L i) | none => (0, 0)
theorem bg_hit (L : List Nat) (x i : Nat) (hL : ∀ y ∈ L, y ≤ 16) (h : hit L (tr 16 x 0) i) : bg L x = (i, len L i) := by
  unfold bg; rw [(pick_some L _ 16 i hL).2 ⟨h, h.2.2.1⟩]
theorem bg_none (L : List Nat) (x : Nat) (hL : ∀ y ∈ L, y ≤ 16) (h : ∀ i, ¬ hit L (tr 16 x 0) i) : bg L x = (0, 0) := by
  unfold bg; rw [(pick_none L _ 16 hL).2 fun i hi => absurd hi (h i)]
theorem low9 (x n c : Nat) (hn : n ≤ 9) : x % 512 % 2 ^ n = x % 2 ^ n := by
  rw [show (512 : Nat) = 2 ^ 9 from rfl]
  exact Nat.mod_mod_of_dvd x (Nat.pow_dvd_pow 2 hn)
/-- a place among the words of n bits -/
theorem place (L : List Nat) (x n : Nat) (h0 : 0 < n) (hn : n ≤ 16) (hno : ∀ i, hit L (tr 16 x 0) i → n ≤ len L i) :
    fst L n ≤ tr n x 0 ∧ (tr n x 0 - fst L n < cnt L n → ∃ i, i < L.length ∧ 0 < len L i ∧ len L i = n ∧ stt L n + (tr n x 0 - fst L n) = syAt L i ∧ hit L (tr 16 x 0) i) ∧
    (cnt L n ≤ tr n x 0 - fst L n → ∀ i, hit L (tr 16 x 0) i → n + 1 ≤ len L i) := by
  have ht := tr_top x n hn
  obtain ⟨m, rfl⟩ : ∃ m, n = m + 1 := ⟨n - 1, by omega⟩
  have hf := fst_acc L m (by omega)
  have hq : 0 < 2 ^ (16 - (m + 1)) := Nat.two_pow_pos _
  have hlo : acc L m ≤ tr 16 x 0 := by
    rcases Nat.lt_or_ge (tr 16 x 0) (acc L m) with h | h
    · obtain ⟨k, a, b, c, d⟩ := acc_find L (tr 16 x 0) m h
      obtain ⟨e1, e2⟩ := hit_of L (tr 16 x 0) k a (by omega) c d
      obtain ⟨i, hi, f1, f2⟩ := sym_at k _ L e1
      have := hno i (e2 i hi f1 f2)
      omega
    · exact h
  have hle : fst L (m + 1) ≤ tr (m + 1) x 0 := by
    rw [← ht, Nat.le_div_iff_mul_le hq, hf]; exact hlo
  have hr : (tr 16 x 0 - acc L m) / 2 ^ (16 - (m + 1)) = tr (m + 1) x 0 - fst L (m + 1) := by
    rw [← hf, Nat.mul_comm, Nat.sub_mul_div, ht]
  refine ⟨hle, fun hc => ?_, fun hc i hi => ?_⟩
  · have hc' : tr (m + 1) x 0 - fst L (m + 1) < L.count (m + 1) := by unfold cnt at hc; simpa using hc
    have hhi : tr 16 x 0 < acc L (m + 1) := by
      rw [acc, ← hf, ← Nat.add_mul]
      refine (Nat.div_lt_iff_lt_mul hq).1 ?_
      rw [ht]; omega
    obtain ⟨e1, e2⟩ := hit_of L (tr 16 x 0) (m + 1) (by omega) hn (by simpa using hlo) hhi
    rw [Nat.add_sub_cancel, hr] at e1 e2
    obtain ⟨i, hi, f1, f2⟩ := sym_at (m + 1) _ L e1
    exact ⟨i, hi, by omega, f1, by unfold syAt; rw [f1, f2], e2 i hi f1 f2⟩
  · have h1 := hno i hi
    rcases Nat.lt_or_ge (m + 1) (len L i) with h | h
    · exact h
    · have e : len L i = m + 1 := by omega
      have h2 := hi.2.2.2
      have h3 := rk_lt_cnt L i hi.1 hi.2.1
      rw [e] at h2 h3
      rw [ht] at h2
      unfold wd at h2
      rw [e] at h2
      omega
theorem or_i64 (a b : Nat) (ha : a < 4611686018427387904) (hb : b < 4611686018427387904) : Go.bits .or .i64 (a : Int) (b : Int) = ((a ||| b : Nat) : Int) := by
  have hx : a ||| b < 2 ^ 62 := Nat.or_lt_two_pow (by omega) (by omega)
  show IntKind.i64.wrap ((BitVec.ofInt 64 (a : Int) ||| BitVec.ofInt 64 (b : Int)).toNat : Int) = _
  rw [BitVec.toNat_or, ofInt_u64 a (by omega), ofInt_u64 b (by omega), IntKind.wrap_i64]
  omega
theorem or1 (a b : Nat) (ha : a < 2305843009213693952) (hb : b < 2) : Go.bits .or .i64 ((a : Int) * 2) (b : Int) = ((a * 2 + b : Nat) : Int) := by
  have := or_i64 (a * 2) b (by omega) (by omega)
  rw [nat_join1 _ _ (by omega) hb] at this
  rw [← this]; simp
theorem sub_in (a b : Nat) (h : a < 65536) (h2 : b ≤ a) : IntKind.i64.wrap ((a : Int) - b) = (a : Int) - b := by rw [IntKind.wrap_i64]; omega
theorem add_in (a b : Nat) (h : a < 1000000) (h2 : b < 65536) : IntKind.i64.wrap ((a : Int) + (b : Nat)) = ((a + b : Nat) : Int) := by rw [IntKind.wrap_i64]; omega
theorem bit1 (x n : Nat) (hx : x < 4294967296) : Go.bits .and .u32 ((x : Int) / 2 ^ n) 1 = ((x / 2 ^ n % 2 : Nat) : Int) := by
  have h := u32_and_nat (x / 2 ^ n) 1 (Nat.lt_of_le_of_lt (Nat.div_le_self _ _) hx) (by omega)
  rw [Nat.and_one_is_mod] at h
  rw [← h]; simp
set_option maxRecDepth 100000 in
set_option maxHeartbeats 4000000 in
theorem canbegin_c (w : World) (q : Nat) (bs L : List Nat) (h : Dec w q bs L) (x : Nat) (hx : x < 65536) : Calls Tryz.prog 90 #[.pointer (some ⟨q, 0, none⟩), .int .u32 x] w fun e w' => e = .returned (.tuple #[.int .i64 (bg L x).1, .int .i64 (bg L x).2]) ∧ Keep [] w w' := by
  obtain ⟨sb, rfl, hqs, ⟨cs, ss, b1, b2, b3, b4, b5, b6⟩, hL, hwt, hlen⟩ := h
  have hxm := Nat.mod_lt x (show 0 < 512 by decide)
  have hxi : (x : Int) % 512 = ((x % 512 : Nat) : Int) := by simp
  have hd : ((x % 512 : Nat) : Int) < 512 := by omega
  rcases b4 (x % 512) hxm with ⟨i, h1, h2, h3, h4, h5, h6, h7⟩ | ⟨h1, h6, h7⟩
  · have hhit : hit L (tr 16 x 0) i := by
      rw [low9 x _ 0 h4] at h5
      exact (hit_bits L x i 0 h2 hL hwt h3).1 h5
    rw [bg_hit L x i hL hhit]
    have c6 := b1.cell _ _ h6
    have c7 := b1.cell _ _ h7
    have hi16 : (i : Int) ≤ 4096 := by omega
    have hp : (0 : Int) < len L i := by omega
    clear hhit h5 h6 h7 b4 b6 b2 b3
    generalize len L i = n at *
    generalize x % 512 = y at *
    go_enter Tryz.func90, Tryz.ntmps90
    have hN := Blk.new w #[.int .i16 i, .int .i16 n] 152
    have KA : Keep [] w (w.alloc (.cells #[.int .i16 i, .int .i16 n] 152)) := (Keep.refl [] w).alloc _
    go_wp2_with fail
    have e0 := hN.cell 0 _ rfl
    have e1 := hN.cell 1 _ rfl
    generalize w.alloc (.cells #[.int .i16 i, .int .i16 n] 152) = wA at e0 e1 KA ⊢
    clear hN
    go_quiet (fail)
    go_wp2_with fail
    go_ret2
    exact ⟨rfl, KA.drewN _⟩
  · have c6 := b1.cell _ _ h6
    have c7 := b1.cell _ _ h7
    have c1 := b1.cell 1 _ b2.2.2.1
    have c53 := b1.cell 53 _ b3
    have HC := Lib.hid (fun n (hn : n < 17) => And.intro (b1.cell _ _ (b2.2.2.2 n hn).1) (And.intro (b1.cell _ _ (b2.2.2.2 n hn).2.1) (b1.cell _ _ (b2.2.2.2 n hn).2.2)))
    have HS := Lib.hid (fun i hi hp => b5.cell _ _ (b6.2 i hi hi hp))
    have HT := Lib.hid (fun w => turn_c x 9 w (by omega))
    have ht9 : turn x 9 = tr 9 x 0 := turn_code x 9 (by omega)
    rw [ht9] at HT
    have HNO : Hid (∀ i, hit L (tr 16 x 0) i → 10 ≤ len L i) := by
      intro i hi
      rcases Nat.lt_or_ge 9 (len L i) with h | h
      · exact h
      · refine absurd ((hit_bits L x i 0 hi.1 hL hwt hi.2.1).2 hi) ?_
        rw [← low9 x _ 0 h]
        exact h1 i hi.1 hi.1 hi.2.1 h
    have HP := Lib.hid (place L x)
    have HB := Lib.hid (fun i => bg_hit L x i hL)
    have HBN := Lib.hid (bg_none L x hL)
    have HTR := Lib.hid (fun k => tr_succ k x 0)
    have HTL := Lib.hid (fun k => tr_lt k x)
    have HLG := Lib.hid (longest_ge L)
    have hlg := longest_le L 16 hL
    have HSL := Lib.hid (syAt_lt L)
    have hsyn := syN_le L hlen hlg
    clear h1 h6 h7 b4 b6 b2 b3 hL hwt ht9
    generalize x % 512 = y at *
    go_enter Tryz.func90, Tryz.ntmps90
    have hN := Blk.new w #[.int .i16 0, .int .i16 0] 152
    have KA : Keep [] w (w.alloc (.cells #[.int .i16 0, .int .i16 0] 152)) := (Keep.refl [] w).alloc _
    go_wp2_with fail
    refine (HT.out _).mono ?_; rintro e w1 ⟨rfl, rfl⟩
    go_wp2_with fail
    generalize w.alloc (.cells #[.int .i16 0, .int .i16 0] 152) = wA at KA ⊢
    clear hN c6 c7
    go_loopw [7, 8] (fun u i wr => ∃ n : Nat, 10 ≤ n ∧ n ≤ 17 ∧ i = .int .i64 n ∧ u = .int .i64 (tr (n - 1) x 0) ∧ Hid (∀ i, hit L (tr 16 x 0) i → n ≤ len L i) ∧ ∃ m, wr = wA.drewN m) (fun _ i _ => 17 - (intOf i).toNat)
    case atStart =>
      have h9 := HTL.out 9
      exact ⟨10, by omega, by omega, rfl, by rw [IntWalk.wrap64_in _ (by omega)], HNO.out, 0, rfl⟩
    case round =>
      obtain ⟨n, hn1, hn2, rfl, rfl, HR, m, rfl⟩ := hrel
      have c1' := KA.cellW c1
      have c53' := KA.cellW c53
      by_cases hlt : n ≤ longest L
      · obtain ⟨d2, d3, d4⟩ := HC.out n (by omega)
        have d2 := KA.cellW d2
        have d3 := KA.cellW d3
        have d4 := KA.cellW d4
        obtain ⟨P1, P2, P3⟩ := HP.out n (by omega) (by omega) HR.out
        have htr := HTR.out (n - 1)
        rw [show n - 1 + 1 = n by omega] at htr
        have ht1 := HTL.out (n - 1)
        have ht16 : 2 ^ (n - 1) ≤ 2 ^ 15 := Nat.pow_le_pow_right (by decide) (by omega)
        have hn0 : (0 : Int) ≤ n - 1 := by omega
        have hsub : ((n : Int) - 1).toNat = n - 1 := by omega
        have hb := bit1 x (n - 1) (by omega)
        have hb2 := Nat.mod_lt (x / 2 ^ (n - 1)) (show 0 < 2 by decide)
        have ho := or1 (tr (n - 1) x 0) (x / 2 ^ (n - 1) % 2) (by omega) hb2
        rw [← htr] at ho
        have hn16 : (n : Int) < 17 := by omega
        generalize x / 2 ^ (n - 1) % 2 = bb at *
        have hw : wrap64 (bb : Int) = bb := IntWalk.wrap64_in _ (by omega)
        have htl := HTL.out n
        have ht17 : 2 ^ n ≤ 2 ^ 16 := Nat.pow_le_pow_right (by decide) (by omega)
        have hsb := sub_in (tr n x 0) (fst L n) (Nat.lt_of_lt_of_le htl (Nat.le_trans ht17 (by decide))) P1
        have hA : IntKind.i64.wrap ((stt L n : Int) + (tr n x 0 - fst L n : Nat)) = (stt L n + (tr n x 0 - fst L n) : Nat) := by
          have := stt_le L n
          have := Nat.mul_le_mul (show n ≤ 17 by omega) hlen
          exact add_in _ _ (by omega) (Nat.lt_of_le_of_lt (Nat.sub_le _ _) (Nat.lt_of_lt_of_le htl (Nat.le_trans ht17 (by decide))))
        have hsc : ((tr n x 0 : Nat) : Int) - (fst L n : Nat) = ((tr n x 0 - fst L n : Nat) : Int) := (Int.ofNat_sub P1).symm
        rw [hsc] at hsb
        have HT2 : Hid (tr n x 0 = tr (n + 1 - 1) x 0) := by unfold Hid; rw [Nat.add_sub_cancel]
        have HP2 := Lib.hid P2
        have HP3 := Lib.hid P3
        have hplu : tr n x 0 - fst L n < 65536 := Nat.lt_of_le_of_lt (Nat.sub_le _ _) (Nat.lt_of_lt_of_le htl (Nat.le_trans ht17 (by decide)))
        have hT1 : tr (n - 1) x 0 < 65536 := by omega
        clear htr ht1 ht16 htl ht17 P1 P2 P3
        generalize hpl : tr n x 0 - fst L n = pl at *
        generalize hT : tr n x 0 = T at *
        generalize fst L n = f at *
        generalize hcn : cnt L n = c at *
        generalize hst : stt L n = st at *
        generalize tr (n - 1) x 0 = T1 at *
        have HST := Lib.hid hst
        have HPL := Lib.hid hpl
        clear hpl hT hcn hst
        clear hw
        by_cases hpc : pl < c
        · obtain ⟨i, i1, i2, i3, i4, i5⟩ := HP2.out hpc
          have HF := Lib.hid (HB.out i i5)
          rw [i3] at HF
          have hsl := HSL.out i i1 i2
          have hcell := KA.cellW (HS.out i i1 i2)
          rw [← i4] at hsl hcell
          have hsi : ((st + pl : Nat) : Int) < syN L := by omega
          have hpci : (pl : Int) < c := by omega
          generalize hsp : st + pl = sp at *
          have HSP := Lib.hid hsp
          clear hsp i1 i2 i3 i4 i5 HP2 HP3 HR hsl hpc
          go_wp2_with fail
          go_quiet (fail)
          go_wp2_with fail
          go_ret2
          rw [HF.out]
          exact ⟨rfl, (KA.drewN _).drewN _⟩
        · have HR2 := Lib.hid (HP3.out (by omega))
          have hpci : ¬ (pl : Int) < c := by omega
          clear HP2 HP3 HR hpc hA
          go_wp2_with fail
          go_roundw
          case rel => exact ⟨n + 1, by omega, by omega, by go_num, by rw [HT2.out], HR2, m, rfl⟩
          case measure => simp [intOf]; omega
      · have HF := Lib.hid (HBN.out (fun i hi => by have := HR.out i hi; have := HLG.out i; omega))
        have hlti : ¬ (n : Int) ≤ longest L := by omega
        clear HR hlt
        go_wp2_with fail
        go_ret2
        rw [HF.out]
        exact ⟨rfl, KA.drewN _⟩
end Go.Proofs.YtokfcgloogdeiaaGreatDoor
namespace Go.Proofs.YtokfcgloogdeiaaGreatDoor
set_option linter.unusedVariables false
set_option linter.unusedSimpArgs false
open Go.ChangeShapes Go.WideShapes Go.ChangeAt Go.RowKit

theorem can_new (w : World) (v : Value) (zs : List Int) (h : Is .i64 w v zs) : Calls Tryz.prog 87 #[v] w fun e w' => ∃ p, e = .returned (.tuple #[.pointer p, .int .i64 (werr zs)]) ∧ Keep [] w w' ∧ (werr zs ≠ 0 → p = none) ∧ (werr zs = 0 → ∃ q bs, p = some ⟨q, 0, none⟩ ∧ Dec w' q bs (Ln zs) ∧ ∀ b ∈ bs, w.heap.size ≤ b) := by
  by_cases h0 : werr zs = 0
  · obtain ⟨hm, hwt⟩ := werr_ok h0
    refine (cannew_ok w v zs h h0).mono ?_
    rintro e w' ⟨q, sb, nb, rfl, k, ⟨cs, ss, m⟩, hq, hs, hne⟩
    refine ⟨_, by rw [h0]; rfl, k, fun h => absurd h0 h, fun _ => ⟨q, [q, sb], rfl, ⟨sb, rfl, hne, ⟨cs, ss, m⟩, may_Ln hm, hwt, by rw [Ln_length]; exact ((may_iff zs).1 hm).1⟩, ?_⟩⟩
    intro b hb
    simp at hb
    rcases hb with rfl | rfl <;> assumption
  · refine (cannew_err w v zs h h0).mono ?_
    rintro e w' ⟨rfl, k⟩
    exact ⟨none, rfl, k, fun _ => rfl, fun h => absurd h h0⟩
/-- a Decoder that New did not make -/
def Plain (w : World) (q : Nat) : Prop := ∃ cs, Blk w q cs 155 ∧ cs[0]? = some (.bool false) ∧ cs[1]? = some (.int .i64 0)
theorem Plain.keep {w w' : World} {q : Nat} {S : List Nat} (h : Plain w q) (k : Keep S w w') (hq : q ∉ S) : Plain w' q := by
  obtain ⟨cs, a, b⟩ := h
  exact ⟨cs, a.keep k hq, b⟩
theorem pz_plain (w : World) (q : Nat) (h : Blk w q pz 155) : Plain w q := ⟨pz, h, by kernel_rfl, by kernel_rfl⟩
theorem can_next_nil (w : World) (p : Option Addr) : Calls Tryz.prog 80 #[.pointer none, .pointer p] w fun e w' => e = .returned (.tuple #[.int .i64 (-1), .int .i64 1]) ∧ Keep [] w w' := by
  go_enter Tryz.func80, Tryz.ntmps80
  go_wp2_with fail
  go_ret2
  exact ⟨rfl, Keep.refl _ _⟩
theorem can_next_plain (w : World) (q : Nat) (p : Option Addr) (h : Plain w q) : Calls Tryz.prog 80 #[.pointer (some ⟨q, 0, none⟩), .pointer p] w fun e w' => e = .returned (.tuple #[.int .i64 (-1), .int .i64 1]) ∧ Keep [] w w' := by
  obtain ⟨cs, b1, b2, b3⟩ := h
  have c0 := b1.cell 0 _ b2
  go_enter Tryz.func80, Tryz.ntmps80
  go_wp2_with fail
  go_ret2
  exact ⟨rfl, Keep.refl _ _⟩
/-- why there is no word -/
def lk (L : List Nat) (s : RS) : Nat := if s.E ≠ 0 then s.E else if s.left < longest L then 3 else 7
theorem lack_nil (w : World) (q : Nat) (bs L : List Nat) (h : Dec w q bs L) : Calls Tryz.prog 91 #[.pointer (some ⟨q, 0, none⟩), .pointer none] w fun e w' => e = .returned (.int .i64 1) ∧ w = w' := by
  go_enter Tryz.func91, Tryz.ntmps91
  go_wp2_with fail
  refine (err_nil _).mono ?_; rintro e w1 ⟨rfl, rfl⟩
  go_wp2_with fail
  go_ret
  exact ⟨rfl, rfl⟩
theorem lack_c (w : World) (q r : Nat) (v : Value) (s : RS) (bs L : List Nat) (h : Dec w q bs L) (hr : Rd w r v s) : Calls Tryz.prog 91 #[.pointer (some ⟨q, 0, none⟩), .pointer (some ⟨r, 0, none⟩)] w fun e w' => e = .returned (.int .i64 (lk L s)) ∧ ∃ n, w' = w.drewN n := by
  obtain ⟨sb, rfl, hqs, ⟨cs, ss, b1, b2, b3, b4, b5, b6⟩, hL, hwt, hlen⟩ := h
  have c1 := b1.cell 1 _ b2.2.2.1
  have HE := Lib.hid (err_c w r v s hr)
  have HL := Lib.hid (fun n => left_c (w.drewN n) r v s (hr.drewN n))
  clear b4 b6 b2 b3
  by_cases hE : s.E = 0
  · have he : ((s.E : Int) != 0) = false := by simp [hE]
    have HK : Hid (lk L s = if s.left < longest L then 3 else 7) := by unfold Hid lk; rw [if_neg (by simpa using hE)]
    clear hE
    by_cases hl : s.left < longest L
    · rw [if_pos hl] at HK
      generalize longest L = lg at *
      generalize s.left = lf at *
      go_enter Tryz.func91, Tryz.ntmps91
      go_wp2_with fail
      refine HE.out.mono ?_; rintro e w1 ⟨rfl, rfl⟩
      go_wp2_with fail
      go_quiet ((go_at_call 25; exact Calls.quiet_of (HL.out _)))
      go_wp2_with fail
      go_ret
      exact ⟨by rw [HK.out]; rfl, _, rfl⟩
    · rw [if_neg hl] at HK
      generalize longest L = lg at *
      generalize s.left = lf at *
      go_enter Tryz.func91, Tryz.ntmps91
      go_wp2_with fail
      refine HE.out.mono ?_; rintro e w1 ⟨rfl, rfl⟩
      go_wp2_with fail
      go_quiet ((go_at_call 25; exact Calls.quiet_of (HL.out _)))
      go_wp2_with fail
      go_ret
      exact ⟨by rw [HK.out]; rfl, _, rfl⟩
  · have he : ((s.E : Int) != 0) = true := by simp; omega
    have HK : Hid (lk L s = s.E) := by unfold Hid lk; rw [if_pos hE]
    clear hE
    generalize s.E = er at *
    go_enter Tryz.func91, Tryz.ntmps91
    go_wp2_with fail
    refine HE.out.mono ?_; rintro e w1 ⟨rfl, rfl⟩
    go_wp2_with fail
    go_ret
    exact ⟨by rw [HK.out]; rfl, 0, rfl⟩
theorem num_low (l : List UInt8) (p a n : Nat) (h : n ≤ a) : num l p a % 2 ^ n = num l p n := by
  have := num_cut l p a n 0 (by omega)
  simpa using this
theorem hit_same (L : List Nat) (l : List UInt8) (p i : Nat) (hL : ∀ y ∈ L, y ≤ 16) (hwt : wt L ≤ 65536) : hit L (tr 16 (num l p (longest L)) 0) i ↔ hit L (tr 16 (num l p 16) 0) i := by
  have hlg := longest_le L 16 hL
  have h1 := longest_ge L i
  constructor
  · intro h
    refine (hit_bits L _ i 0 h.1 hL hwt h.2.1).1 ?_
    rw [num_low l p 16 _ (by omega), ← num_low l p (longest L) _ h1]
    exact (hit_bits L _ i 0 h.1 hL hwt h.2.1).2 h
  · intro h
    refine (hit_bits L _ i 0 h.1 hL hwt h.2.1).1 ?_
    rw [num_low l p (longest L) _ h1, ← num_low l p 16 _ (by omega)]
    exact (hit_bits L _ i 0 h.1 hL hwt h.2.1).2 h
/-- what the decoder finds is what the document picks -/
theorem next_bg (L : List Nat) (s : RS) (h0 : s.E = 0) (hL : ∀ y ∈ L, y ≤ 16) (hwt : wt L ≤ 65536) :
    (∃ i, bg L (num s.l s.pos (longest L)) = (i, len L i) ∧ 0 < len L i ∧ len L i ≤ min (longest L) s.left ∧ s.next L = ((i : Int), 0, { s with pos := s.pos + len L i })) ∨
    (((bg L (num s.l s.pos (longest L))).2 = 0 ∨ min (longest L) s.left < (bg L (num s.l s.pos (longest L))).2) ∧ s.next L = (-1, lk L s, s)) := by
  have hlk : lk L s = if s.left < longest L then 3 else 7 := by unfold lk; rw [if_neg (by omega)]
  by_cases hh : ∃ i, hit L (tr 16 (num s.l s.pos 16) 0) i
  · obtain ⟨i, hi⟩ := hh
    have hb := bg_hit L _ i hL ((hit_same L s.l s.pos i hL hwt).2 hi)
    have hge := longest_ge L i
    by_cases hle : len L i ≤ s.left
    · refine .inl ⟨i, hb, hi.2.1, by omega, RS.next_hit L s h0 i ((pick_some L _ _ i hL).2 ⟨hi, ?_⟩)⟩
      have := hi.2.2.1
      omega
    · refine .inr ⟨.inr (by rw [hb]; show _ < len L i; omega), ?_⟩
      rw [RS.next_none L s h0 ((pick_none L _ _ hL).2 fun k hk => ?_), hlk]
      rw [hit_unique L _ k i hk hi]; omega
  · have hno : ∀ i, ¬ hit L (tr 16 (num s.l s.pos 16) 0) i := fun i hi => hh ⟨i, hi⟩
    have hb := bg_none L (num s.l s.pos (longest L)) hL (fun i hi => hno i ((hit_same L s.l s.pos i hL hwt).1 hi))
    refine .inr ⟨.inl (by rw [hb]), ?_⟩
    rw [RS.next_none L s h0 ((pick_none L _ _ hL).2 fun k hk => absurd hk (hno k)), hlk]
theorem bits_fit (s : RS) (n : Nat) (h0 : s.E = 0) (h32 : n ≤ 32) (hl : n ≤ s.left) : s.bits n = (num s.l s.pos n, { s with pos := s.pos + n }) := by
  unfold RS.bits
  rw [if_neg (by omega), if_neg (by simpa using h0), if_neg (by omega)]
  simp
set_option maxHeartbeats 2000000 in
theorem can_next (w : World) (q r : Nat) (v : Value) (s : RS) (bs L : List Nat) (h : Dec w q bs L) (hr : Rd w r v s) (hd : r ∉ bs) : Calls Tryz.prog 80 #[.pointer (some ⟨q, 0, none⟩), .pointer (some ⟨r, 0, none⟩)] w fun e w' => e = .returned (.tuple #[.int .i64 (s.next L).1, .int .i64 (s.next L).2.1]) ∧ Rd w' r v (s.next L).2.2 ∧ Keep [r] w w' := by
  have hq : ∃ cs, Blk w q cs 155 ∧ Hd cs L := by
    obtain ⟨sb, rfl, hqs, ⟨cs, ss, b1, b2, _⟩, _⟩ := h
    exact ⟨cs, b1, b2⟩
  obtain ⟨hL, hwt⟩ := h.ok
  obtain ⟨cs, b1, b2⟩ := hq
  have c0 := b1.cell 0 _ b2.2.1
  have c1 := b1.cell 1 _ b2.2.2.1
  have hlg := longest_le L 16 hL
  have HB := Lib.hid (fun w' (k : Keep [] w w') x hx => canbegin_c w' q bs L (h.keep k (by simp)) x hx)
  have HK := Lib.hid (fun w' (k : Keep [] w w') => lack_c w' q r v s bs L (h.keep k (by simp)) (hr.keep k (by simp) (by simp)))
  have HR := Lib.hid (fun w' (k : Keep [] w w') => hr.keep k (by simp) (by simp))
  clear b2
  by_cases h0 : s.E = 0
  · have HL := Lib.hid (look_ok w r v s (longest L) hr h0 (by omega))
    have hx := num_lt s.l s.pos (longest L)
    have hx2 : 2 ^ longest L ≤ 2 ^ 16 := Nat.pow_le_pow_right (by decide) hlg
    have hx3 : num s.l s.pos (longest L) < 65536 := Nat.lt_of_lt_of_le hx hx2
    rcases next_bg L s h0 hL hwt with ⟨i, e1, e2, e3, e4⟩ | ⟨e1, e2⟩
    · have HBI := Lib.hid (fun w' (k : Keep [] w w') => bits_c w' r v s (len L i) (HR.out w' k))
      rw [bits_fit s (len L i) h0 (by have := longest_ge L i; omega) (by omega)] at HBI
      have HE4 := Lib.hid e4
      have HE1 := Lib.hid e1
      have hn0 : ((len L i : Int) == 0) = false := by simp; omega
      have hnm : ¬ ((min (longest L) s.left : Nat) : Int) < len L i := by omega
      clear e1 e4 hL hwt h0 hx hx2 e2 e3 hlg h hr b1
      generalize num s.l s.pos (longest L) = x at *
      generalize min (longest L) s.left = mn at *
      generalize len L i = n at *
      generalize longest L = lg at *
      go_enter Tryz.func80, Tryz.ntmps80
      go_wp2_with fail
      refine HL.out.mono ?_; rintro e w1 ⟨rfl, m, rfl⟩
      go_wp2_with fail
      refine (HB.out _ ((Keep.refl _ _).drewN m) x hx3).mono ?_; rintro e w2 ⟨rfl, k2⟩
      rw [HE1.out]
      have K2 := ((Keep.refl [] w).drewN m).trans k2 (by simp)
      go_wp2_with fail
      refine (HBI.out w2 K2).mono ?_; rintro e w3 ⟨rfl, hr3, k3⟩
      go_wp2_with fail
      go_ret2
      rw [HE4.out]
      exact ⟨rfl, hr3, K2.nil.trans k3 (by simp)⟩
    · have HE2 := Lib.hid e2
      generalize hbg : bg L (num s.l s.pos (longest L)) = bb at *
      obtain ⟨i, n⟩ := bb
      have HBG := Lib.hid hbg
      have e1' : n = 0 ∨ min (longest L) s.left < n := e1
      clear hL hwt h0 hx hx2 e2 hlg h hr b1 hbg e1
      generalize num s.l s.pos (longest L) = x at *
      generalize min (longest L) s.left = mn at *
      generalize longest L = lg at *
      go_enter Tryz.func80, Tryz.ntmps80
      go_wp2_with fail
      refine HL.out.mono ?_; rintro e w1 ⟨rfl, m, rfl⟩
      go_wp2_with fail
      refine (HB.out _ ((Keep.refl _ _).drewN m) x hx3).mono ?_; rintro e w2 ⟨rfl, k2⟩
      rw [HBG.out]
      have K2 := ((Keep.refl [] w).drewN m).trans k2 (by simp)
      clear k2 HL HB
      by_cases hn : n = 0
      · subst hn
        clear e1'
        go_wp2_with fail
        refine (HK.out w2 K2).mono ?_; rintro e w3 ⟨rfl, m3, rfl⟩
        go_wp2_with fail
        go_ret2
        rw [HE2.out]
        exact ⟨rfl, (HR.out w2 K2).drewN _, (K2.drewN _).nil⟩
      · have hn0 : ((n : Int) == 0) = false := by simp; omega
        have hmn : (mn : Int) < n := by omega
        clear e1' hn
        go_wp2_with fail
        refine (HK.out w2 K2).mono ?_; rintro e w3 ⟨rfl, m3, rfl⟩
        go_wp2_with fail
        go_ret2
        rw [HE2.out]
        exact ⟨rfl, (HR.out w2 K2).drewN _, (K2.drewN _).nil⟩
  · have HL := Lib.hid (look_err w r v s (longest L) hr h0)
    have HE2 : Hid (s.next L = (-1, lk L s, s)) := by
      have := RS.next_err L s h0
      unfold Hid lk; rw [if_pos h0]; exact this
    generalize hbg : bg L 0 = bb at *
    obtain ⟨i, n⟩ := bb
    have HBG := Lib.hid hbg
    clear hL hwt h0 hlg h hr b1 hbg
    generalize longest L = lg at *
    go_enter Tryz.func80, Tryz.ntmps80
    go_wp2_with fail
    refine HL.out.mono ?_; rintro e w1 ⟨rfl, rfl⟩
    go_wp2_with fail
    refine (HB.out _ (Keep.refl _ _) 0 (by omega)).mono ?_; rintro e w2 ⟨rfl, k2⟩
    rw [HBG.out]
    clear HL HB
    by_cases hn : n = 0
    · subst hn
      go_wp2_with fail
      refine (HK.out w2 k2).mono ?_; rintro e w3 ⟨rfl, m3, rfl⟩
      go_wp2_with fail
      go_ret2
      rw [HE2.out]
      exact ⟨rfl, (HR.out w2 k2).drewN _, (k2.drewN _).nil⟩
    · have hn0 : ((n : Int) == 0) = false := by simp; omega
      have hmn : (0 : Int) < n := by omega
      clear hn
      go_wp2_with fail
      refine (HK.out w2 k2).mono ?_; rintro e w3 ⟨rfl, m3, rfl⟩
      go_wp2_with fail
      go_ret2
      rw [HE2.out]
      exact ⟨rfl, (HR.out w2 k2).drewN _, (k2.drewN _).nil⟩
theorem can_next_nilrd (w : World) (q : Nat) (bs L : List Nat) (h : Dec w q bs L) : Calls Tryz.prog 80 #[.pointer (some ⟨q, 0, none⟩), .pointer none] w fun e w' => e = .returned (.tuple #[.int .i64 (-1), .int .i64 1]) ∧ Keep [] w w' := by
  have hq : ∃ cs, Blk w q cs 155 ∧ Hd cs L := by
    obtain ⟨sb, rfl, hqs, ⟨cs, ss, b1, b2, _⟩, _⟩ := h
    exact ⟨cs, b1, b2⟩
  obtain ⟨cs, b1, b2⟩ := hq
  have c0 := b1.cell 0 _ b2.2.1
  have c1 := b1.cell 1 _ b2.2.2.1
  have HB := Lib.hid (fun w' (k : Keep [] w w') x hx => canbegin_c w' q bs L (h.keep k (by simp)) x hx)
  have HK := Lib.hid (fun w' (k : Keep [] w w') => lack_nil w' q bs L (h.keep k (by simp)))
  have HL := Lib.hid (look_nil w (longest L))
  generalize hbg : bg L 0 = bb at *
  obtain ⟨i, n⟩ := bb
  have HBG := Lib.hid hbg
  clear h b1 hbg b2
  generalize longest L = lg at *
  go_enter Tryz.func80, Tryz.ntmps80
  go_wp2_with fail
  refine HL.out.mono ?_; rintro e w1 ⟨rfl, rfl⟩
  go_wp2_with fail
  refine (HB.out _ (Keep.refl _ _) 0 (by omega)).mono ?_; rintro e w2 ⟨rfl, k2⟩
  rw [HBG.out]
  clear HL HB
  by_cases hn : n = 0
  · subst hn
    go_wp2_with fail
    refine (HK.out w2 k2).mono ?_; rintro e w3 ⟨rfl, rfl⟩
    go_wp2_with fail
    go_ret2
    exact ⟨rfl, k2⟩
  · have hn0 : ((n : Int) == 0) = false := by simp; omega
    have hmn : (0 : Int) < n := by omega
    clear hn
    go_wp2_with fail
    refine (HK.out w2 k2).mono ?_; rintro e w3 ⟨rfl, rfl⟩
    go_wp2_with fail
    go_ret2
    exact ⟨rfl, k2⟩
end Go.Proofs.YtokfcgloogdeiaaGreatDoor
namespace Go.Proofs.YtokfcgloogdeiaaGreatDoor
set_option linter.unusedVariables false
set_option linter.unusedSimpArgs false
open Go.ChangeShapes Go.WideShapes Go.ChangeAt Go.RowKit

def mayS (zs : List Int) : Bool := decide (0 < zs.length) && (decide (zs.length ≤ 256) && zs.all fun z => decide (1 ≤ z) && decide (z ≤ 16))
theorem mayS_iff (zs : List Int) : mayS zs = true ↔ 0 < zs.length ∧ zs.length ≤ 256 ∧ ∀ z ∈ zs, 1 ≤ z ∧ z ≤ 16 := by simp [mayS]
theorem mayS_get {zs : List Int} (h : mayS zs = true) (i : Nat) (hi : i < zs.length) : zs[i] = ((len (Ln zs) i : Nat) : Int) ∧ 1 ≤ len (Ln zs) i ∧ len (Ln zs) i ≤ 16 := by
  have h1 := ((mayS_iff zs).1 h).2.2 zs[i] (List.getElem_mem hi)
  have h2 : len (Ln zs) i = zs[i].toNat := by rw [len_get _ _ (by rw [Ln_length]; exact hi)]; simp [Ln]
  omega
theorem bad_S {zs : List Int} (i : Nat) (hi : i < zs.length) (h : zs[i] < 1 ∨ 16 < zs[i]) : mayS zs = false := by
  rw [Bool.eq_false_iff]
  intro hm
  have := ((mayS_iff zs).1 hm).2.2 zs[i] (List.getElem_mem hi)
  omega
def schk (zs : List Int) : Nat := if mayS zs = false then 2 else if tot16 (Ln zs) = 65536 then 0 else 6
end Go.Proofs.YtokfcgloogdeiaaGreatDoor
namespace Go.Proofs.YtokfcgloogdeiaaGreatDoor
set_option linter.unusedVariables false
set_option linter.unusedSimpArgs false
open Go.ChangeShapes Go.WideShapes Go.ChangeAt Go.RowKit

theorem turn_code6 (x n : Nat) (h : n ≤ 16) : turn x (n : Int) = tr n x 0 := by
  unfold turn
  rw [show (max 0 (min (n : Int) 32)).toNat = n by omega]
/-- v is the row of the words of L -/
def Cds6 (w : World) (v : Value) (L : List Nat) : Prop := Sts w v L.length 2 fun i j => if j = 0 then .int .u32 (scode L i) else .int .i64 (len L i)
theorem schk_ok {zs : List Int} (h : schk zs = 0) : mayS zs = true ∧ tot16 (Ln zs) = 65536 := by
  unfold schk at h
  cases hm : mayS zs with
  | false => rw [hm] at h; simp at h
  | true =>
    rw [hm, if_neg (by simp)] at h
    by_cases e : tot16 (Ln zs) = 65536
    · exact ⟨rfl, e⟩
    · rw [if_neg e] at h; omega
/-- lengths whose words are asked for: none where there is an error -/
def Ls (zs : List Int) : List Nat := if schk zs = 0 then Ln zs else []
theorem Cds6.nix (w : World) : Cds6 w (.slice none 0 0) [] := ⟨none, 0, rfl, by simp, by simp, fun _ => rfl, fun x hx => nomatch hx⟩
end Go.Proofs.YtokfcgloogdeiaaGreatDoor
namespace Go.Proofs.YtokfcgloogdeiaaGreatDoor
set_option linter.unusedVariables false
set_option linter.unusedSimpArgs false
open Go.ChangeShapes Go.WideShapes Go.ChangeAt Go.RowKit

theorem Cds6.at {w : World} {v : Value} {L : List Nat} (h : Cds6 w v L) (i : Nat) (hi : i < L.length) : ∃ b off cap, v = .slice (some ⟨b, off, none⟩) L.length cap ∧ w.cell? ⟨b, off + i * 2, none⟩ = some (.int .u32 (scode L i)) ∧ w.cell? ⟨b, off + i * 2 + 1, none⟩ = some (.int .i64 (len L i)) := by
  rcases Sts.cases (by decide) h with ⟨h0, _⟩ | ⟨_, b, off, cap, rfl, _, _, _, hc⟩
  · omega
  · exact ⟨b, off, cap, rfl, hc i hi 0 (by omega), hc i hi 1 (by omega)⟩
theorem Cds6.shape {w : World} {v : Value} {L : List Nat} (h : Cds6 w v L) : ∃ a cap, v = .slice a L.length cap ∧ L.length ≤ 9223372036854775807 := by
  obtain ⟨a, cap, rfl, h1, h2, _⟩ := h
  unfold maxLen at h2
  exact ⟨a, cap, rfl, by omega⟩
/-- the symbol whose word stands first -/
def spick (L : List Nat) (y : Nat) : Nat := ((List.range L.length).find? fun i => decide (y / wd16 L i = sw L i)).getD 0
/-- what reading a word bit by bit answers -/
def RS.nextS (L : List Nat) (s : RS) : Int × Nat × RS :=
  if s.E ≠ 0 then (-1, s.E, s) else
  let i := spick L (tr 16 (num s.l s.pos 16) 0)
  if len L i ≤ s.left then ((i : Int), 0, { s with pos := s.pos + len L i }) else (-1, 3, { s with pos := s.pos + s.left, err := 3 })
theorem spick_hit (L : List Nat) (y : Nat) (h16 : ∀ k, k < L.length → len L k ≤ 16) (hf : tot16 L = 65536) (hy : y < 65536) : shit L y (spick L y) := by
  obtain ⟨i, hi⟩ := shit_full L y h16 hf hy
  unfold spick
  rcases hp : (List.range L.length).find? (fun i => decide (y / wd16 L i = sw L i)) with _ | k
  · have := List.find?_eq_none.1 hp i (by simpa using hi.1)
    simp [hi.2] at this
  · have h1 := List.find?_some hp
    have h2 := List.mem_of_find?_eq_some hp
    exact ⟨by simpa using h2, by simpa using h1⟩
/-- word j of n bits stands first just where it is the one -/
theorem spick_bits (L : List Nat) (x n j : Nat) (h16 : ∀ k, k < L.length → len L k ≤ 16) (hf : tot16 L = 65536) (hj : j < L.length) (hn : len L j = n) : x % 2 ^ n = scode L j ↔ j = spick L (tr 16 x 0) := by
  subst hn
  rw [shit_bits L x j hj h16 hf]
  have hs := spick_hit L (tr 16 x 0) h16 hf (tr16_lt x)
  exact ⟨fun h => shit_unique L _ _ _ h16 hf h hs, fun h => h ▸ hs⟩
theorem nextS_err (L : List Nat) (s : RS) (h : s.E ≠ 0) : s.nextS L = (-1, s.E, s) := by unfold RS.nextS; rw [if_pos h]
theorem bits1_short (s : RS) (n : Nat) (hE : s.E = 0) (hn : n = s.left) : ({ s with pos := s.pos + n } : RS).bits 1 = (0, { s with pos := s.pos + n, err := 3 }) := by
  have e : ({ s with pos := s.pos + n } : RS).E = 0 := hE
  have e1 : s.left = 8 * s.l.length - s.pos := by unfold RS.left; rw [if_pos hE]
  have e2 : ({ s with pos := s.pos + n } : RS).left = 0 := by unfold RS.left; rw [if_pos e]; simp only; omega
  unfold RS.bits
  rw [if_neg (by omega), if_neg (by omega), if_pos (by rw [e2]; omega)]
  unfold RS.fail; rw [if_pos e]
theorem bits1_ok (s : RS) (n : Nat) (hE : s.E = 0) (hn : n < s.left) : ({ s with pos := s.pos + n } : RS).bits 1 = (num s.l (s.pos + n) 1, { s with pos := s.pos + (n + 1) }) := by
  have e : ({ s with pos := s.pos + n } : RS).E = 0 := hE
  have e1 : s.left = 8 * s.l.length - s.pos := by unfold RS.left; rw [if_pos hE]
  have e2 : ({ s with pos := s.pos + n } : RS).left = s.left - n := by unfold RS.left; rw [if_pos e, if_pos hE]; simp only; omega
  unfold RS.bits
  rw [if_neg (by omega), if_neg (by omega), if_neg (by rw [e2]; omega)]
  rfl
end Go.Proofs.YtokfcgloogdeiaaGreatDoor
namespace Go.Proofs.YtokfcgloogdeiaaGreatDoor
set_option linter.unusedVariables false
set_option linter.unusedSimpArgs false
open Go.ChangeShapes Go.WideShapes Go.ChangeAt Go.RowKit

def perr (zs : List Int) : Nat := if mayS zs then 0 else 2
def packS (zs : List Int) : List UInt8 := if mayS zs then packL (Ln zs) else []
theorem OwnB.one (w : World) (x : UInt8) : OwnB (w.alloc (.cells #[.int .u8 (x.toNat)] 5)) (.slice (some ⟨w.heap.size, 0, none⟩) 1 1) [x] := by
  refine ⟨rfl, .inr ⟨w.heap.size, 1, #[.int .u8 (x.toNat)], rfl, Nat.zero_le _, heap_alloc_new w _, Nat.le_refl _, by decide, rfl, rfl⟩⟩
theorem OwnB.drewN {w : World} {v : Value} {l : List UInt8} (h : OwnB w v l) (n : Nat) : OwnB (w.drewN n) v l := h.keep ((Keep.refl [] w).drewN _) (by simp)
theorem drop_two (L : List Nat) (i : Nat) (h : i + 1 < L.length) : L.drop i = len L i :: len L (i + 1) :: L.drop (i + 2) := by
  rw [List.drop_eq_getElem_cons (by omega), List.drop_eq_getElem_cons h, len_get L i (by omega), len_get L (i + 1) h]
theorem drop_last (L : List Nat) (i : Nat) (h : i + 1 = L.length) : L.drop i = [len L i] := by
  rw [List.drop_eq_getElem_cons (by omega), len_get L i (by omega), List.drop_of_length_le (by omega)]
theorem drop_one (L : List Nat) (i : Nat) (h : i + 1 < L.length) : L.drop (i + 1) = len L (i + 1) :: L.drop (i + 2) := by
  rw [List.drop_eq_getElem_cons h, len_get L (i + 1) h]
end Go.Proofs.YtokfcgloogdeiaaGreatDoor
namespace Go.Proofs.YtokfcgloogdeiaaGreatDoor
set_option linter.unusedVariables false
set_option linter.unusedSimpArgs false

/-- the parameters: the dictionary's size, the low bits, the least length -/
def win15 (large : Bool) : Nat := if large then 8192 else 4096
def low15 (large : Bool) : Nat := if large then 7 else 6
def least15 (trees : Bool) : Nat := if trees then 3 else 2
/-- a tree is read: what is wrong, its lengths, the reader -/
def tre (n : Int) (s : RS) : Nat × List Nat × RS :=
  if (s.unp n).2.1 ≠ 0 then ((s.unp n).2.1, [], (s.unp n).2.2) else (schk (s.unp n).1, Ls (s.unp n).1, (s.unp n).2.2)
/-- the bytes' tree, if there is one -/
def treB (trees : Bool) (s : RS) : Nat × List Nat × RS := if trees then tre 256 s else (0, [], s)
/-- the trees, one by one -/
structure T15 where
  e : Nat
  tb : List Nat
  tl : List Nat
  tf : List Nat
  s : RS
def opn15 (trees : Bool) (s : RS) : T15 :=
  if (treB trees s).1 ≠ 0 then ⟨(treB trees s).1, [], [], [], (treB trees s).2.2⟩
  else if (tre 64 (treB trees s).2.2).1 ≠ 0 then ⟨(tre 64 (treB trees s).2.2).1, [], [], [], (tre 64 (treB trees s).2.2).2.2⟩
  else ⟨(tre 64 (tre 64 (treB trees s).2.2).2.2).1, (treB trees s).2.1, (tre 64 (treB trees s).2.2).2.1, (tre 64 (tre 64 (treB trees s).2.2).2.2).2.1, (tre 64 (tre 64 (treB trees s).2.2).2.2).2.2⟩
/-- which byte is read -/
def byt15 (trees : Bool) (tb : List Nat) (s : RS) : Nat × Nat × RS :=
  if trees then ((s.nextS tb).1.toNat, (s.nextS tb).2.1, (s.nextS tb).2.2) else ((s.bits 8).1, (s.bits 8).2.E, (s.bits 8).2)
def lit15 (trees : Bool) (tb : List Nat) (s : RS) (o : HS) : Nat × HS × RS :=
  if (byt15 trees tb s).2.1 ≠ 0 then ((byt15 trees tb s).2.1, o, (byt15 trees tb s).2.2)
  else ((o.lit (UInt8.ofNat (byt15 trees tb s).1)).1, (o.lit (UInt8.ofNat (byt15 trees tb s).1)).2, (byt15 trees tb s).2.2)
/-- a length's word, and eight bits more if it is 63: the number, what is wrong, the reader -/
def len15 (tl : List Nat) (s : RS) : Nat × Nat × RS :=
  if (s.nextS tl).2.1 ≠ 0 then (0, (s.nextS tl).2.1, (s.nextS tl).2.2)
  else if (s.nextS tl).1 = 63 then (63 + ((s.nextS tl).2.2.bits 8).1, ((s.nextS tl).2.2.bits 8).2.E, ((s.nextS tl).2.2.bits 8).2)
  else ((s.nextS tl).1.toNat, 0, (s.nextS tl).2.2)
/-- distance and length of a copy: what is wrong, both, the reader -/
def two15 (low : Nat) (tl tf : List Nat) (s : RS) : Nat × Nat × Nat × RS :=
  if (s.bits low).2.E ≠ 0 then ((s.bits low).2.E, 0, 0, (s.bits low).2)
  else if ((s.bits low).2.nextS tf).2.1 ≠ 0 then (((s.bits low).2.nextS tf).2.1, 0, 0, ((s.bits low).2.nextS tf).2.2)
  else ((len15 tl ((s.bits low).2.nextS tf).2.2).2.1, ((s.bits low).2.nextS tf).1.toNat * 2 ^ low + (s.bits low).1 + 1, (len15 tl ((s.bits low).2.nextS tf).2.2).1, (len15 tl ((s.bits low).2.nextS tf).2.2).2.2)
def cop15 (low least : Nat) (tl tf : List Nat) (s : RS) (o : HS) : Nat × HS × RS :=
  if (two15 low tl tf s).1 ≠ 0 then ((two15 low tl tf s).1, o, (two15 low tl tf s).2.2.2)
  else ((o.copy (two15 low tl tf s).2.1 ((two15 low tl tf s).2.2.1 + least : Nat)).1, (o.copy (two15 low tl tf s).2.1 ((two15 low tl tf s).2.2.1 + least : Nat)).2, (two15 low tl tf s).2.2.2)
/-- a bit, then a byte or a copy -/
def step15 (trees : Bool) (low least : Nat) (t : T15) (s : RS) (o : HS) : Nat × HS × RS :=
  if (s.bits 1).2.E ≠ 0 then ((s.bits 1).2.E, o, (s.bits 1).2)
  else if (s.bits 1).1 = 1 then lit15 trees t.tb (s.bits 1).2 o
  else cop15 low least t.tl t.tf (s.bits 1).2 o
def dec15L (trees : Bool) (low least : Nat) (t : T15) : Nat → HS → RS → Nat → List UInt8 × Nat × Nat
  | 0, _, _, _ => ([], 0, 99)
  | F + 1, o, s, n =>
    if o.most ≤ o.b.length then (if 8 ≤ s.left then ([], 0, 5) else (o.b, n, 0))
    else if (step15 trees low least t s o).1 ≠ 0 then ([], 0, (step15 trees low least t s o).1)
    else dec15L trees low least t F (step15 trees low least t s o).2.1 (step15 trees low least t s o).2.2 (n + 1)
/-- what Decode answers: the text, the steps, what is wrong -/
def dec15 (b : List UInt8) (large trees : Bool) (size : Int) : List UInt8 × Nat × Nat :=
  if size < 0 then ([], 0, 2)
  else if size = 0 then (if b.length = 0 then ([], 0, 0) else ([], 0, 5))
  else if (opn15 trees ⟨b, 0, true, 0⟩).e ≠ 0 then ([], 0, (opn15 trees ⟨b, 0, true, 0⟩).e)
  else dec15L trees (low15 large) (least15 trees) (opn15 trees ⟨b, 0, true, 0⟩) (8 * b.length + 1) ⟨win15 large, size.toNat, true, []⟩ (opn15 trees ⟨b, 0, true, 0⟩).s 0
theorem fail_E (s : RS) (e : Nat) (he : e ≠ 0) : (s.fail e).E ≠ 0 := by
  unfold RS.fail
  by_cases hE : s.E = 0
  · rw [if_pos hE]
    unfold RS.E at hE ⊢
    dsimp only
    by_cases hm : s.made
    · rw [if_pos hm]; exact he
    · rw [if_neg hm]; decide
  · rw [if_neg hE]; exact hE
theorem bits_good0 (s : RS) (n : Int) (h : (s.bits n).2.E = 0) : s.E = 0 ∧ (s.bits n).2.l = s.l ∧ (s.bits n).2.pos = s.pos + n.toNat ∧ (s.pos ≤ 8 * s.l.length → s.pos + n.toNat ≤ 8 * s.l.length) := by
  unfold RS.bits at h ⊢
  by_cases h1 : n < 0 ∨ 32 < n
  · rw [if_pos h1] at h; exact absurd h (fail_E s 2 (by decide))
  rw [if_neg h1] at h ⊢
  by_cases h2 : s.E = 0
  · rw [if_neg (by simpa using h2)] at h ⊢
    have hl : s.left = 8 * s.l.length - s.pos := by unfold RS.left; rw [if_pos h2]
    by_cases h3 : (s.left : Int) < n
    · rw [if_pos h3] at h; exact absurd h (fail_E s 3 (by decide))
    · rw [if_neg h3]
      exact ⟨h2, rfl, rfl, fun hp => by omega⟩
  · rw [if_pos h2] at h
    by_cases h4 : 0 < n
    · rw [if_pos h4] at h; exact absurd h (fail_E s 3 (by decide))
    · rw [if_neg h4] at h; exact absurd h h2
/-- bits that were read -/
theorem bits_good (s : RS) (n : Int) (h : (s.bits n).2.E = 0) (hp : s.pos ≤ 8 * s.l.length) : s.E = 0 ∧ (s.bits n).2.l = s.l ∧ (s.bits n).2.pos = s.pos + n.toNat ∧ s.pos + n.toNat ≤ 8 * s.l.length := by
  obtain ⟨a, b, c, d⟩ := bits_good0 s n h
  exact ⟨a, b, c, d hp⟩
/-- a word that was read -/
theorem nextS_good (L : List Nat) (s : RS) (h : (s.nextS L).2.1 = 0) (hp : s.pos ≤ 8 * s.l.length) : ∃ i, s.E = 0 ∧ (s.nextS L).1 = ((i : Nat) : Int) ∧ i = spick L (tr 16 (num s.l s.pos 16) 0) ∧ (s.nextS L).2.2.l = s.l ∧ (s.nextS L).2.2.E = 0 ∧ (s.nextS L).2.2.pos = s.pos + len L i ∧ s.pos + len L i ≤ 8 * s.l.length := by
  unfold RS.nextS at h ⊢
  by_cases hE : s.E = 0
  · have hl : s.left = 8 * s.l.length - s.pos := by unfold RS.left; rw [if_pos hE]
    rw [if_neg (by simpa using hE)] at h ⊢
    dsimp only at h ⊢
    by_cases h1 : len L (spick L (tr 16 (num s.l s.pos 16) 0)) ≤ s.left
    · rw [if_pos h1]
      exact ⟨_, hE, rfl, rfl, rfl, hE, rfl, by omega⟩
    · rw [if_neg h1] at h; simp at h
  · rw [if_pos hE] at h; exact absurd h hE
/-- without the test for an error behind the low bits all is the same -/
theorem two15_free (low : Nat) (tl tf : List Nat) (s : RS) : two15 low tl tf s = if ((s.bits low).2.nextS tf).2.1 ≠ 0 then (((s.bits low).2.nextS tf).2.1, 0, 0, ((s.bits low).2.nextS tf).2.2)
  else ((len15 tl ((s.bits low).2.nextS tf).2.2).2.1, ((s.bits low).2.nextS tf).1.toNat * 2 ^ low + (s.bits low).1 + 1, (len15 tl ((s.bits low).2.nextS tf).2.2).1, (len15 tl ((s.bits low).2.nextS tf).2.2).2.2) := by
  unfold two15
  by_cases h : (s.bits low).2.E = 0
  · rw [if_neg (by simpa using h)]
  · rw [if_pos h, nextS_err tf _ h, if_pos h]
/-- a full tree -/
def Full15 (L : List Nat) : Prop := (∀ k, k < L.length → len L k ≤ 16) ∧ (∀ k, k < L.length → 1 ≤ len L k) ∧ tot16 L = 65536
theorem nextS_cost (L : List Nat) (s : RS) (hL : Full15 L) (h : (s.nextS L).2.1 = 0) (hp : s.pos ≤ 8 * s.l.length) : ∃ i, i < L.length ∧ (s.nextS L).1 = ((i : Nat) : Int) ∧ (s.nextS L).2.2.l = s.l ∧ (s.nextS L).2.2.E = 0 ∧ s.pos + 1 ≤ (s.nextS L).2.2.pos ∧ (s.nextS L).2.2.pos ≤ 8 * s.l.length := by
  obtain ⟨i, hE, h1, h2, h3, h4, h5, h6⟩ := nextS_good L s h hp
  have hi : i < L.length := by rw [h2]; exact (spick_hit L _ hL.1 hL.2.2 (tr16_lt _)).1
  have := hL.2.1 i hi
  exact ⟨i, hi, h1, h3, h4, by omega, by omega⟩
/-- a byte takes a bit at least, and grows what was told by a byte -/
theorem lit15_cost (trees : Bool) (tb : List Nat) (s : RS) (o : HS) (hL : trees = true → Full15 tb) (h : (lit15 trees tb s o).1 = 0) (hp : s.pos ≤ 8 * s.l.length) :
    (lit15 trees tb s o).2.1.b.length = o.b.length + 1 ∧ (lit15 trees tb s o).2.1.most = o.most ∧ (lit15 trees tb s o).2.1.b.length ≤ o.most ∧ (lit15 trees tb s o).2.2.l = s.l ∧ s.pos + 1 ≤ (lit15 trees tb s o).2.2.pos ∧ (lit15 trees tb s o).2.2.pos ≤ 8 * s.l.length := by
  have hb : (byt15 trees tb s).2.1 = 0 → (byt15 trees tb s).2.2.l = s.l ∧ s.pos + 1 ≤ (byt15 trees tb s).2.2.pos ∧ (byt15 trees tb s).2.2.pos ≤ 8 * s.l.length := by
    intro h0
    unfold byt15 at h0 ⊢
    cases trees with
    | true =>
      rw [if_pos rfl] at h0 ⊢
      obtain ⟨i, _, _, h3, _, h5, h6⟩ := nextS_cost tb s (hL rfl) h0 hp
      exact ⟨h3, h5, h6⟩
    | false =>
      rw [if_neg (by simp)] at h0 ⊢
      obtain ⟨_, h3, h4, h5⟩ := bits_good s 8 h0 hp
      have h8 : (8 : Int).toNat = 8 := rfl
      dsimp only
      rw [h8] at h4 h5
      exact ⟨h3, by omega, by omega⟩
  unfold lit15 at h ⊢
  by_cases h0 : (byt15 trees tb s).2.1 = 0
  · obtain ⟨g1, g2, g3⟩ := hb h0
    rw [if_neg (by simpa using h0)] at h ⊢
    dsimp only at h ⊢
    generalize UInt8.ofNat (byt15 trees tb s).1 = c at h ⊢
    unfold HS.lit at h ⊢
    by_cases hm : o.most ≤ o.b.length
    · rw [if_pos hm] at h; simp at h
    · rw [if_neg hm]
      dsimp only
      rw [List.length_append, List.length_singleton]
      exact ⟨rfl, rfl, by omega, g1, g2, g3⟩
  · rw [if_pos h0] at h; exact absurd h h0
theorem bits_lt15 (s : RS) (n : Nat) (hn : n ≤ 32) : (s.bits n).1 < 2 ^ n := by
  have h0 : 0 < 2 ^ n := Nat.two_pow_pos n
  unfold RS.bits
  split
  · exact h0
  · split
    · exact h0
    · split
      · exact h0
      · exact num_lt _ _ _
theorem len15_cost (tl : List Nat) (s : RS) (hL : Full15 tl) (h64 : tl.length ≤ 64) (h : (len15 tl s).2.1 = 0) (hp : s.pos ≤ 8 * s.l.length) :
    (len15 tl s).1 ≤ 318 ∧ (len15 tl s).2.2.l = s.l ∧ s.pos + 1 ≤ (len15 tl s).2.2.pos ∧ (len15 tl s).2.2.pos ≤ 8 * s.l.length := by
  unfold len15 at h ⊢
  by_cases h0 : (s.nextS tl).2.1 = 0
  · rw [if_neg (by simpa using h0)] at h ⊢
    obtain ⟨i, hi, h1, h3, h4, h5, h6⟩ := nextS_cost tl s hL h0 hp
    by_cases h63 : (s.nextS tl).1 = 63
    · rw [if_pos h63] at h ⊢
      dsimp only at h ⊢
      have hp2 : (s.nextS tl).2.2.pos ≤ 8 * (s.nextS tl).2.2.l.length := by rw [h3]; exact h6
      obtain ⟨_, g3, g4, g5⟩ := bits_good _ 8 h hp2
      have hb := bits_lt15 (s.nextS tl).2.2 8 (by decide)
      rw [h3] at g3 g5
      have h8 : (8 : Int).toNat = 8 := rfl
      rw [h8] at g4 g5
      have hb' : ((s.nextS tl).2.2.bits 8).1 < 256 := hb
      exact ⟨by omega, g3, by omega, by omega⟩
    · rw [if_neg h63]
      dsimp only
      exact ⟨by rw [h1]; omega, h3, h5, h6⟩
  · rw [if_pos h0] at h; exact absurd h h0
theorem two15_cost (low : Nat) (tl tf : List Nat) (s : RS) (hlow : low ≤ 32) (hL : Full15 tl) (h64 : tl.length ≤ 64) (hF : Full15 tf) (hf64 : tf.length ≤ 64) (h : (two15 low tl tf s).1 = 0) (hp : s.pos ≤ 8 * s.l.length) :
    1 ≤ (two15 low tl tf s).2.1 ∧ (two15 low tl tf s).2.1 ≤ 64 * 2 ^ low ∧ (two15 low tl tf s).2.2.1 ≤ 318 ∧ (two15 low tl tf s).2.2.2.l = s.l ∧ s.pos + 2 + low ≤ (two15 low tl tf s).2.2.2.pos ∧ (two15 low tl tf s).2.2.2.pos ≤ 8 * s.l.length := by
  unfold two15 at h ⊢
  by_cases h0 : (s.bits low).2.E = 0
  · rw [if_neg (by simpa using h0)] at h ⊢
    obtain ⟨_, g3, g4, g5⟩ := bits_good s low h0 hp
    have hb := bits_lt15 s low hlow
    generalize s.bits low = B at h h0 g3 g4 hb ⊢
    obtain ⟨x, s1⟩ := B
    dsimp only at h h0 g3 g4 hb ⊢
    have hp1 : s1.pos ≤ 8 * s1.l.length := by rw [g3, g4]; exact g5
    by_cases h1 : (s1.nextS tf).2.1 = 0
    · rw [if_neg (by simpa using h1)] at h ⊢
      obtain ⟨i, hi, k1, k3, k4, k5, k6⟩ := nextS_cost tf s1 hF h1 hp1
      generalize s1.nextS tf = N at h k1 k3 k5 k6 ⊢
      obtain ⟨y, e2, s2⟩ := N
      dsimp only at h k1 k3 k5 k6 ⊢
      have hp2 : s2.pos ≤ 8 * s2.l.length := by rw [k3]; exact k6
      obtain ⟨m1, m2, m3, m4⟩ := len15_cost tl s2 hL h64 h hp2
      have hy : y.toNat = i := by rw [k1]; rfl
      have hi63 : i ≤ 63 := by omega
      have hmul : i * 2 ^ low ≤ 63 * 2 ^ low := Nat.mul_le_mul_right _ hi63
      rw [hy]
      have hln : (low : Int).toNat = low := rfl
      rw [hln] at g4 g5
      rw [k3, g3] at m4 m2
      exact ⟨by omega, by omega, m1, m2, by omega, m4⟩
    · rw [if_pos h1] at h; exact absurd h h1
  · rw [if_pos h0] at h; exact absurd h h0
/-- a copy takes two bits at least, and grows what was told by its length -/
theorem cop15_cost (low least : Nat) (tl tf : List Nat) (s : RS) (o : HS) (hlow : low ≤ 32) (hL : Full15 tl) (h64 : tl.length ≤ 64) (hF : Full15 tf) (hf64 : tf.length ≤ 64) (h : (cop15 low least tl tf s o).1 = 0) (hp : s.pos ≤ 8 * s.l.length) (ho : o.b.length ≤ o.most) :
    o.b.length + least ≤ (cop15 low least tl tf s o).2.1.b.length ∧ (cop15 low least tl tf s o).2.1.b.length ≤ o.b.length + least + 318 ∧ (cop15 low least tl tf s o).2.1.most = o.most ∧ (cop15 low least tl tf s o).2.1.b.length ≤ o.most ∧ (cop15 low least tl tf s o).2.2.l = s.l ∧ s.pos + 2 ≤ (cop15 low least tl tf s o).2.2.pos ∧ (cop15 low least tl tf s o).2.2.pos ≤ 8 * s.l.length := by
  unfold cop15 at h ⊢
  by_cases h0 : (two15 low tl tf s).1 = 0
  · rw [if_neg (by simpa using h0)] at h ⊢
    obtain ⟨a1, a2, a3, a4, a5, a6⟩ := two15_cost low tl tf s hlow hL h64 hF hf64 h0 hp
    generalize two15 low tl tf s = T at h a1 a2 a3 a4 a5 a6 ⊢
    obtain ⟨e, d, n, s2⟩ := T
    dsimp only at h a1 a2 a3 a4 a5 a6 ⊢
    unfold HS.copy at h ⊢
    split at h
    · simp at h
    · split at h
      · simp at h
      · split at h
        · simp at h
        · rename_i c1 c2 c3
          rw [if_neg c1, if_neg c2, if_neg c3]
          dsimp only
          rw [cpy_len]
          exact ⟨by omega, by omega, rfl, by omega, a4, by omega, a6⟩
  · rw [if_pos h0] at h; exact absurd h h0
/-- trees that were read whole -/
def T15.ok (trees : Bool) (t : T15) : Prop := (trees = true → Full15 t.tb ∧ t.tb.length = 256) ∧ (Full15 t.tl ∧ t.tl.length = 64) ∧ Full15 t.tf ∧ t.tf.length = 64
/-- a step takes two bits at least, and grows what was told -/
theorem step15_cost (trees : Bool) (low least : Nat) (t : T15) (s : RS) (o : HS) (hlow : low ≤ 32) (hleast : 1 ≤ least) (ht : t.ok trees) (h : (step15 trees low least t s o).1 = 0) (hp : s.pos ≤ 8 * s.l.length) (ho : o.b.length ≤ o.most) :
    o.b.length + 1 ≤ (step15 trees low least t s o).2.1.b.length ∧ (step15 trees low least t s o).2.1.b.length ≤ o.b.length + least + 318 ∧ (step15 trees low least t s o).2.1.most = o.most ∧ (step15 trees low least t s o).2.1.b.length ≤ o.most ∧ (step15 trees low least t s o).2.2.l = s.l ∧ s.pos + 2 ≤ (step15 trees low least t s o).2.2.pos ∧ (step15 trees low least t s o).2.2.pos ≤ 8 * s.l.length := by
  unfold step15 at h ⊢
  by_cases h0 : (s.bits 1).2.E = 0
  · rw [if_neg (by simpa using h0)] at h ⊢
    obtain ⟨_, g3, g4, g5⟩ := bits_good s 1 h0 hp
    have h1 : (1 : Int).toNat = 1 := rfl
    rw [h1] at g4 g5
    have hp1 : (s.bits 1).2.pos ≤ 8 * (s.bits 1).2.l.length := by rw [g3, g4]; exact g5
    by_cases hb : (s.bits 1).1 = 1
    · rw [if_pos hb] at h ⊢
      obtain ⟨a1, a2, a3, a4, a5, a6⟩ := lit15_cost trees t.tb _ o (fun e => (ht.1 e).1) h hp1
      rw [g3] at a4 a6
      exact ⟨by omega, by omega, a2, a3, a4, by omega, a6⟩
    · rw [if_neg hb] at h ⊢
      obtain ⟨a1, a2, a3, a4, a5, a6, a7⟩ := cop15_cost low least t.tl t.tf _ o hlow ht.2.1.1 (by rw [ht.2.1.2]; decide) ht.2.2.1 (by rw [ht.2.2.2]; decide) h hp1 ho
      rw [g3] at a5 a7
      exact ⟨by omega, a2, a3, a4, a5, by omega, a7⟩
  · rw [if_pos h0] at h; exact absurd h h0
/-- what is told at all is as long as it shall be, in few steps -/
theorem dec15L_ok (trees : Bool) (low least : Nat) (t : T15) (hlow : low ≤ 32) (hleast : 1 ≤ least) (ht : t.ok trees) (F : Nat) (o : HS) (s : RS) (n : Nat) (hp : s.pos ≤ 8 * s.l.length) (ho : o.b.length ≤ o.most) (h2 : 2 * n ≤ s.pos) (hn : n ≤ o.b.length)
    (hd : (dec15L trees low least t F o s n).2.2 = 0) : (dec15L trees low least t F o s n).1.length = o.most ∧ (dec15L trees low least t F o s n).2.1 ≤ o.most ∧ (dec15L trees low least t F o s n).2.1 ≤ 4 * s.l.length := by
  induction F generalizing o s n with
  | zero => rw [dec15L] at hd; simp at hd
  | succ F ih =>
    rw [dec15L] at hd ⊢
    by_cases hm : o.most ≤ o.b.length
    · rw [if_pos hm] at hd ⊢
      by_cases h8 : 8 ≤ s.left
      · rw [if_pos h8] at hd; simp at hd
      · rw [if_neg h8]
        dsimp only
        exact ⟨by omega, by omega, by omega⟩
    · rw [if_neg hm] at hd ⊢
      by_cases h0 : (step15 trees low least t s o).1 = 0
      · rw [if_neg (by simpa using h0)] at hd ⊢
        obtain ⟨a1, a2, a3, a4, a5, a6, a7⟩ := step15_cost trees low least t s o hlow hleast ht h0 hp ho
        have := ih (step15 trees low least t s o).2.1 (step15 trees low least t s o).2.2 (n + 1) (by rw [a5]; exact a7) (by rw [a3]; exact a4) (by omega) (by omega) hd
        rw [a3, a5] at this
        exact this
      · rw [if_pos h0] at hd; exact absurd hd h0
theorem unpR_good (k : Nat) (s : RS) (h : (unpR k s).2.1 = 0) (hp : s.pos ≤ 8 * s.l.length) : (0 < k → s.E = 0) ∧ (unpR k s).2.2.l = s.l ∧ s.pos ≤ (unpR k s).2.2.pos ∧ (unpR k s).2.2.pos ≤ 8 * s.l.length := by
  induction k generalizing s with
  | zero => rw [unpR]; exact ⟨fun h => absurd h (by decide), rfl, Nat.le_refl _, hp⟩
  | succ k ih =>
    rw [unpR] at h ⊢
    by_cases h0 : (s.bits 8).2.E = 0
    · rw [if_neg (by simpa using h0)] at h ⊢
      obtain ⟨g1, g2, g3, g4⟩ := bits_good s 8 h0 hp
      by_cases h1 : (unpR k (s.bits 8).2).2.1 = 0
      · rw [if_neg (by simpa using h1)]
        obtain ⟨_, a2, a3, a4⟩ := ih (s.bits 8).2 h1 (by rw [g2, g3]; exact g4)
        rw [g2] at a2 a4
        exact ⟨fun _ => g1, a2, by dsimp only; omega, a4⟩
      · rw [if_pos h1] at h; exact absurd h h1
    · rw [if_pos h0] at h; exact absurd h h0
theorem unp_good (n : Int) (s : RS) (h : (s.unp n).2.1 = 0) (hp : s.pos ≤ 8 * s.l.length) : ((s.unp n).1.length : Int) = n ∧ (s.unp n).2.2.l = s.l ∧ s.pos ≤ (s.unp n).2.2.pos ∧ (s.unp n).2.2.pos ≤ 8 * s.l.length := by
  unfold RS.unp at h ⊢
  by_cases h0 : n < 1 ∨ 256 < n
  · rw [if_pos h0] at h; simp at h
  rw [if_neg h0] at h ⊢
  by_cases h1 : (unpR ((s.bits 8).1 + 1) (s.bits 8).2).2.1 = 0
  · rw [if_neg (by simpa using h1)] at h ⊢
    by_cases h2 : ((unpR ((s.bits 8).1 + 1) (s.bits 8).2).1.length : Int) = n
    · rw [if_neg (by simpa using h2)]
      have hE : (s.bits 8).2.E = 0 := by
        have := h1
        rw [unpR] at this
        by_cases e : ((s.bits 8).2.bits 8).2.E = 0
        · exact (bits_good0 _ 8 e).1
        · rw [if_pos e] at this; exact absurd this e
      obtain ⟨_, g2, g3, g4⟩ := bits_good s 8 hE hp
      obtain ⟨_, a2, a3, a4⟩ := unpR_good _ (s.bits 8).2 h1 (by rw [g2, g3]; exact g4)
      rw [g2] at a2 a4
      exact ⟨h2, a2, by dsimp only; omega, a4⟩
    · rw [if_pos h2] at h; simp at h
  · rw [if_pos h1] at h; exact absurd h h1
theorem tre_good (n : Int) (s : RS) (h : (tre n s).1 = 0) (hp : s.pos ≤ 8 * s.l.length) : Full15 (tre n s).2.1 ∧ ((tre n s).2.1.length : Int) = n ∧ (tre n s).2.2.l = s.l ∧ s.pos ≤ (tre n s).2.2.pos ∧ (tre n s).2.2.pos ≤ 8 * s.l.length := by
  unfold tre at h ⊢
  by_cases h0 : (s.unp n).2.1 = 0
  · rw [if_neg (by simpa using h0)] at h ⊢
    obtain ⟨a1, a2, a3, a4⟩ := unp_good n s h0 hp
    dsimp only at h ⊢
    obtain ⟨m1, m2⟩ := schk_ok h
    have hls : Ls (s.unp n).1 = Ln (s.unp n).1 := by unfold Ls; rw [if_pos h]
    rw [hls]
    have hlen : (Ln (s.unp n).1).length = (s.unp n).1.length := by unfold Ln; rw [List.length_map]
    refine ⟨⟨fun k hk => (mayS_get m1 k (by omega)).2.2, fun k hk => (mayS_get m1 k (by omega)).2.1, m2⟩, by omega, a2, a3, a4⟩
  · rw [if_pos h0] at h; exact absurd h h0
theorem opn15_good (trees : Bool) (s : RS) (h : (opn15 trees s).e = 0) (hp : s.pos ≤ 8 * s.l.length) : (opn15 trees s).ok trees ∧ (opn15 trees s).s.l = s.l ∧ (opn15 trees s).s.pos ≤ 8 * s.l.length := by
  have hB : (treB trees s).1 = 0 → (trees = true → Full15 (treB trees s).2.1 ∧ (treB trees s).2.1.length = 256) ∧ (treB trees s).2.2.l = s.l ∧ (treB trees s).2.2.pos ≤ 8 * s.l.length := by
    intro h0
    unfold treB at h0 ⊢
    cases trees with
    | true =>
      rw [if_pos rfl] at h0 ⊢
      obtain ⟨a, b, c, _, e⟩ := tre_good 256 s h0 hp
      exact ⟨fun _ => ⟨a, by omega⟩, c, e⟩
    | false => exact ⟨fun h => by simp at h, rfl, hp⟩
  unfold opn15 at h ⊢
  by_cases h0 : (treB trees s).1 = 0
  · obtain ⟨b1, b2, b3⟩ := hB h0
    rw [if_neg (by simpa using h0)] at h ⊢
    by_cases h1 : (tre 64 (treB trees s).2.2).1 = 0
    · rw [if_neg (by simpa using h1)] at h ⊢
      obtain ⟨c1, c2, c3, _, c5⟩ := tre_good 64 _ h1 (by rw [b2]; exact b3)
      rw [b2] at c3 c5
      generalize tre 64 (treB trees s).2.2 = X at h h1 c1 c2 c3 c5 ⊢
      obtain ⟨d1, d2, d3, _, d5⟩ := tre_good 64 X.2.2 h (by rw [c3]; exact c5)
      rw [c3] at d3 d5
      generalize tre 64 X.2.2 = Y at h d1 d2 d3 d5 ⊢
      exact ⟨⟨b1, ⟨c1, by show X.2.1.length = 64; omega⟩, d1, by show Y.2.1.length = 64; omega⟩, d3, d5⟩
    · rw [if_pos h1] at h; exact absurd h h1
  · rw [if_pos h0] at h; exact absurd h h0
/-- just size bytes, or nothing; in few steps -/
theorem dec15_ok (b : List UInt8) (large trees : Bool) (size : Int) (h : (dec15 b large trees size).2.2 = 0) : ((dec15 b large trees size).1.length : Int) = size ∧ ((dec15 b large trees size).2.1 : Int) ≤ size ∧ (dec15 b large trees size).2.1 ≤ 4 * b.length := by
  unfold dec15 at h ⊢
  by_cases h0 : size < 0
  · rw [if_pos h0] at h; simp at h
  rw [if_neg h0] at h ⊢
  by_cases h1 : size = 0
  · rw [if_pos h1] at h ⊢
    by_cases h2 : b.length = 0
    · rw [if_pos h2]; subst h1; exact ⟨rfl, Int.le_refl _, Nat.zero_le _⟩
    · rw [if_neg h2] at h; simp at h
  rw [if_neg h1] at h ⊢
  by_cases h2 : (opn15 trees ⟨b, 0, true, 0⟩).e = 0
  · rw [if_neg (by simpa using h2)] at h ⊢
    obtain ⟨t1, t2, t3⟩ := opn15_good trees ⟨b, 0, true, 0⟩ h2 (Nat.zero_le _)
    have := dec15L_ok trees (low15 large) (least15 trees) _ (by unfold low15; split <;> decide) (by unfold least15; split <;> decide) t1 (8 * b.length + 1) ⟨win15 large, size.toNat, true, []⟩ _ 0 (by rw [t2]; exact t3) (Nat.zero_le _) (Nat.zero_le _) (Nat.zero_le _) h
    rw [t2] at this
    dsimp only at this
    exact ⟨by omega, by omega, this.2.2⟩
  · rw [if_pos h2] at h; exact absurd h h2
theorem dec15_err (b : List UInt8) (large trees : Bool) (size : Int) (h : (dec15 b large trees size).2.2 ≠ 0) : (dec15 b large trees size).1 = [] ∧ (dec15 b large trees size).2.1 = 0 := by
  have hL : ∀ low least t F o s n, (dec15L trees low least t F o s n).2.2 ≠ 0 → (dec15L trees low least t F o s n).1 = [] ∧ (dec15L trees low least t F o s n).2.1 = 0 := by
    intro low least t F
    induction F with
    | zero => intro o s n _; exact ⟨rfl, rfl⟩
    | succ F ih =>
      intro o s n h
      rw [dec15L] at h ⊢
      by_cases a : o.most ≤ o.b.length
      · rw [if_pos a] at h ⊢
        by_cases c : 8 ≤ s.left
        · rw [if_pos c]; exact ⟨rfl, rfl⟩
        · rw [if_neg c] at h; simp at h
      · rw [if_neg a] at h ⊢
        by_cases c : (step15 trees low least t s o).1 = 0
        · rw [if_neg (by simpa using c)] at h ⊢; exact ih _ _ _ h
        · rw [if_pos c]; exact ⟨rfl, rfl⟩
  unfold dec15 at h ⊢
  by_cases h0 : size < 0
  · rw [if_pos h0]; exact ⟨rfl, rfl⟩
  rw [if_neg h0] at h ⊢
  by_cases h1 : size = 0
  · rw [if_pos h1] at h ⊢
    by_cases h2 : b.length = 0
    · rw [if_pos h2]; exact ⟨rfl, rfl⟩
    · rw [if_neg h2]; exact ⟨rfl, rfl⟩
  rw [if_neg h1] at h ⊢
  by_cases h2 : (opn15 trees ⟨b, 0, true, 0⟩).e = 0
  · rw [if_neg (by simpa using h2)] at h ⊢; exact hL _ _ _ _ _ _ _ h
  · rw [if_pos h2]; exact ⟨rfl, rfl⟩
end Go.Proofs.YtokfcgloogdeiaaGreatDoor
namespace Go.Proofs.YtokfcgloogdeiaaGreatDoor
set_option linter.unusedVariables false
set_option linter.unusedSimpArgs false

/-- bytes as bits -/
def b8 (l : List UInt8) : List Bool := l.flatMap (fun x => bitsOf x.toNat 8)
theorem b8_cons (x : UInt8) (l : List UInt8) : b8 (x :: l) = bitsOf x.toNat 8 ++ b8 l := by simp [b8]
theorem bitsOf_mod15 (d n : Nat) : bitsOf (d % 2 ^ n) n = bitsOf d n := by
  induction n generalizing d with
  | zero => rfl
  | succ n ih =>
    rw [bitsOf, bitsOf, Nat.pow_succ', Nat.mod_mul]
    have h1 : (d % 2 + 2 * (d / 2 % 2 ^ n)) % 2 = d % 2 := by omega
    have h2 : (d % 2 + 2 * (d / 2 % 2 ^ n)) / 2 = d / 2 % 2 ^ n := by omega
    rw [h1, h2, ih]
/-- a word that stands there is read -/
theorem nextS_at (L : List UInt8) (LL : List Nat) (i : Nat) (hi : i < LL.length) (hF : Full15 LL) (pre post : List Bool) (h : toBits L = (pre ++ bitsOf (scode LL i) (len LL i)) ++ post) :
    (⟨L, pre.length, true, 0⟩ : RS).nextS LL = ((i : Int), 0, ⟨L, (pre ++ bitsOf (scode LL i) (len LL i)).length, true, 0⟩) := by
  have hl := congrArg List.length h
  simp only [toBits_length, List.length_append, bitsOf_length] at hl
  have hE : (⟨L, pre.length, true, 0⟩ : RS).E = 0 := rfl
  have hn := num_seg L pre post (scode LL i) (len LL i) h
  rw [Nat.mod_eq_of_lt (scode_lt LL i)] at hn
  have h16 := hF.1 i hi
  have hs := (spick_bits LL (num L pre.length 16) (len LL i) i hF.1 hF.2.2 hi rfl).1 (by rw [num_mod L pre.length 16 _ h16, hn])
  unfold RS.nextS
  rw [if_neg (by simpa using hE)]
  dsimp only
  rw [← hs, if_pos (by unfold RS.left; rw [if_pos hE]; dsimp only; omega), List.length_append, bitsOf_length]
theorem unpR_at (L l : List UInt8) (pre post : List Bool) (h : toBits L = (pre ++ b8 l) ++ post) :
    unpR l.length ⟨L, pre.length, true, 0⟩ = (l.flatMap fun b => rowOf b.toNat, 0, ⟨L, (pre ++ b8 l).length, true, 0⟩) := by
  induction l generalizing pre with
  | nil => rw [b8]; simp [unpR]
  | cons x l ih =>
    rw [b8_cons] at h ⊢
    have hb := bits_at L pre (b8 l ++ post) x.toNat 8 (by rw [h]; simp [List.append_assoc]) (by decide) x.toNat_lt
    have h8 : ((8 : Nat) : Int) = 8 := rfl
    rw [h8] at hb
    have hE : (⟨L, (pre ++ bitsOf x.toNat 8).length, true, 0⟩ : RS).E = 0 := rfl
    rw [List.length_cons, unpR, hb, ih (pre ++ bitsOf x.toNat 8) (by rw [h]; simp [List.append_assoc])]
    simp only [hE, ne_eq, not_true_eq_false, if_false, List.flatMap_cons, List.append_assoc]
theorem may_map {zs : List Int} (h : mayS zs = true) : ((Ln zs).map fun (y : Nat) => (y : Int)) = zs := by
  apply List.ext_getElem
  · simp [Ln]
  · intro i h1 h2
    obtain ⟨e, _, _⟩ := mayS_get h i h2
    have h3 : i < (Ln zs).length := by simpa using h1
    rw [List.getElem_map, e]
    congr 1
    unfold len
    rw [List.getD_eq_getElem?_getD, List.getElem?_eq_getElem h3]; rfl
theorem full_of {zs : List Int} (h : schk zs = 0) : Full15 (Ln zs) ∧ (Ln zs).length = zs.length ∧ 0 < zs.length ∧ zs.length ≤ 256 := by
  obtain ⟨m1, m2⟩ := schk_ok h
  obtain ⟨a, b, _⟩ := (mayS_iff zs).1 m1
  have hlen : (Ln zs).length = zs.length := by unfold Ln; rw [List.length_map]
  exact ⟨⟨fun k hk => (mayS_get m1 k (by omega)).2.2, fun k hk => (mayS_get m1 k (by omega)).2.1, m2⟩, hlen, a, b⟩
/-- a tree that was packed is read -/
theorem tre_at (L : List UInt8) (zs : List Int) (n : Nat) (hz : schk zs = 0) (hn : zs.length = n) (pre post : List Bool) (h : toBits L = (pre ++ b8 (packL (Ln zs))) ++ post) :
    tre n ⟨L, pre.length, true, 0⟩ = (0, Ln zs, ⟨L, (pre ++ b8 (packL (Ln zs))).length, true, 0⟩) := by
  obtain ⟨m1, m2⟩ := schk_ok hz
  obtain ⟨hF, hlen, h0, h256⟩ := full_of hz
  have hp := pk_pos (Ln zs) (by intro e; rw [e] at hlen; simp at hlen; omega) 1
  have hl := pk_len (Ln zs) 1
  have hmap := may_map m1
  have hpk : packL (Ln zs) = UInt8.ofNat ((pk 1 (Ln zs)).length - 1) :: pk 1 (Ln zs) := rfl
  have hx : (UInt8.ofNat ((pk 1 (Ln zs)).length - 1)).toNat = (pk 1 (Ln zs)).length - 1 := by
    rw [UInt8.toNat_ofNat']; exact Nat.mod_eq_of_lt (by omega)
  rw [hpk, b8_cons, hx] at h ⊢
  have hb := bits_at L pre (b8 (pk 1 (Ln zs)) ++ post) ((pk 1 (Ln zs)).length - 1) 8 (by rw [h]; simp [List.append_assoc]) (by decide) (by omega)
  have h8 : ((8 : Nat) : Int) = 8 := rfl
  rw [h8] at hb
  have hr := unpR_at L (pk 1 (Ln zs)) (pre ++ bitsOf ((pk 1 (Ln zs)).length - 1) 8) post (by rw [h]; simp [List.append_assoc])
  have hrows : ((pk 1 (Ln zs)).flatMap fun b => rowOf b.toNat) = zs := by
    obtain ⟨x, M, hM⟩ : ∃ x M, Ln zs = x :: M := by
      cases e : Ln zs with
      | nil => rw [e] at hlen; simp at hlen; omega
      | cons x M => exact ⟨x, M, rfl⟩
    have hall : ∀ x ∈ Ln zs, 1 ≤ x ∧ x ≤ 16 := by
      intro x hx
      obtain ⟨i, hi, rfl⟩ := List.getElem_of_mem hx
      have e : len (Ln zs) i = (Ln zs)[i] := by unfold len; rw [List.getD_eq_getElem?_getD, List.getElem?_eq_getElem hi]; rfl
      rw [← e]
      exact ⟨hF.2.1 i hi, hF.1 i hi⟩
    rw [pk_rows (Ln zs) hall 1 (by omega) (by omega) x M hM, hmap]
    simp
  rw [hrows] at hr
  unfold tre RS.unp
  have hrr : unpR ((pk 1 (Ln zs)).length - 1 + 1) ⟨L, (pre ++ bitsOf ((pk 1 (Ln zs)).length - 1) 8).length, true, 0⟩ = (zs, 0, ⟨L, ((pre ++ bitsOf ((pk 1 (Ln zs)).length - 1) 8) ++ b8 (pk 1 (Ln zs))).length, true, 0⟩) := by
    rw [show (pk 1 (Ln zs)).length - 1 + 1 = (pk 1 (Ln zs)).length by omega]; exact hr
  rw [if_neg (show ¬ ((n : Int) < 1 ∨ 256 < (n : Int)) by omega), hb]
  dsimp only
  rw [hrr]
  dsimp only
  rw [if_neg (show ¬ ((0 : Nat) ≠ 0) by simp), if_neg (show ¬ ((zs.length : Int) ≠ (n : Int)) by omega)]
  dsimp only
  rw [if_neg (show ¬ ((0 : Nat) ≠ 0) by simp), hz]
  have hls : Ls zs = Ln zs := by unfold Ls; rw [if_pos hz]
  rw [hls, List.append_assoc]
/-- the bits ahead of the tokens -/
def hd15 (trees : Bool) (LB LL LF : List Nat) : List Bool := ((if trees then b8 (packL LB) else []) ++ b8 (packL LL)) ++ b8 (packL LF)
/-- a token's bits -/
def tkb15 (trees : Bool) (low least : Nat) (LB LL LF : List Nat) (t : Tk) : List Bool :=
  if t.len = 0 then bitsOf 1 1 ++ (if trees then bitsOf (scode LB t.lit.toNat) (len LB t.lit.toNat) else bitsOf t.lit.toNat 8)
  else (((bitsOf 0 1 ++ bitsOf (t.dist - 1).toNat low) ++ bitsOf (scode LF ((t.dist - 1).toNat / 2 ^ low)) (len LF ((t.dist - 1).toNat / 2 ^ low))) ++ bitsOf (scode LL (min (t.len - least).toNat 63)) (len LL (min (t.len - least).toNat 63)))
    ++ (if 63 ≤ (t.len - least).toNat then bitsOf ((t.len - least).toNat - 63) 8 else [])
/-- tokens that may be written -/
def tkOk15 (low least : Nat) (t : Tk) : Prop := (t.len = 0 ∧ t.dist = 0) ∨ ((least : Int) ≤ t.len ∧ t.len ≤ least + 318 ∧ 1 ≤ t.dist ∧ t.dist ≤ 64 * 2 ^ low)
def wb15 (trees : Bool) (low least : Nat) (LB LL LF : List Nat) (ts : List Tk) : List Bool := hd15 trees LB LL LF ++ ts.flatMap (tkb15 trees low least LB LL LF)
def wr15 (trees : Bool) (low least : Nat) (LB LL LF : List Nat) (ts : List Tk) : List UInt8 := ofBits (wb15 trees low least LB LL LF ts)
/-- the trees are read as they were written -/
theorem opn15_at (L : List UInt8) (trees : Bool) (zb zl zf : List Int) (hb : trees = true → schk zb = 0 ∧ zb.length = 256) (hl : schk zl = 0 ∧ zl.length = 64) (hf : schk zf = 0 ∧ zf.length = 64) (post : List Bool) (h : toBits L = hd15 trees (Ln zb) (Ln zl) (Ln zf) ++ post) :
    opn15 trees ⟨L, 0, true, 0⟩ = ⟨0, if trees then Ln zb else [], Ln zl, Ln zf, ⟨L, (hd15 trees (Ln zb) (Ln zl) (Ln zf)).length, true, 0⟩⟩ := by
  have h64 : ((64 : Nat) : Int) = 64 := rfl
  have hB : treB trees ⟨L, 0, true, 0⟩ = (0, if trees then Ln zb else [], ⟨L, (if trees then b8 (packL (Ln zb)) else []).length, true, 0⟩) := by
    unfold treB
    cases trees with
    | true =>
      rw [if_pos rfl, if_pos rfl, if_pos rfl]
      have := tre_at L zb 256 (hb rfl).1 (hb rfl).2 [] (b8 (packL (Ln zl)) ++ b8 (packL (Ln zf)) ++ post) (by rw [h, hd15, if_pos rfl]; simp [List.append_assoc])
      rw [List.nil_append] at this
      exact this
    | false => rfl
  unfold hd15 at h ⊢
  generalize (if trees then b8 (packL (Ln zb)) else []) = p at h hB ⊢
  have h2 := tre_at L zl 64 hl.1 hl.2 p (b8 (packL (Ln zf)) ++ post) (by rw [h]; simp [List.append_assoc])
  have h3 := tre_at L zf 64 hf.1 hf.2 (p ++ b8 (packL (Ln zl))) post (by rw [h])
  rw [h64] at h2 h3
  unfold opn15
  rw [hB]
  dsimp only
  rw [if_neg (show ¬ ((0 : Nat) ≠ 0) by simp), h2]
  dsimp only
  rw [if_neg (show ¬ ((0 : Nat) ≠ 0) by simp), h3]
/-- a token is read as it was written -/
theorem step15_at (L : List UInt8) (trees : Bool) (low least : Nat) (LB LL LF : List Nat) (hlow : low ≤ 7) (hB : trees = true → Full15 LB ∧ LB.length = 256) (hL : Full15 LL ∧ LL.length = 64) (hF : Full15 LF ∧ LF.length = 64) (e : Nat) (sx : RS) (t : Tk) (ht : tkOk15 low least t) (o : HS) (pre post : List Bool)
    (hls : 1 ≤ least) (h : toBits L = (pre ++ tkb15 trees low least LB LL LF t) ++ post) :
    step15 trees low least ⟨e, if trees then LB else [], LL, LF, sx⟩ ⟨L, pre.length, true, 0⟩ o = ((o.tk t).1, (o.tk t).2, ⟨L, (pre ++ tkb15 trees low least LB LL LF t).length, true, 0⟩) := by
  have h1 : ((1 : Nat) : Int) = 1 := rfl
  have h8 : ((8 : Nat) : Int) = 8 := rfl
  unfold tkb15 at h ⊢
  unfold step15 HS.tk
  by_cases h0 : t.len = 0
  · rw [if_pos h0] at h ⊢
    rw [if_pos h0]
    have hb := bits_at L pre ((if trees then bitsOf (scode LB t.lit.toNat) (len LB t.lit.toNat) else bitsOf t.lit.toNat 8) ++ post) 1 1 (by rw [h]; simp [List.append_assoc]) (by decide) (by decide)
    rw [h1] at hb
    rw [hb]
    dsimp only
    rw [if_neg (show ¬ ((⟨L, (pre ++ bitsOf 1 1).length, true, 0⟩ : RS).E ≠ 0) by simp [RS.E]), if_pos rfl, ← List.append_assoc]
    have hby : byt15 trees (if trees then LB else []) ⟨L, (pre ++ bitsOf 1 1).length, true, 0⟩ = (t.lit.toNat, 0, ⟨L, ((pre ++ bitsOf 1 1) ++ (if trees then bitsOf (scode LB t.lit.toNat) (len LB t.lit.toNat) else bitsOf t.lit.toNat 8)).length, true, 0⟩) := by
      unfold byt15
      cases trees with
      | true =>
        obtain ⟨f1, f2⟩ := hB rfl
        rw [if_pos rfl] at h ⊢
        rw [if_pos rfl, if_pos rfl]
        rw [nextS_at L LB t.lit.toNat (by have := t.lit.toNat_lt; omega) f1 (pre ++ bitsOf 1 1) post (by rw [h]; simp [List.append_assoc])]
        rfl
      | false =>
        rw [if_neg (by simp)] at h ⊢
        rw [if_neg (by simp)]
        have hb := bits_at L (pre ++ bitsOf 1 1) post t.lit.toNat 8 (by rw [h]; simp [List.append_assoc]) (by decide) t.lit.toNat_lt
        rw [h8] at hb
        rw [hb]
        rfl
    unfold lit15
    rw [hby]
    dsimp only
    rw [if_neg (show ¬ ((0 : Nat) ≠ 0) by simp), UInt8.ofNat_toNat]
  · rw [if_neg h0] at h ⊢
    rw [if_neg h0]
    obtain ⟨g1, g2, g3, g4⟩ : (least : Int) ≤ t.len ∧ t.len ≤ least + 318 ∧ 1 ≤ t.dist ∧ t.dist ≤ 64 * 2 ^ low := by
      rcases ht with ⟨a, _⟩ | b
      · exact absurd a h0
      · exact b
    obtain ⟨n, hn⟩ : ∃ n : Nat, t.len = (n : Int) + least := ⟨(t.len - least).toNat, by omega⟩
    obtain ⟨d, hd⟩ : ∃ d : Nat, t.dist = (d : Int) + 1 := ⟨(t.dist - 1).toNat, by omega⟩
    have en : (t.len - least).toNat = n := by omega
    have ed : (t.dist - 1).toNat = d := by omega
    have hn318 : n ≤ 318 := by omega
    have hd64 : d < 64 * 2 ^ low := by
      have : ((64 * 2 ^ low : Nat) : Int) = 64 * 2 ^ low := by simp
      omega
    rw [en, ed] at h ⊢
    have hdd : d / 2 ^ low < 64 := (Nat.div_lt_iff_lt_mul (Nat.two_pow_pos low)).2 hd64
    have hlb : bitsOf d low = bitsOf (d % 2 ^ low) low := (bitsOf_mod15 d low).symm
    rw [hlb] at h ⊢
    generalize hw3 : bitsOf (scode LF (d / 2 ^ low)) (len LF (d / 2 ^ low)) = W3 at h ⊢
    generalize hw4 : bitsOf (scode LL (min n 63)) (len LL (min n 63)) = W4 at h ⊢
    generalize hw5 : (if 63 ≤ n then bitsOf (n - 63) 8 else []) = W5 at h ⊢
    have hb := bits_at L pre (bitsOf (d % 2 ^ low) low ++ W3 ++ W4 ++ W5 ++ post) 0 1 (by rw [h]; simp [List.append_assoc]) (by decide) (by decide)
    have hb2 := bits_at L (pre ++ bitsOf 0 1) (W3 ++ W4 ++ W5 ++ post) (d % 2 ^ low) low (by rw [h]; simp [List.append_assoc]) (by omega) (Nat.mod_lt _ (Nat.two_pow_pos low))
    have hb3 := nextS_at L LF (d / 2 ^ low) (by omega) hF.1 ((pre ++ bitsOf 0 1) ++ bitsOf (d % 2 ^ low) low) (W4 ++ W5 ++ post) (by rw [h, hw3]; simp [List.append_assoc])
    rw [hw3] at hb3
    have hb4 := nextS_at L LL (min n 63) (by omega) hL.1 (((pre ++ bitsOf 0 1) ++ bitsOf (d % 2 ^ low) low) ++ W3) (W5 ++ post) (by rw [h, hw4]; simp [List.append_assoc])
    rw [hw4] at hb4
    rw [h1] at hb
    rw [hb]
    dsimp only
    rw [if_neg (show ¬ ((⟨L, (pre ++ bitsOf 0 1).length, true, 0⟩ : RS).E ≠ 0) by simp [RS.E]), if_neg (by decide)]
    have hlen : len15 LL ⟨L, (((pre ++ bitsOf 0 1) ++ bitsOf (d % 2 ^ low) low) ++ W3).length, true, 0⟩ = (n, 0, ⟨L, (((((pre ++ bitsOf 0 1) ++ bitsOf (d % 2 ^ low) low) ++ W3) ++ W4) ++ W5).length, true, 0⟩) := by
      unfold len15
      rw [hb4]
      dsimp only
      rw [if_neg (show ¬ ((0 : Nat) ≠ 0) by simp)]
      by_cases h63 : 63 ≤ n
      · rw [if_pos h63] at hw5
        subst hw5
        rw [if_pos (by omega)]
        have hb5 := bits_at L ((((pre ++ bitsOf 0 1) ++ bitsOf (d % 2 ^ low) low) ++ W3) ++ W4) post (n - 63) 8 (by rw [h]; simp [List.append_assoc]) (by decide) (by omega)
        rw [h8] at hb5
        rw [hb5]
        dsimp only
        have : 63 + (n - 63) = n := by omega
        rw [this]
        rfl
      · rw [if_neg h63] at hw5
        subst hw5
        rw [if_neg (by omega), List.append_nil]
        have : ((min n 63 : Nat) : Int).toNat = n := by omega
        rw [this]
    have htwo : two15 low LL LF ⟨L, (pre ++ bitsOf 0 1).length, true, 0⟩ = (0, d + 1, n, ⟨L, (((((pre ++ bitsOf 0 1) ++ bitsOf (d % 2 ^ low) low) ++ W3) ++ W4) ++ W5).length, true, 0⟩) := by
      unfold two15
      rw [hb2]
      dsimp only
      rw [if_neg (show ¬ ((⟨L, ((pre ++ bitsOf 0 1) ++ bitsOf (d % 2 ^ low) low).length, true, 0⟩ : RS).E ≠ 0) by simp [RS.E]), hb3]
      dsimp only
      rw [if_neg (show ¬ ((0 : Nat) ≠ 0) by simp), hlen]
      have : ((d / 2 ^ low : Nat) : Int).toNat * 2 ^ low + d % 2 ^ low + 1 = d + 1 := by
        rw [Int.toNat_natCast, Nat.mul_comm, Nat.div_add_mod]
      rw [this]
    unfold cop15
    rw [htwo]
    dsimp only
    rw [if_neg (show ¬ ((0 : Nat) ≠ 0) by simp), hn, hd]
    have : ((n + least : Nat) : Int) = (n : Int) + least := by simp
    have h2 : ((d + 1 : Nat) : Int) = (d : Int) + 1 := by simp
    rw [this, h2]
    simp only [List.append_assoc]
theorem tk_pos {low least : Nat} (hls : 1 ≤ least) {t : Tk} (ht : tkOk15 low least t) : 1 ≤ sz1 t := by
  unfold sz1
  rcases ht with ⟨a, _⟩ | ⟨a, _⟩
  · rw [if_pos a]; exact Nat.le_refl _
  · rw [if_neg (by omega)]; omega
/-- all tokens are read as they were written -/
theorem dec15L_at (L : List UInt8) (trees : Bool) (low least : Nat) (LB LL LF : List Nat) (hlow : low ≤ 7) (hls : 1 ≤ least) (hB : trees = true → Full15 LB ∧ LB.length = 256) (hL : Full15 LL ∧ LL.length = 64) (hF : Full15 LF ∧ LF.length = 64) (e : Nat) (sx : RS) (post : List Bool) (hpost : post.length < 8)
    (ts : List Tk) (hts : ∀ t ∈ ts, tkOk15 low least t) (F : Nat) (hFl : ts.length < F) (o : HS) (n : Nat) (ho : (tellT o ts).1 = 0) (hfull : (tellT o ts).2.b.length = o.most) (pre : List Bool) (h : toBits L = (pre ++ ts.flatMap (tkb15 trees low least LB LL LF)) ++ post) :
    dec15L trees low least ⟨e, if trees then LB else [], LL, LF, sx⟩ F o ⟨L, pre.length, true, 0⟩ n = ((tellT o ts).2.b, n + ts.length, 0) := by
  induction ts generalizing F o n pre with
  | nil =>
    obtain ⟨F, rfl⟩ : ∃ G, F = G + 1 := ⟨F - 1, by simp at hFl; omega⟩
    have hl := congrArg List.length h
    simp only [toBits_length, List.length_append, List.flatMap_nil, List.length_nil, Nat.add_zero] at hl
    rw [tellT] at hfull ⊢
    rw [dec15L, if_pos (by dsimp only at hfull; omega), if_neg (by unfold RS.left; rw [if_pos (show (⟨L, pre.length, true, 0⟩ : RS).E = 0 from rfl)]; dsimp only; omega)]
    rfl
  | cons t ts ih =>
    obtain ⟨F, rfl⟩ : ∃ G, F = G + 1 := ⟨F - 1, by simp at hFl; omega⟩
    have ht := hts t (by simp)
    have hsz := tellT_size ho
    have hp := tk_pos hls ht
    have hsum : sumT (t :: ts) = sz1 t + sumT ts := by simp [sumT]
    rw [List.flatMap_cons] at h
    have hst := step15_at L trees low least LB LL LF hlow hB hL hF e sx t ht o pre (ts.flatMap (tkb15 trees low least LB LL LF) ++ post) hls (by rw [h]; simp [List.append_assoc])
    rw [tellT] at ho hfull ⊢
    by_cases h1 : (o.tk t).1 = 0
    · rw [if_pos h1] at ho hfull ⊢
      rw [tellT, if_pos h1] at hsz
      have hm := (HS.tk_ok h1).2.2.1
      rw [dec15L, if_neg (by omega), hst]
      dsimp only
      rw [if_neg (by simpa using h1), ih (fun x hx => hts x (by simp [hx])) F (by simp at hFl; omega) (o.tk t).2 (n + 1) ho (by rw [hm]; exact hfull) (pre ++ tkb15 trees low least LB LL LF t) (by rw [h]; simp [List.append_assoc])]
      congr 2
      simp; omega
    · rw [if_neg h1] at ho; exact absurd ho h1
theorem tellT_fit {s : HS} {ts : List Tk} (h : (tellT s ts).1 = 0) (m : Nat) (hm : s.b.length + sumT ts ≤ m) : tellT { s with most := m } ts = (0, { (tellT s ts).2 with most := m }) := by
  induction ts generalizing s with
  | nil => simp [tellT]
  | cons t ts ih =>
    have hs : sumT (t :: ts) = sz1 t + sumT ts := by simp [sumT]
    rw [tellT] at h ⊢
    by_cases h1 : (s.tk t).1 = 0
    · rw [if_pos h1] at h
      have hk := (HS.tk_ok h1).1
      rw [(HS.tk_less h1 m (by omega)).1 (by omega), if_pos rfl, ih h (by omega), tellT, if_pos h1]
    · rw [if_neg h1] at h; exact absurd h h1
theorem pad8_append (bs : List Bool) : ∃ post, pad8 bs = bs ++ post ∧ post.length < 8 := by
  unfold pad8
  exact ⟨_, rfl, by simp; omega⟩
/-- tokens that may be written tell something, in a great room -/
theorem tellT_ok15 (low least : Nat) (ts : List Tk) (hts : ∀ t ∈ ts, tkOk15 low least t) (o : HS) (hn : o.nou = true) (hw : o.win = 64 * 2 ^ low) (hm : o.b.length + (least + 318) * ts.length ≤ o.most) (hls : 1 ≤ least) : (tellT o ts).1 = 0 := by
  induction ts generalizing o with
  | nil => rfl
  | cons t ts ih =>
    have ht := hts t (by simp)
    rw [List.length_cons, Nat.mul_succ] at hm
    have hp := tk_pos hls ht
    have h1 : (o.tk t).1 = 0 := by
      unfold HS.tk
      rcases ht with ⟨a, _⟩ | ⟨g1, g2, g3, g4⟩
      · rw [if_pos a]; unfold HS.lit; rw [if_neg (by omega)]
      · rw [if_neg (by omega)]
        unfold HS.copy
        have : ((64 * 2 ^ low : Nat) : Int) = 64 * 2 ^ low := by simp
        rw [if_neg (by omega), if_neg (by rw [hn, hw]; simp; omega), if_neg (by omega)]
    have hk := HS.tk_ok h1
    have hz : sz1 t ≤ least + 318 := by
      unfold sz1
      rcases ht with ⟨a, _⟩ | ⟨g1, g2, _, _⟩
      · rw [if_pos a]; omega
      · rw [if_neg (by omega)]; omega
    rw [tellT, if_pos h1]
    exact ih (fun x hx => hts x (by simp [hx])) (o.tk t).2 (by rw [hk.2.2.2]; exact hn) (by rw [hk.2.1]; exact hw) (by rw [hk.1, hk.2.2.1]; omega)
/-- TOLD AS THEY TELL: what is written of tokens is decoded as they tell -/
theorem dec15_wr (large trees : Bool) (zb zl zf : List Int) (hb : trees = true → schk zb = 0 ∧ zb.length = 256) (hl : schk zl = 0 ∧ zl.length = 64) (hf : schk zf = 0 ∧ zf.length = 64) (ts : List Tk) (hts : ∀ t ∈ ts, tkOk15 (low15 large) (least15 trees) t) (o : HS) (ho : (tellT o ts).1 = 0) (h0 : o.b = []) (hn : o.nou = true) (hw : o.win = win15 large) (hne : ts ≠ []) :
    dec15 (wr15 trees (low15 large) (least15 trees) (Ln zb) (Ln zl) (Ln zf) ts) large trees (tellT o ts).2.b.length = ((tellT o ts).2.b, ts.length, 0) := by
  have hsz := tellT_size ho
  have hls : 1 ≤ least15 trees := by unfold least15; split <;> decide
  have hlow : low15 large ≤ 7 := by unfold low15; split <;> decide
  have hpos : 1 ≤ sumT ts := by
    cases ts with
    | nil => exact absurd rfl hne
    | cons t ts => have := tk_pos hls (hts t (by simp)); simp [sumT]; omega
  rw [h0] at hsz
  simp only [List.length_nil, Nat.zero_add] at hsz
  have hfit := tellT_fit ho (sumT ts) (by rw [h0]; simp)
  obtain ⟨post, hp1, hp2⟩ := pad8_append (wb15 trees (low15 large) (least15 trees) (Ln zb) (Ln zl) (Ln zf) ts)
  have hbits : toBits (wr15 trees (low15 large) (least15 trees) (Ln zb) (Ln zl) (Ln zf) ts) = (hd15 trees (Ln zb) (Ln zl) (Ln zf) ++ ts.flatMap (tkb15 trees (low15 large) (least15 trees) (Ln zb) (Ln zl) (Ln zf))) ++ post := by
    unfold wr15; rw [toBits_ofBits, hp1]; rfl
  generalize wr15 trees (low15 large) (least15 trees) (Ln zb) (Ln zl) (Ln zf) ts = L at hbits ⊢
  have hop := opn15_at L trees zb zl zf hb hl hf (ts.flatMap (tkb15 trees (low15 large) (least15 trees) (Ln zb) (Ln zl) (Ln zf)) ++ post) (by rw [hbits]; simp [List.append_assoc])
  have hlb := congrArg List.length hbits
  have htl : ts.length ≤ (ts.flatMap (tkb15 trees (low15 large) (least15 trees) (Ln zb) (Ln zl) (Ln zf))).length := by
    generalize hg : tkb15 trees (low15 large) (least15 trees) (Ln zb) (Ln zl) (Ln zf) = g
    have h1 : ∀ t, 1 ≤ (g t).length := by
      intro t
      rw [← hg]
      unfold tkb15
      split
      · rw [List.length_append, bitsOf_length]; omega
      · simp only [List.length_append, bitsOf_length]; omega
    clear hg hop hbits hlb hfit hsz hpos hne ho hts hp1
    induction ts with
    | nil => simp
    | cons t ts ih => rw [List.flatMap_cons, List.length_append, List.length_cons]; have := h1 t; omega
  simp only [toBits_length, List.length_append] at hlb
  unfold dec15
  rw [hsz, if_neg (by omega), if_neg (by omega), hop]
  dsimp only
  rw [if_neg (show ¬ ((0 : Nat) ≠ 0) by simp), Int.toNat_natCast]
  have hB2 : trees = true → Full15 (Ln zb) ∧ (Ln zb).length = 256 := fun e => ⟨(full_of (hb e).1).1, by rw [(full_of (hb e).1).2.1]; exact (hb e).2⟩
  have heq : (⟨win15 large, sumT ts, true, []⟩ : HS) = { o with most := sumT ts } := by
    obtain ⟨a, b, c, d⟩ := o
    dsimp only at h0 hn hw ⊢
    rw [h0, hn, hw]
  have hd := dec15L_at L trees (low15 large) (least15 trees) (Ln zb) (Ln zl) (Ln zf) hlow hls hB2 ⟨(full_of hl.1).1, by rw [(full_of hl.1).2.1]; exact hl.2⟩ ⟨(full_of hf.1).1, by rw [(full_of hf.1).2.1]; exact hf.2⟩ 0 ⟨L, (hd15 trees (Ln zb) (Ln zl) (Ln zf)).length, true, 0⟩ post hp2 ts hts (8 * L.length + 1) (by omega) { o with most := sumT ts } 0 (by rw [hfit]) (by rw [hfit]; exact hsz) (hd15 trees (Ln zb) (Ln zl) (Ln zf)) hbits
  rw [heq, hd, hfit, Nat.zero_add]
end Go.Proofs.YtokfcgloogdeiaaGreatDoor
namespace Go.Proofs.YtokfcgloogdeiaaGreatDoor
set_option linter.unusedVariables false
set_option linter.unusedSimpArgs false

/-- a word of a canonical code that stands there is read -/
theorem next_at (L : List UInt8) (LL : List Nat) (i : Nat) (hi : i < LL.length) (h0 : 0 < len LL i) (hL : ∀ x ∈ LL, x ≤ 16) (hw : wt LL ≤ 65536) (pre post : List Bool) (h : toBits L = (pre ++ bitsOf (code LL i) (len LL i)) ++ post) :
    (⟨L, pre.length, true, 0⟩ : RS).next LL = ((i : Int), 0, ⟨L, (pre ++ bitsOf (code LL i) (len LL i)).length, true, 0⟩) := by
  have hl := congrArg List.length h
  simp only [toBits_length, List.length_append, bitsOf_length] at hl
  have hE : (⟨L, pre.length, true, 0⟩ : RS).E = 0 := rfl
  have h16 : len LL i ≤ 16 := by rw [len_get LL i hi]; exact hL _ (List.getElem_mem hi)
  have hn := num_seg L pre post (code LL i) (len LL i) h
  rw [Nat.mod_eq_of_lt (code_lt LL i)] at hn
  have hh := (hit_bits LL (num L pre.length 16) i 16 hi hL hw h0).1 (by rw [num_mod L pre.length 16 _ h16, hn])
  have hlf : (⟨L, pre.length, true, 0⟩ : RS).left = 8 * L.length - pre.length := by unfold RS.left; rw [if_pos hE]
  have hp := (pick_some LL (tr 16 (num L pre.length 16) 0) (min 16 (⟨L, pre.length, true, 0⟩ : RS).left) i hL).2 ⟨hh, by rw [hlf]; omega⟩
  rw [RS.next_hit LL _ hE i hp, List.length_append, bitsOf_length]
/-- the order of the third code's symbols -/
def ordD : List Nat := [16, 17, 18, 0, 8, 7, 9, 6, 10, 5, 11, 4, 12, 3, 13, 2, 14, 1, 15]
/-- the lengths of the third code, as they are read -/
def th17 (s : RS) : Nat → List Int × RS
  | 0 => (List.replicate 19 0, s)
  | k + 1 => ((th17 s k).1.set (ordD.getD k 0) (((th17 s k).2.bits 3).1 : Int), ((th17 s k).2.bits 3).2)
/-- how often what stands there comes: the number, what is wrong (7: there is none ahead), the reader -/
def often17 (y : Int) (s : RS) : Nat × RS :=
  if y = 16 then (3 + (s.bits 2).1, (s.bits 2).2) else if y = 17 then (3 + (s.bits 3).1, (s.bits 3).2) else if y = 18 then (11 + (s.bits 7).1, (s.bits 7).2) else (1, s)
def what17 (all : List Int) (y : Int) : Int := if y = 16 then all.getLastD 0 else if y = 17 ∨ y = 18 then 0 else y
/-- both lists, one behind the other -/
def ls17 (LL : List Nat) (N : Nat) : Nat → List Int → RS → List Int × Nat × RS
  | 0, _, s => ([], 99, s)
  | F + 1, all, s =>
    if N ≤ all.length then (all, 0, s)
    else if (s.next LL).2.1 ≠ 0 then ([], (s.next LL).2.1, (s.next LL).2.2)
    else if (often17 (s.next LL).1 (s.next LL).2.2).2.E ≠ 0 then ([], (often17 (s.next LL).1 (s.next LL).2.2).2.E, (often17 (s.next LL).1 (s.next LL).2.2).2)
    else if (s.next LL).1 = 16 ∧ all = [] then ([], 7, (often17 (s.next LL).1 (s.next LL).2.2).2)
    else if N - all.length < (often17 (s.next LL).1 (s.next LL).2.2).1 then ([], 4, (often17 (s.next LL).1 (s.next LL).2.2).2)
    else ls17 LL N F (all ++ List.replicate (often17 (s.next LL).1 (s.next LL).2.2).1 (what17 all (s.next LL).1)) (often17 (s.next LL).1 (s.next LL).2.2).2
/-- a weight of 1, or one word of one bit; or none -/
def whole17 (l : List Int) (none : Bool) : Bool :=
  l.all (fun z => decide (0 ≤ z) && decide (z ≤ 15)) && (if l.countP (fun z => decide (0 < z)) = 0 then none else (decide (l.countP (fun z => decide (0 < z)) = 1) && decide (l.countP (fun z => decide (z = 1)) = 1)) || decide (chk l = 1))
def right17 (lit dist : List Int) (large : Bool) : Bool :=
  decide (257 ≤ lit.length ∧ lit.length ≤ 286 ∧ 1 ≤ dist.length ∧ dist.length ≤ (if large then 32 else 30)) && (decide (0 < lit.getD 256 0) && (whole17 lit false && whole17 dist true))
/-- what Read answers: both lists, what is wrong, the reader -/
def rd17 (s : RS) (large : Bool) : List Int × List Int × Nat × RS :=
  let a := (s.bits 5).1 + 257
  let s1 := (s.bits 5).2
  let b := (s1.bits 5).1 + 1
  let s2 := (s1.bits 5).2
  let n := (s2.bits 4).1 + 4
  let s3 := (s2.bits 4).2
  if s3.E ≠ 0 then ([], [], s3.E, s3)
  else if 286 < a ∨ (30 < b ∧ large = false) then ([], [], 4, s3)
  else if (th17 s3 n).2.E ≠ 0 then ([], [], (th17 s3 n).2.E, (th17 s3 n).2)
  else if chk (th17 s3 n).1 ≠ 1 then ([], [], 6, (th17 s3 n).2)
  else if (ls17 (Ln (th17 s3 n).1) (a + b) (a + b + 1) [] (th17 s3 n).2).2.1 ≠ 0 then ([], [], (ls17 (Ln (th17 s3 n).1) (a + b) (a + b + 1) [] (th17 s3 n).2).2.1, (ls17 (Ln (th17 s3 n).1) (a + b) (a + b + 1) [] (th17 s3 n).2).2.2)
  else if right17 ((ls17 (Ln (th17 s3 n).1) (a + b) (a + b + 1) [] (th17 s3 n).2).1.take a) ((ls17 (Ln (th17 s3 n).1) (a + b) (a + b + 1) [] (th17 s3 n).2).1.drop a) large = false then ([], [], 6, (ls17 (Ln (th17 s3 n).1) (a + b) (a + b + 1) [] (th17 s3 n).2).2.2)
  else ((ls17 (Ln (th17 s3 n).1) (a + b) (a + b + 1) [] (th17 s3 n).2).1.take a, (ls17 (Ln (th17 s3 n).1) (a + b) (a + b + 1) [] (th17 s3 n).2).1.drop a, 0, (ls17 (Ln (th17 s3 n).1) (a + b) (a + b + 1) [] (th17 s3 n).2).2.2)
/-- a token of lengths: a symbol of the third code, the number behind it -/
structure Lt where
  sym : Nat
  x : Nat
/-- how many bits stand behind a symbol -/
def ltBits (y : Nat) : Nat := if y = 16 then 2 else if y = 17 then 3 else if y = 18 then 7 else 0
def Lt.often (t : Lt) : Nat := if t.sym = 16 then 3 + t.x else if t.sym = 17 then 3 + t.x else if t.sym = 18 then 11 + t.x else 1
def Lt.bits (LL : List Nat) (t : Lt) : List Bool := bitsOf (code LL t.sym) (len LL t.sym) ++ bitsOf t.x (ltBits t.sym)
/-- tokens told, one behind the other -/
def exp17 : List Int → List Lt → List Int
  | all, [] => all
  | all, t :: ts => exp17 (all ++ List.replicate t.often (what17 all (t.sym : Int))) ts
def Lt.ok (LL : List Nat) (t : Lt) : Prop := t.sym < 19 ∧ t.sym < LL.length ∧ 0 < len LL t.sym ∧ t.x < 2 ^ ltBits t.sym
theorem exp17_len (all : List Int) (ts : List Lt) : (exp17 all ts).length = all.length + (ts.map Lt.often).sum := by
  induction ts generalizing all with
  | nil => rw [exp17]; simp
  | cons t ts ih => rw [exp17, ih, List.length_append, List.length_replicate, List.map_cons, List.sum_cons]; omega
theorem often_pos (t : Lt) : 1 ≤ t.often := by unfold Lt.often; repeat' split
                                               all_goals omega
theorem often17_at (L : List UInt8) (t : Lt) (hx : t.x < 2 ^ ltBits t.sym) (pre post : List Bool) (h : toBits L = (pre ++ bitsOf t.x (ltBits t.sym)) ++ post) :
    often17 (t.sym : Int) ⟨L, pre.length, true, 0⟩ = (t.often, ⟨L, (pre ++ bitsOf t.x (ltBits t.sym)).length, true, 0⟩) := by
  have e2 : ((2 : Nat) : Int) = 2 := rfl
  have e3 : ((3 : Nat) : Int) = 3 := rfl
  have e7 : ((7 : Nat) : Int) = 7 := rfl
  unfold often17 Lt.often
  unfold ltBits at h hx ⊢
  by_cases h16 : t.sym = 16
  · rw [if_pos h16] at h hx ⊢
    rw [if_pos (by omega), if_pos h16]
    have := bits_at L pre post t.x 2 h (by decide) hx
    rw [e2] at this
    rw [this]
  · rw [if_neg h16] at h hx ⊢
    rw [if_neg (by omega), if_neg h16]
    by_cases h17 : t.sym = 17
    · rw [if_pos h17] at h hx ⊢
      rw [if_pos (by omega), if_pos h17]
      have := bits_at L pre post t.x 3 h (by decide) hx
      rw [e3] at this
      rw [this]
    · rw [if_neg h17] at h hx ⊢
      rw [if_neg (by omega), if_neg h17]
      by_cases h18 : t.sym = 18
      · rw [if_pos h18] at h hx ⊢
        rw [if_pos (by omega), if_pos h18]
        have := bits_at L pre post t.x 7 h (by decide) hx
        rw [e7] at this
        rw [this]
      · rw [if_neg h18]
        rw [if_neg (by omega), if_neg h18]
        simp [bitsOf]
/-- tokens of lengths that were written are read -/
theorem ls17_at (L : List UInt8) (LL : List Nat) (hL : ∀ x ∈ LL, x ≤ 16) (hw : wt LL ≤ 65536) (N : Nat) (ts : List Lt) (hts : ∀ t ∈ ts, t.ok LL) (F : Nat) (hF : ts.length < F) (all : List Int) (hN : (exp17 all ts).length = N)
    (h16 : all ≠ [] ∨ ∀ t, ts.head? = some t → t.sym ≠ 16) (pre post : List Bool) (h : toBits L = (pre ++ ts.flatMap (Lt.bits LL)) ++ post) :
    ls17 LL N F all ⟨L, pre.length, true, 0⟩ = (exp17 all ts, 0, ⟨L, (pre ++ ts.flatMap (Lt.bits LL)).length, true, 0⟩) := by
  induction ts generalizing F all pre with
  | nil =>
    obtain ⟨F, rfl⟩ : ∃ G, F = G + 1 := ⟨F - 1, by simp at hF; omega⟩
    rw [exp17] at hN ⊢
    rw [ls17, if_pos (by omega)]
    simp
  | cons t ts ih =>
    obtain ⟨F, rfl⟩ : ∃ G, F = G + 1 := ⟨F - 1, by simp at hF; omega⟩
    obtain ⟨o1, o2, o3, o4⟩ := hts t (by simp)
    have hlen := exp17_len all (t :: ts)
    rw [hN, List.map_cons, List.sum_cons] at hlen
    have hp := often_pos t
    have hbt : Lt.bits LL t = bitsOf (code LL t.sym) (len LL t.sym) ++ bitsOf t.x (ltBits t.sym) := rfl
    rw [List.flatMap_cons, hbt] at h ⊢
    have hn := next_at L LL t.sym o2 o3 hL hw pre (bitsOf t.x (ltBits t.sym) ++ (ts.flatMap (Lt.bits LL) ++ post)) (by rw [h]; simp [List.append_assoc])
    have ho := often17_at L t o4 (pre ++ bitsOf (code LL t.sym) (len LL t.sym)) (ts.flatMap (Lt.bits LL) ++ post) (by rw [h]; simp [List.append_assoc])
    have hih := ih (fun x hx => hts x (by simp [hx])) F (by simp at hF; omega) (all ++ List.replicate t.often (what17 all (t.sym : Int))) (by rw [exp17] at hN; exact hN)
      (.inl (by intro e; have := congrArg List.length e; simp at this; omega)) ((pre ++ bitsOf (code LL t.sym) (len LL t.sym)) ++ bitsOf t.x (ltBits t.sym)) (by rw [h]; simp [List.append_assoc])
    rw [ls17, if_neg (by omega), hn]
    dsimp only
    rw [if_neg (show ¬ ((0 : Nat) ≠ 0) by simp), ho]
    dsimp only
    rw [if_neg (by simp [RS.E]), if_neg (by
      intro ⟨e1, e2⟩
      rcases h16 with h | h
      · exact h e2
      · exact h t rfl (by omega)), if_neg (by omega), hih, exp17]
    simp only [List.append_assoc]
theorem ls17_len (LL : List Nat) (N F : Nat) (all : List Int) (s : RS) (ha : all.length ≤ N) (h : (ls17 LL N F all s).2.1 = 0) : (ls17 LL N F all s).1.length = N := by
  induction F generalizing all s with
  | zero => rw [ls17] at h; simp at h
  | succ F ih =>
    rw [ls17] at h ⊢
    split at h
    · rename_i h1; rw [if_pos h1]; dsimp only; omega
    · rename_i h1
      rw [if_neg h1]
      split at h
      · rename_i h2; exact absurd h h2
      · rename_i h2
        rw [if_neg h2]
        split at h
        · rename_i h3; exact absurd h h3
        · rename_i h3
          rw [if_neg h3]
          split at h
          · simp at h
          · rename_i h4
            rw [if_neg h4]
            split at h
            · simp at h
            · rename_i h5
              rw [if_neg h5]
              exact ih _ _ (by rw [List.length_append, List.length_replicate]; omega) h
/-- the cases of Read -/
theorem rd17_cases (s : RS) (large : Bool) (x1 : Nat) (s1 : RS) (x2 : Nat) (s2 : RS) (x3 : Nat) (s3 : RS) (T : List Int) (s4 : RS) (al : List Int) (er : Nat) (s5 : RS) (h1 : s.bits 5 = (x1, s1)) (h2 : s1.bits 5 = (x2, s2)) (h3 : s2.bits 4 = (x3, s3)) (h4 : th17 s3 (x3 + 4) = (T, s4))
    (h5 : ls17 (Ln T) (x1 + 257 + (x2 + 1)) (x1 + 257 + (x2 + 1) + 1) [] s4 = (al, er, s5)) :
    (s3.E ≠ 0 → rd17 s large = ([], [], s3.E, s3)) ∧ (s3.E = 0 → 286 < x1 + 257 ∨ (30 < x2 + 1 ∧ large = false) → rd17 s large = ([], [], 4, s3)) ∧
    (s3.E = 0 → ¬ (286 < x1 + 257 ∨ (30 < x2 + 1 ∧ large = false)) → (s4.E ≠ 0 → rd17 s large = ([], [], s4.E, s4)) ∧ (s4.E = 0 → (chk T ≠ 1 → rd17 s large = ([], [], 6, s4)) ∧ (chk T = 1 →
      (er ≠ 0 → rd17 s large = ([], [], er, s5)) ∧ (er = 0 → rd17 s large = if right17 (al.take (x1 + 257)) (al.drop (x1 + 257)) large = false then ([], [], 6, s5) else (al.take (x1 + 257), al.drop (x1 + 257), 0, s5))))) := by
  unfold rd17
  rw [h1]; dsimp only; rw [h2]; dsimp only; rw [h3]; dsimp only; rw [h4]; dsimp only; rw [h5]; dsimp only
  refine ⟨fun h => by rw [if_pos h], fun h g => by rw [if_neg (by simpa using h), if_pos g], fun h g => ?_⟩
  rw [if_neg (by simpa using h), if_neg g]
  refine ⟨fun a => by rw [if_pos a], fun a => ⟨fun b => by rw [if_neg (by simpa using a), if_pos b], fun b => ⟨fun c => by rw [if_neg (by simpa using a), if_neg (by simpa using b), if_pos c], fun c => by rw [if_neg (by simpa using a), if_neg (by simpa using b), if_neg (by simpa using c)]⟩⟩⟩
end Go.Proofs.YtokfcgloogdeiaaGreatDoor
namespace Go.Proofs.YtokfcgloogdeiaaGreatDoor
set_option linter.unusedVariables false
set_option linter.unusedSimpArgs false

/-- the third code's lengths, as far as they stand there -/
def hd3 (T : List Int) (n : Nat) : List Bool := (List.range n).flatMap fun i => bitsOf (T.getD (ordD.getD i 0) 0).toNat 3
def set3 (T : List Int) : Nat → List Int
  | 0 => List.replicate 19 0
  | k + 1 => (set3 T k).set (ordD.getD k 0) (T.getD (ordD.getD k 0) 0)
theorem set3_len (T : List Int) (k : Nat) : (set3 T k).length = 19 := by
  induction k with
  | zero => simp [set3]
  | succ k ih => rw [set3, List.length_set, ih]
theorem ordD_lt (k : Nat) : ordD.getD k 0 < 19 := by
  by_cases h : k < 19
  · have : ∀ i : Fin 19, ordD.getD i.val 0 < 19 := by decide
    exact this ⟨k, h⟩
  · rw [List.getD_eq_getElem?_getD, List.getElem?_eq_none (by simp [ordD]; omega)]; decide
theorem ordD_has (j : Nat) (h : j < 19) : ∃ i, i < 19 ∧ ordD.getD i 0 = j := by
  have : ∀ j : Fin 19, ∃ i : Fin 19, ordD.getD i.val 0 = j.val := by decide
  obtain ⟨i, hi⟩ := this ⟨j, h⟩
  exact ⟨i.val, i.isLt, hi⟩
theorem set3_at (T : List Int) (k j : Nat) (hj : j < 19) : (set3 T k).getD j 0 = if ∃ i, i < k ∧ ordD.getD i 0 = j then T.getD j 0 else 0 := by
  induction k with
  | zero =>
    rw [if_neg (by simp), set3, List.getD_eq_getElem?_getD, List.getElem?_replicate]
    split <;> rfl
  | succ k ih =>
    rw [set3, List.getD_eq_getElem?_getD, List.getElem?_set]
    by_cases h : ordD.getD k 0 = j
    · rw [if_pos h, if_pos (by rw [set3_len]; exact ordD_lt k), if_pos ⟨k, by omega, h⟩, h]; rfl
    · rw [if_neg h, ← List.getD_eq_getElem?_getD, ih]
      by_cases h2 : ∃ i, i < k ∧ ordD.getD i 0 = j
      · obtain ⟨i, h3, h4⟩ := h2
        rw [if_pos ⟨i, h3, h4⟩, if_pos ⟨i, by omega, h4⟩]
      · rw [if_neg h2, if_neg (fun ⟨i, h3, h4⟩ => by
          rcases Nat.lt_or_ge i k with h5 | h5
          · exact h2 ⟨i, h5, h4⟩
          · exact h (by rw [show k = i by omega]; exact h4))]
theorem set3_all (T : List Int) (n : Nat) (hT : T.length = 19) (h0 : ∀ i, n ≤ i → i < 19 → T.getD (ordD.getD i 0) 0 = 0) : set3 T n = T := by
  refine List.ext_getElem (by rw [set3_len, hT]) (fun j h1 h2 => ?_)
  have hj : j < 19 := by rw [set3_len] at h1; exact h1
  have e1 : (set3 T n)[j] = (set3 T n).getD j 0 := by rw [List.getD_eq_getElem?_getD, List.getElem?_eq_getElem h1]; rfl
  have e2 : T[j] = T.getD j 0 := by rw [List.getD_eq_getElem?_getD, List.getElem?_eq_getElem h2]; rfl
  rw [e1, e2, set3_at T n j hj]
  by_cases h : ∃ i, i < n ∧ ordD.getD i 0 = j
  · rw [if_pos h]
  · rw [if_neg h]
    obtain ⟨i, h3, h4⟩ := ordD_has j hj
    have := h0 i (by
      rcases Nat.lt_or_ge i n with h5 | h5
      · exact absurd ⟨i, h5, h4⟩ h
      · exact h5) h3
    rw [h4] at this
    exact this.symm
theorem th17_at (L : List UInt8) (T : List Int) (h7 : ∀ j, 0 ≤ T.getD j 0 ∧ T.getD j 0 ≤ 7) (pre post : List Bool) (n : Nat) (h : toBits L = (pre ++ hd3 T n) ++ post) (k : Nat) (hk : k ≤ n) :
    th17 ⟨L, pre.length, true, 0⟩ k = (set3 T k, ⟨L, (pre ++ hd3 T k).length, true, 0⟩) := by
  induction k with
  | zero => rw [th17, set3]; simp [hd3]
  | succ k ih =>
    have hs : hd3 T (k + 1) = hd3 T k ++ bitsOf (T.getD (ordD.getD k 0) 0).toNat 3 := by
      unfold hd3; rw [List.range_succ, List.flatMap_append]; simp
    obtain ⟨rest, hrest⟩ : ∃ rest, hd3 T n = hd3 T (k + 1) ++ rest := by
      obtain ⟨m, rfl⟩ : ∃ m, n = (k + 1) + m := ⟨n - (k + 1), by omega⟩
      unfold hd3
      rw [List.range_add, List.flatMap_append]
      exact ⟨_, rfl⟩
    have e3 : ((3 : Nat) : Int) = 3 := rfl
    have hv := h7 (ordD.getD k 0)
    have hb := bits_at L (pre ++ hd3 T k) (rest ++ post) (T.getD (ordD.getD k 0) 0).toNat 3 (by rw [h, hrest, hs]; simp [List.append_assoc]) (by decide) (by omega)
    rw [e3] at hb
    rw [th17, ih (by omega)]
    dsimp only
    rw [hb, set3, hs]
    dsimp only
    rw [Int.toNat_of_nonneg hv.1, List.append_assoc]
theorem hd3_length (T : List Int) (n : Nat) : (hd3 T n).length = 3 * n := by
  induction n with
  | zero => rfl
  | succ n ih =>
    have hs : hd3 T (n + 1) = hd3 T n ++ bitsOf (T.getD (ordD.getD n 0) 0).toNat 3 := by
      unfold hd3; rw [List.range_succ, List.flatMap_append]; simp
    rw [hs, List.length_append, ih, bitsOf_length]; omega
/-- what is written of two lists -/
def wb17 (a b n : Nat) (T : List Int) (ts : List Lt) : List Bool := (((bitsOf (a - 257) 5 ++ bitsOf (b - 1) 5) ++ bitsOf (n - 4) 4) ++ hd3 T n) ++ ts.flatMap (Lt.bits (Ln T))
/-- a third code that may be written: nineteen lengths up to seven, of a weight of 1 -/
structure Third (T : List Int) (n : Nat) : Prop where
  len : T.length = 19
  le : ∀ j, 0 ≤ T.getD j 0 ∧ T.getD j 0 ≤ 7
  chk : chk T = 1
  n4 : 4 ≤ n
  n19 : n ≤ 19
  zero : ∀ i, n ≤ i → i < 19 → T.getD (ordD.getD i 0) 0 = 0
theorem chk_one {T : List Int} (h : chk T = 1) : mayB T = true ∧ wt (Ln T) = 65536 := by
  unfold chk at h
  by_cases h1 : mayB T = false
  · rw [if_pos h1] at h; simp at h
  rw [if_neg h1] at h
  by_cases h2 : wt (Ln T) = 0
  · rw [if_pos h2] at h; simp at h
  rw [if_neg h2] at h
  by_cases h3 : 65536 < wt (Ln T)
  · rw [if_pos h3] at h; simp at h
  rw [if_neg h3] at h
  by_cases h4 : wt (Ln T) < 65536
  · rw [if_pos h4] at h; simp at h
  · exact ⟨by simpa using h1, by omega⟩
theorem lt_sum (ts : List Lt) : ts.length ≤ (ts.map Lt.often).sum := by
  induction ts with
  | nil => simp
  | cons t ts ih => have := often_pos t; simp only [List.length_cons, List.map_cons, List.sum_cons]; omega
/-- READ AS THEY WERE: lists that were written by any third code, in any tokens -/
theorem rd17_at (L : List UInt8) (large : Bool) (a b n : Nat) (T : List Int) (ts : List Lt) (lit dist : List Int) (hT : Third T n) (ha : 257 ≤ a ∧ a ≤ 288) (hb : 1 ≤ b ∧ b ≤ 32) (hts : ∀ t ∈ ts, t.ok (Ln T)) (hh : ∀ t, ts.head? = some t → t.sym ≠ 16)
    (hexp : exp17 [] ts = lit ++ dist) (hla : lit.length = a) (hlb : dist.length = b) (pre post : List Bool) (h : toBits L = (pre ++ wb17 a b n T ts) ++ post) :
    rd17 ⟨L, pre.length, true, 0⟩ large = if 286 < a ∨ (30 < b ∧ large = false) then ([], [], 4, ⟨L, (pre ++ ((bitsOf (a - 257) 5 ++ bitsOf (b - 1) 5) ++ bitsOf (n - 4) 4)).length, true, 0⟩)
      else if right17 lit dist large = false then ([], [], 6, ⟨L, (pre ++ wb17 a b n T ts).length, true, 0⟩) else (lit, dist, 0, ⟨L, (pre ++ wb17 a b n T ts).length, true, 0⟩) := by
  have e5 : ((5 : Nat) : Int) = 5 := rfl
  have e4 : ((4 : Nat) : Int) = 4 := rfl
  obtain ⟨t1, t2, t3, t4, t5, t6⟩ := hT
  obtain ⟨m1, m2⟩ := chk_one t3
  have hL16 : ∀ x ∈ Ln T, x ≤ 16 := may_Ln m1
  unfold wb17 at h ⊢
  have b1 := bits_at L pre ((bitsOf (b - 1) 5 ++ bitsOf (n - 4) 4 ++ hd3 T n ++ ts.flatMap (Lt.bits (Ln T))) ++ post) (a - 257) 5 (by rw [h]; simp [List.append_assoc]) (by decide) (by omega)
  have b2 := bits_at L (pre ++ bitsOf (a - 257) 5) ((bitsOf (n - 4) 4 ++ hd3 T n ++ ts.flatMap (Lt.bits (Ln T))) ++ post) (b - 1) 5 (by rw [h]; simp [List.append_assoc]) (by decide) (by omega)
  have b3 := bits_at L ((pre ++ bitsOf (a - 257) 5) ++ bitsOf (b - 1) 5) ((hd3 T n ++ ts.flatMap (Lt.bits (Ln T))) ++ post) (n - 4) 4 (by rw [h]; simp [List.append_assoc]) (by decide) (by omega)
  rw [e5] at b1 b2
  rw [e4] at b3
  have b4 := th17_at L T t2 (((pre ++ bitsOf (a - 257) 5) ++ bitsOf (b - 1) 5) ++ bitsOf (n - 4) 4) (ts.flatMap (Lt.bits (Ln T)) ++ post) n (by rw [h]; simp [List.append_assoc]) n (Nat.le_refl _)
  rw [set3_all T n t1 t6] at b4
  have hlen := exp17_len [] ts
  rw [hexp, List.length_append, hla, hlb] at hlen
  have hsum := lt_sum ts
  have b5 := ls17_at L (Ln T) hL16 (by omega) (a + b) ts hts (a + b + 1) (by simp at hlen; omega) [] (by rw [hexp, List.length_append]; omega) (.inr hh) ((((pre ++ bitsOf (a - 257) 5) ++ bitsOf (b - 1) 5) ++ bitsOf (n - 4) 4) ++ hd3 T n) post (by rw [h]; simp [List.append_assoc])
  have ea : a - 257 + 257 = a := by omega
  have eb : b - 1 + 1 = b := by omega
  have en : n - 4 + 4 = n := by omega
  unfold rd17
  rw [b1]
  dsimp only
  rw [b2]
  dsimp only
  rw [b3]
  dsimp only
  rw [ea, eb, en, if_neg (by simp [RS.E])]
  by_cases hf : 286 < a ∨ (30 < b ∧ large = false)
  · rw [if_pos hf, if_pos hf]; simp only [List.append_assoc]
  · rw [if_neg hf, if_neg hf, b4]
    dsimp only
    rw [if_neg (by simp [RS.E]), if_neg (by rw [t3]; simp), b5]
    dsimp only
    rw [if_neg (by simp), hexp, ← hla, List.take_left, List.drop_left]
    simp only [List.append_assoc]
end Go.Proofs.YtokfcgloogdeiaaGreatDoor
namespace Go.Proofs.YtokfcgloogdeiaaGreatDoor
set_option linter.unusedVariables false
set_option linter.unusedSimpArgs false

/-- the third code of plain words: sixteen of four bits -/
def plT : List Int := List.replicate 16 4 ++ [0, 0, 0]
theorem plT_third : Third plT 19 where
  len := by decide
  le := fun j => by
    by_cases h : j < 19
    · have : ∀ j : Fin 19, 0 ≤ plT.getD j.val 0 ∧ plT.getD j.val 0 ≤ 7 := by decide
      exact this ⟨j, h⟩
    · rw [List.getD_eq_getElem?_getD, List.getElem?_eq_none (by simp [plT]; omega)]; decide
  chk := by decide +kernel
  n4 := by decide
  n19 := by decide
  zero := fun i h1 h2 => by omega
theorem plT_len (x : Nat) (h : x < 16) : len (Ln plT) x = 4 := by
  have : ∀ x : Fin 16, len (Ln plT) x.val = 4 := by decide
  exact this ⟨x, h⟩
/-- lengths as tokens, each alone -/
def plTs (l : List Int) : List Lt := l.map fun z => ⟨z.toNat, 0⟩
theorem plTs_exp (all l : List Int) (h : ∀ z ∈ l, 0 ≤ z ∧ z ≤ 15) : exp17 all (plTs l) = all ++ l := by
  induction l generalizing all with
  | nil => simp [plTs, exp17]
  | cons z l ih =>
    have hz := h z (by simp)
    have ho : (⟨z.toNat, 0⟩ : Lt).often = 1 := by unfold Lt.often; dsimp only; rw [if_neg (by omega), if_neg (by omega), if_neg (by omega)]
    have hw : what17 all (((⟨z.toNat, 0⟩ : Lt).sym : Nat) : Int) = z := by unfold what17; dsimp only; rw [if_neg (by omega), if_neg (by omega)]; omega
    show exp17 (all ++ List.replicate (⟨z.toNat, 0⟩ : Lt).often (what17 all (((⟨z.toNat, 0⟩ : Lt).sym : Nat) : Int))) (plTs l) = _
    rw [ho, hw, ih _ (fun x hx => h x (by simp [hx]))]
    simp
theorem plTs_ok (l : List Int) (h : ∀ z ∈ l, 0 ≤ z ∧ z ≤ 15) : ∀ t ∈ plTs l, t.ok (Ln plT) := by
  intro t ht
  obtain ⟨z, hz, rfl⟩ := List.mem_map.1 ht
  have := h z hz
  have hl : (Ln plT).length = 19 := by decide
  refine ⟨by dsimp only; omega, by dsimp only; omega, by dsimp only; rw [plT_len _ (by omega)]; decide, ?_⟩
  dsimp only
  exact Nat.two_pow_pos _
theorem plTs_head (l : List Int) (h : ∀ z ∈ l, 0 ≤ z ∧ z ≤ 15) : ∀ t, (plTs l).head? = some t → t.sym ≠ 16 := by
  intro t ht
  have := plTs_ok l h t (List.mem_of_mem_head? (by rw [ht]; rfl))
  cases l with
  | nil => simp [plTs] at ht
  | cons z l =>
    have hz := h z (by simp)
    simp [plTs] at ht
    subst ht
    dsimp only
    omega
theorem plTs_bits (l : List Int) (h : ∀ z ∈ l, 0 ≤ z ∧ z ≤ 15) : (plTs l).flatMap (Lt.bits (Ln plT)) = l.flatMap fun z => bitsOf (code (Ln plT) z.toNat) 4 := by
  induction l with
  | nil => rfl
  | cons z l ih =>
    have hz := h z (by simp)
    show (Lt.bits (Ln plT) ⟨z.toNat, 0⟩) ++ (plTs l).flatMap (Lt.bits (Ln plT)) = _
    rw [ih (fun x hx => h x (by simp [hx])), List.flatMap_cons]
    congr 1
    unfold Lt.bits ltBits
    dsimp only
    rw [plT_len _ (by omega), if_neg (by omega), if_neg (by omega), if_neg (by omega)]
    simp [bitsOf]
/-- noughts at the end left out, as far as the list may be shorter -/
def trimN (l : List Int) (least : Nat) : Nat → Nat
  | 0 => 0
  | n + 1 => if least < n + 1 ∧ l.getD n 0 = 0 then trimN l least n else n + 1
def trim17 (l : List Int) (least : Nat) : List Int := l.take (trimN l least l.length)
theorem trimN_le (l : List Int) (least n : Nat) : trimN l least n ≤ n := by
  induction n with
  | zero => exact Nat.le_refl _
  | succ n ih => rw [trimN]; split <;> omega
theorem trimN_ge (l : List Int) (least n : Nat) (h : least ≤ n) : least ≤ trimN l least n := by
  induction n with
  | zero => rw [trimN]; exact h
  | succ n ih => rw [trimN]; split
                 · exact ih (by omega)
                 · exact h
theorem trimN_zero (l : List Int) (least n : Nat) (j : Nat) (h1 : trimN l least n ≤ j) (h2 : j < n) : l.getD j 0 = 0 := by
  induction n with
  | zero => omega
  | succ n ih =>
    rw [trimN] at h1
    by_cases h : least < n + 1 ∧ l.getD n 0 = 0
    · rw [if_pos h] at h1
      by_cases e : j = n
      · rw [e]; exact h.2
      · exact ih h1 (by omega)
    · rw [if_neg h] at h1; omega
theorem trim_split (l : List Int) (least : Nat) : ∃ m, l = trim17 l least ++ List.replicate m 0 := by
  refine ⟨l.length - trimN l least l.length, ?_⟩
  have h := trimN_le l least l.length
  show l = l.take (trimN l least l.length) ++ List.replicate (l.length - trimN l least l.length) 0
  refine List.ext_getElem (by simp; omega) (fun i h1 h2 => ?_)
  rw [List.getElem_append]
  split
  · rw [List.getElem_take]
  · rename_i h3
    have h4 : trimN l least l.length ≤ i := by simp at h3; omega
    have := trimN_zero l least l.length i h4 h1
    rw [List.getD_eq_getElem?_getD, List.getElem?_eq_getElem h1] at this
    rw [List.getElem_replicate]
    exact this
theorem trim_len (l : List Int) (least : Nat) (h : least ≤ l.length) : least ≤ (trim17 l least).length ∧ (trim17 l least).length ≤ l.length := by
  have h1 := trimN_le l least l.length
  have h2 := trimN_ge l least l.length h
  unfold trim17
  rw [List.length_take]
  omega
theorem wt_zeros (L : List Nat) (m : Nat) : wt (L ++ List.replicate m 0) = wt L := by
  unfold wt
  rw [List.map_append, List.sum_append]
  have : ((List.replicate m 0).map wt1).sum = 0 := by
    induction m with
    | zero => rfl
    | succ m ih => rw [List.replicate_succ, List.map_cons, List.sum_cons, ih]; rfl
  omega
theorem whole17_zeros (l : List Int) (none : Bool) (m : Nat) (hl : l.length + m ≤ 4096) : whole17 (l ++ List.replicate m 0) none = whole17 l none := by
  have h1 : (l ++ List.replicate m 0).all (fun z => decide (0 ≤ z) && decide (z ≤ 15)) = l.all (fun z => decide (0 ≤ z) && decide (z ≤ 15)) := by
    rw [List.all_append]; simp
  have h2 : (l ++ List.replicate m 0).countP (fun z : Int => decide (0 < z)) = l.countP (fun z => decide (0 < z)) := by
    rw [List.countP_append, List.countP_replicate]; simp
  have h3 : (l ++ List.replicate m 0).countP (fun z : Int => decide (z = 1)) = l.countP (fun z => decide (z = 1)) := by
    rw [List.countP_append, List.countP_replicate]; simp
  have h4 : chk (l ++ List.replicate m 0) = chk l := by
    have e1 : mayB (l ++ List.replicate m 0) = mayB l := by
      unfold mayB
      rw [List.all_append, List.length_append, List.length_replicate]
      have : decide (l.length + m ≤ 4096) = true := by simpa using hl
      have h' : decide (l.length ≤ 4096) = true := by simp; omega
      rw [this, h']; simp
    have e2 : wt (Ln (l ++ List.replicate m 0)) = wt (Ln l) := by
      unfold Ln
      rw [List.map_append, List.map_replicate]
      exact wt_zeros _ m
    unfold chk
    rw [e1, e2]
  unfold whole17
  rw [h1, h2, h3, h4]
/-- lists that are right stay right without their noughts -/
theorem right17_trim (lit dist : List Int) (large : Bool) (h : right17 lit dist large = true) : right17 (trim17 lit 257) (trim17 dist 1) large = true := by
  unfold right17 at h ⊢
  simp only [Bool.and_eq_true, decide_eq_true_eq] at h ⊢
  obtain ⟨⟨a1, a2, a3, a4⟩, a5, a6, a7⟩ := h
  have l1 := trim_len lit 257 a1
  have l2 := trim_len dist 1 a3
  obtain ⟨m, hm⟩ := trim_split lit 257
  obtain ⟨k, hk⟩ := trim_split dist 1
  have hd : dist.length ≤ 32 := by split at a4 <;> omega
  have e1 := congrArg List.length hm
  have e2 := congrArg List.length hk
  rw [List.length_append, List.length_replicate] at e1 e2
  refine ⟨⟨l1.1, by omega, l2.1, by omega⟩, ?_, ?_, ?_⟩
  · have : (trim17 lit 257).getD 256 0 = lit.getD 256 0 := by
      unfold trim17
      rw [List.getD_eq_getElem?_getD, List.getD_eq_getElem?_getD, List.getElem?_take_of_lt (by have := trimN_ge lit 257 lit.length a1; omega)]
    rw [this]; exact a5
  · rw [← whole17_zeros _ false m (by omega), ← hm]; exact a6
  · rw [← whole17_zeros _ true k (by omega), ← hk]; exact a7
/-- a length within 0 and 15 -/
def clz (z : Int) : Int := max 0 (min z 15)
theorem clz_in (l : List Int) : ∀ z ∈ l.map clz, 0 ≤ z ∧ z ≤ 15 := by
  intro z hz
  obtain ⟨y, _, rfl⟩ := List.mem_map.1 hz
  unfold clz; omega
theorem map_clz {l : List Int} (h : ∀ z ∈ l, 0 ≤ z ∧ z ≤ 15) : l.map clz = l := by
  conv => rhs; rw [← List.map_id l]
  apply List.map_congr_left
  intro z hz
  have := h z hz
  unfold clz; simp; omega
end Go.Proofs.YtokfcgloogdeiaaGreatDoor
namespace Go.Proofs.YtokfcgloogdeiaaGreatDoor
set_option linter.unusedVariables false
set_option linter.unusedSimpArgs false

/-- a state of reading: the reader, what was told, the steps -/
structure SI where
  r : RS
  o : HS
  n : Nat
/-- bytes as they are -/
def plL : Nat → SI → Nat × SI
  | 0, s => (0, s)
  | k + 1, s => if (s.r.bits 8).2.E ≠ 0 then ((s.r.bits 8).2.E, s)
    else if (s.o.lit (UInt8.ofNat (s.r.bits 8).1)).1 ≠ 0 then ((s.o.lit (UInt8.ofNat (s.r.bits 8).1)).1, s)
    else plL k ⟨(s.r.bits 8).2, (s.o.lit (UInt8.ofNat (s.r.bits 8).1)).2, s.n + 1⟩
def plain18 (s : SI) : Nat × SI :=
  if ((s.r.align.bits 16).2.bits 16).2.E ≠ 0 then (((s.r.align.bits 16).2.bits 16).2.E, s)
  else if (s.r.align.bits 16).1 + ((s.r.align.bits 16).2.bits 16).1 ≠ 65535 then (4, s)
  else plL (s.r.align.bits 16).1 { s with r := ((s.r.align.bits 16).2.bits 16).2 }
/-- a length behind its code: what is wrong, the length, the reader -/
def lenX (large : Bool) (x : Int) (r : RS) : Nat × Nat × RS :=
  if (lenOf x large).2.2 = false then (7, 0, r)
  else if (r.bits (lenOf x large).2.1).2.E ≠ 0 then ((r.bits (lenOf x large).2.1).2.E, 0, r)
  else (0, (lenOf x large).1 + (r.bits (lenOf x large).2.1).1, (r.bits (lenOf x large).2.1).2)
/-- a distance: its word, its bits -/
def dstX (large : Bool) (LD : List Nat) (r : RS) : Nat × Nat × RS :=
  if (r.next LD).2.1 ≠ 0 then ((r.next LD).2.1, 0, r)
  else if (dstOf (r.next LD).1 large).2.2 = false then (7, 0, r)
  else if ((r.next LD).2.2.bits (dstOf (r.next LD).1 large).2.1).2.E ≠ 0 then (((r.next LD).2.2.bits (dstOf (r.next LD).1 large).2.1).2.E, 0, r)
  else (0, (dstOf (r.next LD).1 large).1 + ((r.next LD).2.2.bits (dstOf (r.next LD).1 large).2.1).1, ((r.next LD).2.2.bits (dstOf (r.next LD).1 large).2.1).2)
def copy18 (large : Bool) (LD : List Nat) (x : Int) (s : SI) : Nat × SI :=
  if (lenX large x s.r).1 ≠ 0 then ((lenX large x s.r).1, s)
  else if (dstX large LD (lenX large x s.r).2.2).1 ≠ 0 then ((dstX large LD (lenX large x s.r).2.2).1, s)
  else ((s.o.copy (dstX large LD (lenX large x s.r).2.2).2.1 (lenX large x s.r).2.1).1, ⟨(dstX large LD (lenX large x s.r).2.2).2.2, (s.o.copy (dstX large LD (lenX large x s.r).2.2).2.1 (lenX large x s.r).2.1).2, s.n⟩)
/-- a byte or a copy behind its word -/
def tok18 (large : Bool) (LD : List Nat) (x : Int) (s : SI) : Nat × SI :=
  if x < 256 then ((s.o.lit (UInt8.ofNat x.toNat)).1, { s with o := (s.o.lit (UInt8.ofNat x.toNat)).2 }) else copy18 large LD x s
/-- words of two codes, until the block ends -/
def words18 (large : Bool) (LL LD : List Nat) : Nat → SI → Nat × SI
  | 0, s => (99, s)
  | F + 1, s => if (s.r.next LL).2.1 ≠ 0 then ((s.r.next LL).2.1, s)
    else if (s.r.next LL).1 = 256 then (0, ⟨(s.r.next LL).2.2, s.o, s.n + 1⟩)
    else if (tok18 large LD (s.r.next LL).1 ⟨(s.r.next LL).2.2, s.o, s.n + 1⟩).1 ≠ 0 then ((tok18 large LD (s.r.next LL).1 ⟨(s.r.next LL).2.2, s.o, s.n + 1⟩).1, s)
    else words18 large LL LD F (tok18 large LD (s.r.next LL).1 ⟨(s.r.next LL).2.2, s.o, s.n + 1⟩).2
/-- the fixed codes -/
def fixL : List Int := List.replicate 144 8 ++ List.replicate 112 9 ++ List.replicate 24 7 ++ List.replicate 8 8
def fixD : List Int := List.replicate 32 5
/-- the two codes of a block: what is wrong, both, the reader -/
def codes18 (large : Bool) (kind : Nat) (r : RS) : Nat × List Int × List Int × RS :=
  if kind = 2 then ((rd17 r large).2.2.1, (rd17 r large).1, (rd17 r large).2.1, (rd17 r large).2.2.2) else (0, fixL, fixD, r)
/-- the beginning of a block: whether it is the last one, its kind, the reader -/
def head18 (r : RS) : Bool × Nat × RS := (decide ((r.bits 1).1 = 1), ((r.bits 1).2.bits 2).1, ((r.bits 1).2.bits 2).2)
def block18 (large : Bool) (F : Nat) (s : SI) : Bool × Nat × SI :=
  if (head18 s.r).2.2.E ≠ 0 then (false, (head18 s.r).2.2.E, s)
  else if (head18 s.r).2.1 = 0 then ((head18 s.r).1, plain18 ⟨(head18 s.r).2.2, s.o, s.n + 1⟩)
  else if (head18 s.r).2.1 = 3 then (false, 4, s)
  else if (codes18 large (head18 s.r).2.1 (head18 s.r).2.2).1 ≠ 0 then (false, (codes18 large (head18 s.r).2.1 (head18 s.r).2.2).1, s)
  else ((head18 s.r).1, words18 large (Ln (codes18 large (head18 s.r).2.1 (head18 s.r).2.2).2.1) (Ln (codes18 large (head18 s.r).2.1 (head18 s.r).2.2).2.2.1) F ⟨(codes18 large (head18 s.r).2.1 (head18 s.r).2.2).2.2.2, s.o, s.n + 1⟩)
def blocks18 (large : Bool) (F0 : Nat) : Nat → SI → Nat × SI
  | 0, s => (99, s)
  | F + 1, s => if (block18 large F0 s).2.1 ≠ 0 then ((block18 large F0 s).2.1, s)
    else if (block18 large F0 s).1 then (0, (block18 large F0 s).2.2)
    else blocks18 large F0 F (block18 large F0 s).2.2
def win18 (large : Bool) : Nat := if large then 65536 else 32768
def run18 (b : List UInt8) (large : Bool) (size : Nat) : Nat × SI := blocks18 large (8 * b.length + 1) (8 * b.length + 1) ⟨⟨b, 0, true, 0⟩, ⟨win18 large, size, false, []⟩, 0⟩
/-- what Decode answers: the text, the steps, what is wrong -/
def dec18 (b : List UInt8) (large : Bool) (size : Int) : List UInt8 × Nat × Nat :=
  if size < 0 then ([], 0, 2)
  else if (run18 b large size.toNat).1 ≠ 0 then ([], 0, (run18 b large size.toNat).1)
  else if (run18 b large size.toNat).2.o.b.length ≠ size.toNat then ([], 0, 9)
  else if 8 ≤ (run18 b large size.toNat).2.r.left then ([], 0, 5)
  else ((run18 b large size.toNat).2.o.b, (run18 b large size.toNat).2.n, 0)

/-! ### how far is read -/
theorem next_good (L : List Nat) (hL : ∀ x ∈ L, x ≤ 16) (s : RS) (h : (s.next L).2.1 = 0) (hp : s.pos ≤ 8 * s.l.length) : ∃ i, i < L.length ∧ 0 < len L i ∧ (s.next L).1 = ((i : Nat) : Int) ∧ s.E = 0 ∧ (s.next L).2.2.E = 0 ∧ (s.next L).2.2.l = s.l ∧ (s.next L).2.2.made = s.made ∧ s.pos + 1 ≤ (s.next L).2.2.pos ∧ (s.next L).2.2.pos ≤ 8 * s.l.length := by
  by_cases hE : s.E = 0
  · cases hpk : pick L (tr 16 (num s.l s.pos 16) 0) (min 16 s.left) with
    | some i =>
      obtain ⟨⟨a, b, _⟩, c⟩ := (pick_some L _ _ i hL).1 hpk
      rw [RS.next_hit L s hE i hpk]
      dsimp only
      have hl : s.left = 8 * s.l.length - s.pos := by unfold RS.left; rw [if_pos hE]
      exact ⟨i, a, b, rfl, hE, hE, rfl, rfl, by omega, by omega⟩
    | none =>
      rw [RS.next_none L s hE hpk] at h
      dsimp only at h
      split at h <;> omega
  · rw [RS.next_err L s hE] at h
    exact absurd h hE
theorem bits_made (s : RS) (n : Int) : (s.bits n).2.made = s.made := by
  unfold RS.bits RS.fail
  repeat' split
  all_goals rfl
theorem bits_keep (s : RS) (n : Nat) (h : (s.bits n).2.E = 0) (hp : s.pos ≤ 8 * s.l.length) : s.E = 0 ∧ (s.bits n).2.l = s.l ∧ (s.bits n).2.pos = s.pos + n ∧ (s.bits n).2.pos ≤ 8 * s.l.length := by
  obtain ⟨a, b, c, d⟩ := bits_good s n h hp
  have e : ((n : Nat) : Int).toNat = n := rfl
  rw [e] at c d
  exact ⟨a, b, c, by omega⟩
/-- a step of reading: the same bytes, no error, further on by n bits at least -/
structure Fwd (r r' : RS) (n : Nat) : Prop where
  E0 : r.E = 0
  E1 : r'.E = 0
  l : r'.l = r.l
  p : r.pos + n ≤ r'.pos
  le : r'.pos ≤ 8 * r.l.length
theorem Fwd.trans {a b c : RS} {n m : Nat} (h : Fwd a b n) (k : Fwd b c m) : Fwd a c (n + m) :=
  ⟨h.E0, k.E1, k.l.trans h.l, by have := h.p; have := k.p; omega, by have := k.le; rw [h.l] at this; exact this⟩
theorem Fwd.weak {a b : RS} {n m : Nat} (h : Fwd a b n) (k : m ≤ n) : Fwd a b m := ⟨h.E0, h.E1, h.l, by have := h.p; omega, h.le⟩
theorem Fwd.hp {a b : RS} {n : Nat} (h : Fwd a b n) : b.pos ≤ 8 * b.l.length := by rw [h.l]; exact h.le
theorem Fwd.refl (a : RS) (h : a.E = 0) (hp : a.pos ≤ 8 * a.l.length) : Fwd a a 0 := ⟨h, h, rfl, Nat.le_refl _, hp⟩
theorem fwd_bits (s : RS) (n : Nat) (h : (s.bits n).2.E = 0) (hp : s.pos ≤ 8 * s.l.length) : Fwd s (s.bits n).2 n := by
  obtain ⟨a, b, c, d⟩ := bits_keep s n h hp
  exact ⟨a, h, b, by omega, d⟩
theorem fwd_next (L : List Nat) (hL : ∀ x ∈ L, x ≤ 16) (s : RS) (h : (s.next L).2.1 = 0) (hp : s.pos ≤ 8 * s.l.length) : Fwd s (s.next L).2.2 1 := by
  obtain ⟨i, _, _, _, a, b, c, _, d, e⟩ := next_good L hL s h hp
  exact ⟨a, b, c, d, e⟩
theorem fwd_align (s : RS) (h : s.E = 0) (hp : s.pos ≤ 8 * s.l.length) : Fwd s s.align 0 := by
  have hl : s.left = 8 * s.l.length - s.pos := by unfold RS.left; rw [if_pos h]
  have hm : s.left % 8 ≤ s.left := Nat.mod_le _ _
  refine ⟨h, h, rfl, ?_, ?_⟩
  · show s.pos + 0 ≤ s.pos + s.left % 8; omega
  · show s.pos + s.left % 8 ≤ 8 * s.l.length; omega
theorem align_E (s : RS) : s.align.E = s.E := rfl
end Go.Proofs.YtokfcgloogdeiaaGreatDoor
namespace Go.Proofs.YtokfcgloogdeiaaGreatDoor
set_option linter.unusedVariables false
set_option linter.unusedSimpArgs false

theorem th17_fwd (s : RS) (k : Nat) (h : (th17 s k).2.E = 0) (hE : s.E = 0 ∨ 0 < k) (hp : s.pos ≤ 8 * s.l.length) : Fwd s (th17 s k).2 0 := by
  induction k with
  | zero =>
    rcases hE with hE | hE
    · exact Fwd.refl s hE hp
    · omega
  | succ k ih =>
    rw [th17] at h ⊢
    dsimp only at h ⊢
    by_cases h0 : (th17 s k).2.E = 0
    · by_cases hk : 0 < k
      · have a := ih h0 (.inr hk)
        exact (a.trans (fwd_bits (th17 s k).2 3 h a.hp)).weak (by omega)
      · obtain rfl : k = 0 := by omega
        exact (fwd_bits s 3 h hp).weak (by omega)
    · exfalso
      have : ((th17 s k).2.bits ((3 : Nat) : Int)).2.E ≠ 0 := by
        intro e
        exact h0 ((bits_good0 (th17 s k).2 _ e).1)
      exact this h
theorem ls17_fwd (LL : List Nat) (hL : ∀ x ∈ LL, x ≤ 16) (N F : Nat) (all : List Int) (s : RS) (h : (ls17 LL N F all s).2.1 = 0) (hE : s.E = 0) (hp : s.pos ≤ 8 * s.l.length) : Fwd s (ls17 LL N F all s).2.2 0 := by
  induction F generalizing all s with
  | zero => rw [ls17] at h; simp at h
  | succ F ih =>
    rw [ls17] at h ⊢
    by_cases h1 : N ≤ all.length
    · rw [if_pos h1]; exact Fwd.refl s hE hp
    rw [if_neg h1] at h ⊢
    by_cases h2 : (s.next LL).2.1 = 0
    · rw [if_neg (by simpa using h2)] at h ⊢
      have a := fwd_next LL hL s h2 hp
      by_cases h3 : (often17 (s.next LL).1 (s.next LL).2.2).2.E = 0
      · rw [if_neg (by simpa using h3)] at h ⊢
        have b : Fwd (s.next LL).2.2 (often17 (s.next LL).1 (s.next LL).2.2).2 0 := by
          unfold often17 at h3 ⊢
          split at h3
          · rename_i e; rw [if_pos e]; exact (fwd_bits _ 2 h3 a.hp).weak (by omega)
          · rename_i e; rw [if_neg e]
            split at h3
            · rename_i e; rw [if_pos e]; exact (fwd_bits _ 3 h3 a.hp).weak (by omega)
            · rename_i e; rw [if_neg e]
              split at h3
              · rename_i e; rw [if_pos e]; exact (fwd_bits _ 7 h3 a.hp).weak (by omega)
              · rename_i e; rw [if_neg e]; exact Fwd.refl _ h3 a.hp
        have c := a.trans b
        split at h
        · simp at h
        · rename_i h4
          rw [if_neg h4]
          split at h
          · simp at h
          · rename_i h5
            rw [if_neg h5]
            exact (c.trans (ih _ _ h c.E1 c.hp)).weak (by omega)
      · rw [if_pos h3] at h; exact absurd h h3
    · rw [if_pos h2] at h; exact absurd h h2
theorem chk_may {zs : List Int} (h : chk zs = 1) : mayB zs = true := (chk_one h).1
/-- two codes that were read: how far, and that they are right -/
theorem rd17_fwd (s : RS) (large : Bool) (h : (rd17 s large).2.2.1 = 0) (hp : s.pos ≤ 8 * s.l.length) : Fwd s (rd17 s large).2.2.2 0 ∧ right17 (rd17 s large).1 (rd17 s large).2.1 large = true := by
  obtain ⟨x1, s1, h1⟩ : ∃ x1 s1, s.bits 5 = (x1, s1) := ⟨_, _, rfl⟩
  obtain ⟨x2, s2, h2⟩ : ∃ x2 s2, s1.bits 5 = (x2, s2) := ⟨_, _, rfl⟩
  obtain ⟨x3, s3, h3⟩ : ∃ x3 s3, s2.bits 4 = (x3, s3) := ⟨_, _, rfl⟩
  obtain ⟨T, s4, h4⟩ : ∃ T s4, th17 s3 (x3 + 4) = (T, s4) := ⟨_, _, rfl⟩
  obtain ⟨al, er, s5, h5⟩ : ∃ al er s5, ls17 (Ln T) (x1 + 257 + (x2 + 1)) (x1 + 257 + (x2 + 1) + 1) [] s4 = (al, er, s5) := ⟨_, _, _, rfl⟩
  obtain ⟨k1, k2, k3⟩ := rd17_cases s large x1 s1 x2 s2 x3 s3 T s4 al er s5 h1 h2 h3 h4 h5
  generalize rd17 s large = R at h k1 k2 k3 ⊢
  by_cases e1 : s3.E = 0
  rotate_left
  · rw [k1 e1] at h; exact absurd h e1
  by_cases e2 : 286 < x1 + 257 ∨ (30 < x2 + 1 ∧ large = false)
  · rw [k2 e1 e2] at h; simp at h
  obtain ⟨k4, k5⟩ := k3 e1 e2
  by_cases e3 : s4.E = 0
  rotate_left
  · rw [k4 e3] at h; exact absurd h e3
  obtain ⟨k6, k7⟩ := k5 e3
  by_cases e4 : chk T = 1
  rotate_left
  · rw [k6 e4] at h; simp at h
  obtain ⟨k8, k9⟩ := k7 e4
  by_cases e5 : er = 0
  rotate_left
  · rw [k8 e5] at h; exact absurd h e5
  have hR := k9 e5
  have x2E : s2.E = 0 := by have := (bits_good0 s2 4 (by rw [h3]; exact e1)).1; exact this
  have x1E : s1.E = 0 := by have := (bits_good0 s1 5 (by rw [h2]; exact x2E)).1; exact this
  have f1 : Fwd s s1 5 := by have := fwd_bits s 5 (by rw [show ((5 : Nat) : Int) = 5 from rfl, h1]; exact x1E) hp; rw [show ((5 : Nat) : Int) = 5 from rfl, h1] at this; exact this
  have f2 : Fwd s1 s2 5 := by have := fwd_bits s1 5 (by rw [show ((5 : Nat) : Int) = 5 from rfl, h2]; exact x2E) f1.hp; rw [show ((5 : Nat) : Int) = 5 from rfl, h2] at this; exact this
  have f3 : Fwd s2 s3 4 := by have := fwd_bits s2 4 (by rw [show ((4 : Nat) : Int) = 4 from rfl, h3]; exact e1) f2.hp; rw [show ((4 : Nat) : Int) = 4 from rfl, h3] at this; exact this
  have f4 : Fwd s3 s4 0 := by have := th17_fwd s3 (x3 + 4) (by rw [h4]; exact e3) (.inr (by omega)) f3.hp; rw [h4] at this; exact this
  have f5 : Fwd s4 s5 0 := by
    have := ls17_fwd (Ln T) (may_Ln (chk_may e4)) (x1 + 257 + (x2 + 1)) (x1 + 257 + (x2 + 1) + 1) [] s4 (by rw [h5]; exact e5) e3 f4.hp
    rw [h5] at this; exact this
  have f := (((f1.trans f2).trans f3).trans f4).trans f5
  by_cases e6 : right17 (al.take (x1 + 257)) (al.drop (x1 + 257)) large = false
  · rw [hR, if_pos e6] at h; simp at h
  · rw [hR, if_neg e6]
    exact ⟨f.weak (by omega), by simpa using e6⟩
/-- lists that are right have words -/
theorem whole_werr {l : List Int} {none : Bool} (hl : l.length ≤ 4096) (h : whole17 l none = true) : werr l = 0 ∧ ∀ x ∈ Ln l, x ≤ 16 := by
  unfold whole17 at h
  simp only [Bool.and_eq_true, List.all_eq_true, decide_eq_true_eq] at h
  obtain ⟨h1, h2⟩ := h
  have hm : mayB l = true := (may_iff l).2 ⟨hl, fun z hz => by have := h1 z hz; omega⟩
  refine ⟨?_, may_Ln hm⟩
  unfold werr
  rw [if_neg (by unfold chk; rw [if_neg (by simp [hm])]; repeat' split
                 all_goals omega)]
  rw [if_neg]
  intro h3
  have hw : 65536 < wt (Ln l) := by
    unfold chk at h3
    rw [if_neg (by simp [hm])] at h3
    by_cases a : wt (Ln l) = 0
    · rw [if_pos a] at h3; omega
    · rw [if_neg a] at h3
      by_cases b : 65536 < wt (Ln l)
      · exact b
      · rw [if_neg b] at h3; split at h3 <;> omega
  have hcnt : wt (Ln l) ≤ 32768 * l.countP (fun z => decide (0 < z)) := by
    clear h2 h3 hw hm hl h1
    induction l with
    | nil => simp [Ln, wt]
    | cons z l ih =>
      have e : wt (Ln (z :: l)) = wt1 z.toNat + wt (Ln l) := by simp [Ln, wt]
      rw [e, List.countP_cons]
      have h1 : wt1 z.toNat ≤ if 0 < z then 32768 else 0 := by
        unfold wt1
        by_cases hz : 0 < z
        · rw [if_pos hz, if_neg (by omega)]
          exact Nat.le_trans (Nat.pow_le_pow_right (by decide) (show 16 - z.toNat ≤ 15 by omega)) (by decide)
        · rw [if_neg hz, if_pos (by omega)]; exact Nat.le_refl _
      by_cases hz : 0 < z
      · rw [if_pos hz] at h1
        simp only [hz, decide_true, if_true]
        omega
      · rw [if_neg hz] at h1
        simp only [hz, decide_false]
        simp
        omega
  split at h2
  · rename_i a
    rw [a] at hcnt; omega
  · rename_i a
    simp only [Bool.or_eq_true, Bool.and_eq_true, decide_eq_true_eq] at h2
    rcases h2 with ⟨b, _⟩ | b
    · rw [b] at hcnt; omega
    · rw [b] at h3; omega
theorem right_werr {l d : List Int} {large : Bool} (h : right17 l d large = true) : (werr l = 0 ∧ ∀ x ∈ Ln l, x ≤ 16) ∧ (werr d = 0 ∧ ∀ x ∈ Ln d, x ≤ 16) ∧ 257 ≤ l.length ∧ l.length ≤ 286 ∧ 1 ≤ d.length ∧ d.length ≤ 32 := by
  unfold right17 at h
  simp only [Bool.and_eq_true, decide_eq_true_eq] at h
  obtain ⟨⟨a, b, c, e⟩, _, f, g⟩ := h
  have e2 : d.length ≤ 32 := by split at e <;> omega
  exact ⟨whole_werr (by omega) f, whole_werr (by omega) g, a, b, c, e2⟩
theorem fix_werr : (werr fixL = 0 ∧ ∀ x ∈ Ln fixL, x ≤ 16) ∧ (werr fixD = 0 ∧ ∀ x ∈ Ln fixD, x ≤ 16) := by
  refine ⟨⟨by decide +kernel, by decide +kernel⟩, by decide +kernel, by decide +kernel⟩
theorem codes18_ok (large : Bool) (kind : Nat) (r : RS) (h : (codes18 large kind r).1 = 0) (hE : r.E = 0) (hp : r.pos ≤ 8 * r.l.length) :
    Fwd r (codes18 large kind r).2.2.2 0 ∧ (werr (codes18 large kind r).2.1 = 0 ∧ ∀ x ∈ Ln (codes18 large kind r).2.1, x ≤ 16) ∧ (werr (codes18 large kind r).2.2.1 = 0 ∧ ∀ x ∈ Ln (codes18 large kind r).2.2.1, x ≤ 16) := by
  unfold codes18 at h ⊢
  by_cases hk : kind = 2
  · rw [if_pos hk] at h ⊢
    obtain ⟨a, b⟩ := rd17_fwd r large h hp
    obtain ⟨c, d, _⟩ := right_werr b
    exact ⟨a, c, d⟩
  · rw [if_neg hk]
    exact ⟨Fwd.refl r hE hp, fix_werr.1, fix_werr.2⟩
end Go.Proofs.YtokfcgloogdeiaaGreatDoor
