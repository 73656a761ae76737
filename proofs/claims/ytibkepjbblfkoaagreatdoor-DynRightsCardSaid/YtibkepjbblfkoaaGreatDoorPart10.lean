/- Texts put together: RefCan RefCan2 RefCan3 RefCan4 RefSf RefSf2 RefSf3 RefSf4 ExpMath ExpMath2 DynMath2 DynMath3 DynMath4 RefDyn2 RefDyn3 RefDyn4 RefDyn5 StRef StRw RefDyn6 Can1 -/
import Derived.Test.YtibkepjbblfkoaaGreatDoorPart9
import Derived.Test.YtibkepjbblfkoaaGreatDoorPart5
import Derived.Test.YtibkepjbblfkoaaGreatDoorPart2
import Derived.Test.YtibkepjbblfkoaaGreatDoorPart6
import Derived.Test.YtibkepjbblfkoaaGreatDoorPart11
import Derived.Deep.RegionLaw
import Derived.Test.YtibkepjbblfkoaaGreatDoorPart3
import Derived.Test.YtibkepjbblfkoaaGreatDoorPart1
namespace Go.Proofs.YtibkepjbblfkoaaGreatDoor
set_option linter.unusedVariables false
set_option linter.unusedSimpArgs false
open Go.ChangeShapes Go.WideShapes Go.ChangeAt Go.RowKit

theorem Is.shape {k : IntKind} {w : World} {v : Value} {zs : List Int} (h : Is k w v zs) : ∃ a cap, v = .slice a zs.length cap ∧ zs.length ≤ cap ∧ cap ≤ maxLen := by
  obtain ⟨a, cap, rfl, h1, h2, _⟩ := h
  exact ⟨a, cap, rfl, h1, h2⟩
theorem Is.len {k : IntKind} {w : World} {v : Value} {zs : List Int} (h : Is k w v zs) : zs.length ≤ 9223372036854775807 := by
  obtain ⟨a, cap, _, h1, h2⟩ := h.shape
  unfold maxLen at h2; omega
theorem Is.drewN {k : IntKind} {w : World} {v : Value} {zs : List Int} (h : Is k w v zs) (n : Nat) : Is k (w.drewN n) v zs := h.keep ((Keep.refl [] w).drewN _) (by simp)
/-- lengths as numbers -/
def Ln (zs : List Int) : List Nat := zs.map Int.toNat
theorem Ln_length (zs : List Int) : (Ln zs).length = zs.length := by simp [Ln]
theorem Ln_take (zs : List Int) (i : Nat) : Ln (zs.take i) = (Ln zs).take i := by simp [Ln, List.map_take]
def mayB (zs : List Int) : Bool := decide (zs.length ≤ 4096) && zs.all fun z => decide (0 ≤ z) && decide (z ≤ 16)
theorem may_iff (zs : List Int) : mayB zs = true ↔ zs.length ≤ 4096 ∧ ∀ z ∈ zs, 0 ≤ z ∧ z ≤ 16 := by simp [mayB]
theorem may_Ln {zs : List Int} (h : mayB zs = true) : ∀ x ∈ Ln zs, x ≤ 16 := by
  intro x hx
  simp only [Ln, List.mem_map] at hx
  obtain ⟨z, hz, rfl⟩ := hx
  have := ((may_iff zs).1 h).2 z hz
  omega
theorem may_get {zs : List Int} (h : mayB zs = true) (i : Nat) (hi : i < zs.length) : zs[i] = ((len (Ln zs) i : Nat) : Int) ∧ len (Ln zs) i ≤ 16 := by
  have h1 := ((may_iff zs).1 h).2 zs[i] (List.getElem_mem hi)
  have h2 : len (Ln zs) i = zs[i].toNat := by rw [len_get _ _ (by rw [Ln_length]; exact hi)]; simp [Ln]
  omega
def chk (zs : List Int) : Nat := if mayB zs = false then 5 else if wt (Ln zs) = 0 then 4 else if 65536 < wt (Ln zs) then 2 else if wt (Ln zs) < 65536 then 3 else 1
theorem chk_bad {zs : List Int} (h : mayB zs = false) : chk zs = 5 := by simp [chk, h]
theorem bad_at {zs : List Int} (i : Nat) (hi : i < zs.length) (h : zs[i] < 0 ∨ 16 < zs[i]) : mayB zs = false := by
  rw [Bool.eq_false_iff]
  intro hm
  have := ((may_iff zs).1 hm).2 zs[i] (List.getElem_mem hi)
  omega
theorem half_step (k z : Nat) (h : k < z) (hz : z ≤ 16) : 2 ^ (16 - k) / 2 = 2 ^ (16 - (k + 1)) := by
  rw [show 16 - k = (16 - (k + 1)) + 1 by omega, Nat.pow_succ]; simp
theorem wt_take (zs : List Int) (i : Nat) (hi : i < zs.length) : wt (Ln (zs.take (i + 1))) = wt (Ln (zs.take i)) + wt1 zs[i].toNat := by
  rw [List.take_succ_eq_append_getElem hi, Ln, List.map_append, wt, List.map_append, List.sum_append]
  simp [wt, Ln]
theorem wt_le (zs : List Int) (n : Nat) (h : zs.length ≤ n) : wt (Ln zs) ≤ n * 32768 := by
  induction zs generalizing n with
  | nil => simp [wt, Ln]
  | cons z zs ih =>
    obtain ⟨m, rfl⟩ : ∃ m, n = m + 1 := ⟨n - 1, by simp at h; omega⟩
    have := ih m (by simpa using h)
    have h1 : wt1 z.toNat ≤ 32768 := by
      unfold wt1; split
      · omega
      · exact Nat.le_trans (Nat.pow_le_pow_right (by decide) (show 16 - z.toNat ≤ 15 by omega)) (by decide)
    simp only [Ln, wt, List.map_cons, List.sum_cons] at *
    omega
set_option maxRecDepth 100000 in
set_option maxHeartbeats 1000000 in
theorem refcheck_c (w : World) (v : Value) (zs : List Int) (h : Is .i64 w v zs) : Calls Tryz.prog 41 #[v] w fun e w' => e = .returned (.int .i64 (chk zs)) ∧ ∃ n, w' = w.drewN n := by
  have hl := h.len
  have HI := Lib.hid (fun i hi => h.at i hi)
  obtain ⟨a, cap, rfl, _, _⟩ := h.shape
  by_cases hbig : 4096 < zs.length
  · have hb : chk zs = 5 := chk_bad (by rw [Bool.eq_false_iff]; intro hm; have := (may_iff zs).1 hm; omega)
    rw [hb]
    clear hb h
    go_enter Tryz.func41, Tryz.ntmps41
    go_wp2
    go_ret
    exact ⟨rfl, 0, rfl⟩
  have hw := wt_le zs 4096 (by omega)
  clear h
  go_enter Tryz.func41, Tryz.ntmps41
  go_wp2_with fail
  go_loopw [3, 4] (fun x i wr => ∃ (k y : Nat), k ≤ zs.length ∧ i = .int .i64 k ∧ x = .int .i64 y ∧ Hid (y = wt (Ln (zs.take k))) ∧ y ≤ k * 32768 ∧ Hid (∀ j (hj : j < zs.length), j < k → 0 ≤ zs[j] ∧ zs[j] ≤ 16) ∧ ∃ n, wr = w.drewN n) (fun _ i _ => zs.length - (intOf i).toNat)
  case atStart => exact ⟨0, 0, by omega, rfl, rfl, by simp [Hid, wt, Ln], by omega, fun j _ hj => by omega, 0, rfl⟩
  case round =>
    obtain ⟨k, y, hk, rfl, rfl, HY, hy, HR, n, rfl⟩ := hrel
    by_cases hlt : k < zs.length
    · obtain ⟨b, off, cap', hv, e1⟩ := HI.out k hlt
      simp only [Value.slice.injEq] at hv
      obtain ⟨rfl, _, rfl⟩ := hv
      by_cases hbad : zs[k] < 0 ∨ 16 < zs[k]
      · have hc := Lib.hid (chk_bad (bad_at k hlt hbad))
        generalize zs[k] = z at e1 hbad
        by_cases hneg : z < 0
        · clear hbad
          go_wp2_with fail
          go_ret
          exact ⟨by rw [hc.out]; rfl, _, rfl⟩
        · have : 16 < z := by omega
          clear hbad
          go_wp2_with fail
          go_ret
          exact ⟨by rw [hc.out]; rfl, _, rfl⟩
      · have HR2 : Hid (∀ j (hj : j < zs.length), j < k + 1 → 0 ≤ zs[j] ∧ zs[j] ≤ 16) := by
          intro j hj hjk
          by_cases e : j = k
          · subst e; omega
          · exact HR.out j hj (by omega)
        have HT := Lib.hid (wt_take zs k hlt)
        obtain ⟨z, hz⟩ : ∃ z : Nat, zs[k] = z := ⟨zs[k].toNat, by omega⟩
        have hz2 : z ≤ 16 := by omega
        rw [hz] at e1 HT
        have HT2 : Hid (wt (Ln (zs.take (k + 1))) = y + wt1 z) := by
          unfold Hid; rw [HT.out, HY.out]; rfl
        have hw1 : wt1 z ≤ 32768 := by
          unfold wt1; split
          · omega
          · exact Nat.le_trans (Nat.pow_le_pow_right (by decide) (show 16 - z ≤ 15 by omega)) (by decide)
        clear hbad hz HR HT
        by_cases hz0 : z = 0
        · have hw0 : wt1 z = 0 := by simp [wt1, hz0]
          rw [hw0] at HT2
          clear hw0 hw1
          subst hz0
          go_wp2_with fail
          go_roundw
          case rel => exact ⟨k + 1, y, by omega, by go_num, rfl, HT2.out.symm, by omega, HR2, _, rfl⟩
          case measure => simp [intOf]; omega
        · have hw0 : wt1 z = 2 ^ (16 - z) := by unfold wt1; rw [if_neg hz0]
          have HW0 := Lib.hid hw0
          clear hw0
          go_wp2_with fail
          go_loopw [5, 6] (fun x i w2 => ∃ (m q : Nat), m ≤ z ∧ i = .int .i64 m ∧ x = .int .i64 q ∧ q ≤ 65536 ∧ Hid (q = 2 ^ (16 - m)) ∧ ∃ n, w2 = w.drewN n) (fun _ i _ => z - (intOf i).toNat)
          case atStart => exact ⟨0, 65536, by omega, rfl, rfl, by omega, by simp [Hid], _, rfl⟩
          case round =>
            obtain ⟨m, q, hm, rfl, rfl, hq, HQ, n2, rfl⟩ := hrel
            by_cases hmz : m < z
            · have HQ2 : Hid (q / 2 = 2 ^ (16 - (m + 1))) := by unfold Hid; rw [HQ.out, half_step m z hmz hz2]
              go_wp2_with fail
              go_roundw
              case rel => exact ⟨m + 1, q / 2, by omega, by go_num, by go_num, by omega, HQ2, _, rfl⟩
              case measure => simp [intOf]; omega
            · obtain rfl : m = z := by omega
              have hqq : q = wt1 m := by rw [HQ.out, HW0.out]
              rw [← hqq] at HT2 hw1
              clear hqq HQ HW0
              go_wp2_with fail
              go_roundw
              case rel => exact ⟨k + 1, y + q, by omega, by go_num, by go_num, HT2.out.symm, by omega, HR2, _, rfl⟩
              case measure => simp [intOf]; omega
    · obtain rfl : k = zs.length := by omega
      have hm : mayB zs = true := (may_iff zs).2 ⟨by omega, fun z hz => by
        obtain ⟨j, hj, rfl⟩ := List.getElem_of_mem hz
        exact HR.out j hj hj⟩
      have HC : Hid (chk zs = if y = 0 then 4 else if 65536 < y then 2 else if y < 65536 then 3 else 1) := by
        have := HY.out
        rw [List.take_length] at this
        unfold Hid chk; rw [hm, ← this]; rfl
      clear hm HY HR
      by_cases h0 : y = 0
      · rw [if_pos h0] at HC
        subst h0
        go_wp2_with fail
        go_ret
        exact ⟨by rw [HC.out]; rfl, _, rfl⟩
      rw [if_neg h0] at HC
      by_cases h1 : 65536 < y
      · rw [if_pos h1] at HC
        go_wp2_with fail
        go_ret
        exact ⟨by rw [HC.out]; rfl, _, rfl⟩
      rw [if_neg h1] at HC
      have b0 : ((y : Int) == 0) = false := by simp; omega
      have b1 : decide ((65536 : Int) < y) = false := by simp; omega
      by_cases h2 : y < 65536
      · rw [if_pos h2] at HC
        have b2 : decide ((y : Int) < 65536) = true := by simp; omega
        clear h0 h1 h2 hy hbig hw
        go_wp2_with fail
        go_ret
        exact ⟨by rw [HC.out]; rfl, _, rfl⟩
      rw [if_neg h2] at HC
      have b2 : decide ((y : Int) < 65536) = false := by simp; omega
      clear h0 h1 h2 hy hbig hw
      go_wp2_with fail
      go_ret
      exact ⟨by rw [HC.out]; rfl, _, rfl⟩
/-- v is the row of the words of L -/
def Cds (w : World) (v : Value) (L : List Nat) : Prop := Sts w v L.length 2 fun i j => if j = 0 then .int .u32 (code L i) else .int .i64 (len L i)
def werr (zs : List Int) : Nat := if chk zs = 5 then 2 else if chk zs = 2 then 6 else 0
theorem werr_ok {zs : List Int} (h : werr zs = 0) : mayB zs = true ∧ wt (Ln zs) ≤ 65536 := by
  unfold werr at h
  by_cases h5 : chk zs = 5
  · rw [if_pos h5] at h; omega
  by_cases h2 : chk zs = 2
  · rw [if_neg h5, if_pos h2] at h; omega
  unfold chk at h5 h2
  cases hm : mayB zs with
  | false => rw [hm] at h5; simp at h5
  | true =>
    rw [hm] at h5 h2
    refine ⟨rfl, ?_⟩
    by_cases h0 : wt (Ln zs) = 0
    · omega
    · rw [if_neg (by simp), if_neg h0] at h2
      by_cases h3 : 65536 < wt (Ln zs)
      · rw [if_pos h3] at h2; simp at h2
      · omega
/-- how much of the row is given out ahead of symbol i of n bits -/
def upTo (L : List Nat) (n i : Nat) : Nat := acc L (n - 1) + (L.take i).count n * 2 ^ (16 - n)
theorem upTo_lo (L : List Nat) (n i : Nat) (h : len L i = n) : upTo L n i = lo L i := by subst h; rfl
theorem upTo_le (L : List Nat) (n i : Nat) (h1 : 0 < n) (h : n ≤ 16) (hL : ∀ x ∈ L, x ≤ 16) : upTo L n i ≤ wt L := by
  obtain ⟨m, rfl⟩ : ∃ m, n = m + 1 := ⟨n - 1, by omega⟩
  have h2 := acc_mono L (m + 1) 16 h
  rw [acc16 L hL, acc] at h2
  have h3 : (L.take i).count (m + 1) ≤ L.count (m + 1) := List.Sublist.count_le _ (List.take_sublist _ _)
  have := Nat.mul_le_mul_right (2 ^ (16 - (m + 1))) h3
  unfold upTo
  rw [Nat.add_sub_cancel]
  omega
theorem upTo_skip (L : List Nat) (n i : Nat) (hi : i < L.length) (h : len L i ≠ n) : upTo L n (i + 1) = upTo L n i := by
  unfold upTo
  rw [List.take_succ_eq_append_getElem hi, List.count_append, ← len_get L i hi]
  simp [List.count_cons, h]
theorem upTo_take (L : List Nat) (n i : Nat) (hi : i < L.length) (h : len L i = n) : upTo L n (i + 1) = upTo L n i + 2 ^ (16 - n) := by
  unfold upTo
  rw [List.take_succ_eq_append_getElem hi, List.count_append, ← len_get L i hi, h]
  simp [Nat.add_mul]; omega
theorem upTo_next (L : List Nat) (n : Nat) (h : 0 < n) : upTo L n L.length = upTo L (n + 1) 0 := by
  obtain ⟨m, rfl⟩ : ∃ m, n = m + 1 := ⟨n - 1, by omega⟩
  unfold upTo
  simp [acc]
/-- has the word of symbol j been given out? -/
def dn (L : List Nat) (n i j : Nat) : Bool := decide (0 < len L j) && (decide (len L j < n) || (decide (len L j = n) && decide (j < i)))
/-- the row's cells -/
def CsAt (cs : Array Value) (L : List Nat) (n i : Nat) : Prop := ∀ j, j < L.length → cs[j * 2]? = some (.int .u32 (if dn L n i j then (code L j : Int) else 0)) ∧ cs[j * 2 + 1]? = some (.int .i64 (if dn L n i j then (len L j : Int) else 0))
theorem dn_skip (L : List Nat) (n i j : Nat) (h : len L i ≠ n) : dn L n (i + 1) j = dn L n i j := by
  unfold dn
  by_cases e : j = i
  · subst e; simp [h]
  · rw [show decide (j < i + 1) = decide (j < i) by simp; omega]
theorem dn_take (L : List Nat) (n i j : Nat) (h : len L i = n) (h0 : 0 < n) : dn L n (i + 1) j = if j = i then true else dn L n i j := by
  unfold dn
  by_cases e : j = i
  · subst e; simp [h, h0]
  · rw [if_neg e, show decide (j < i + 1) = decide (j < i) by simp; omega]
theorem dn_next (L : List Nat) (n j : Nat) (hj : j < L.length) : dn L n L.length j = dn L (n + 1) 0 j := by
  unfold dn
  rw [show decide (j < L.length) = true by simpa using hj, Bool.and_true, show decide (j < 0) = false by simp, Bool.and_false, Bool.or_false]
  congr 1
  by_cases e : len L j = n
  · simp [e]
  · rw [show decide (len L j = n) = false by simpa using e, Bool.or_false]
    by_cases e2 : len L j < n
    · simp [e2]; omega
    · simp [e2]; omega
theorem dn_all (L : List Nat) (j : Nat) (hL : ∀ x ∈ L, x ≤ 16) : dn L 17 0 j = decide (0 < len L j) := by
  have : len L j < 17 := by have := longest_ge L j; have := longest_le L 16 hL; omega
  simp [dn, this]
theorem CsAt.skip {cs : Array Value} {L : List Nat} {n i : Nat} (h : CsAt cs L n i) (hn : len L i ≠ n) : CsAt cs L n (i + 1) := by
  intro j hj; rw [dn_skip L n i j hn]; exact h j hj
theorem CsAt.next {cs : Array Value} {L : List Nat} {n : Nat} (h : CsAt cs L n L.length) : CsAt cs L (n + 1) 0 := by
  intro j hj; rw [← dn_next L n j hj]; exact h j hj
theorem CsAt.take {cs : Array Value} {L : List Nat} {n i : Nat} (h : CsAt cs L n i) (hs : cs.size = L.length * 2) (hi : i < L.length) (hn : len L i = n) (h0 : 0 < n) :
    CsAt ((cs.setIfInBounds (i * 2) (.int .u32 (code L i))).setIfInBounds (i * 2 + 1) (.int .i64 n)) L n (i + 1) := by
  intro j hj
  rw [dn_take L n i j hn h0]
  simp only [Array.getElem?_setIfInBounds, Array.size_setIfInBounds]
  by_cases e : j = i
  · subst e
    simp [hn, hs]
    omega
  · have a1 : ¬ i * 2 + 1 = j * 2 := by omega
    have a2 : ¬ i * 2 = j * 2 := by omega
    have a3 : ¬ i * 2 + 1 = j * 2 + 1 := by omega
    have a4 : ¬ i * 2 = j * 2 + 1 := by omega
    simp only [if_neg e, if_neg a1, if_neg a2, if_neg a3, if_neg a4]
    exact h j hj
theorem CsAt.cds {w : World} {b : Nat} {cs : Array Value} {L : List Nat} (hb : Blk w b cs 62) (h : CsAt cs L 17 0) (hL : ∀ x ∈ L, x ≤ 16) (hm : L.length ≤ maxLen) : Cds w (.slice (some ⟨b, 0, none⟩) L.length L.length) L := by
  refine ⟨_, _, rfl, Nat.le_refl _, hm, by simp, ?_⟩
  intro x hx i hi j hj
  obtain rfl : _ = x := Option.some.inj hx
  have h1 := h i hi
  rw [dn_all L i hL] at h1
  have e : ∀ m, ((⟨b, 0, none⟩ : Addr).add m) = ⟨b, m, none⟩ := fun m => by cases m <;> simp [Addr.add]
  rw [e]
  obtain rfl | rfl : j = 0 ∨ j = 1 := by omega
  · have h2 := hb.cell (i * 2) _ h1.1
    rw [Nat.add_zero, h2]
    by_cases h0 : 0 < len L i
    · simp [h0]
    · have : len L i = 0 := by omega
      simp [this, code, tr]
  · have h2 := hb.cell (i * 2 + 1) _ h1.2
    rw [h2]
    by_cases h0 : 0 < len L i
    · simp [h0]
    · have : len L i = 0 := by omega
      simp [this]
theorem infoCode : (Tryz.prog.info? 62).map (fun i => (i.zero.map (·.cells), i.size, i.bytes)) = some (some #[.int .u32 0, .int .i64 0], 2, 16) := by kernel_rfl
theorem run_make_codes (w : World) (n : Nat) (hn : n ≤ 4096) : (Instr.makeSlice 52 (.int .i64 (n : Int)) (.int .i64 (n : Int))).run Tryz.prog w = .ok (.slice (some ⟨w.heap.size, 0, none⟩) n n) (w.alloc (.cells (madeCells #[.int .u32 0, .int .i64 0] (n * 2)) 62)) := by
  obtain ⟨i, hi, hzz⟩ := Option.map_eq_some_iff.1 infoCode
  simp only [Prod.mk.injEq] at hzz
  obtain ⟨hz, hs, hb⟩ := hzz
  obtain ⟨z, hz, hzc⟩ := Option.map_eq_some_iff.1 hz
  have := run_make (P := Tryz.prog) (w := w) 52 62 i z Tryz.underlying52 hi hz .i64 .i64 n n (by omega) (by omega) (by rw [hb]; omega) (by omega)
  rw [this, hzc, hs]
  simp
theorem CsAt.made (L : List Nat) : CsAt (madeCells #[.int .u32 0, .int .i64 0] (L.length * 2)) L 1 0 := by
  intro j hj
  have hd : dn L 1 0 j = false := by simp [dn]; omega
  rw [hd]
  unfold madeCells
  have e1 : j * 2 % 2 = 0 := by omega
  have e2 : (j * 2 + 1) % 2 = 1 := by omega
  constructor
  · rw [Array.getElem?_map, Array.getElem?_range, if_pos (by omega)]; simp
  · rw [Array.getElem?_map, Array.getElem?_range, if_pos (by omega)]; simp [e2]
end Go.Proofs.YtibkepjbblfkoaaGreatDoor
namespace Go.Proofs.YtibkepjbblfkoaaGreatDoor
set_option linter.unusedVariables false
set_option linter.unusedSimpArgs false
open Go.ChangeShapes Go.WideShapes Go.ChangeAt Go.RowKit

theorem turn_code (x n : Nat) (h : n ≤ 16) : turn x (n : Int) = tr n x 0 := by
  unfold turn
  rw [show (max 0 (min (n : Int) 32)).toNat = n by omega]
/-- where the words stand: the last one and its length -/
def At (A y m n : Nat) : Prop := (m = 0 ∧ y = 0 ∧ A = 0) ∨ (0 < m ∧ m ≤ n ∧ (y + 1) * 2 ^ (16 - m) = A)
theorem At.next {A y m n : Nat} (h : At A y m n) : At A y m (n + 1) := by
  rcases h with h | ⟨a, b, c⟩
  · exact .inl h
  · exact .inr ⟨a, by omega, c⟩
theorem double (y m n : Nat) (h : m < n) (hn : n ≤ 16) : y * 2 * 2 ^ (16 - (m + 1)) = y * 2 ^ (16 - m) := by
  rw [show 16 - m = (16 - (m + 1)) + 1 by omega, Nat.pow_succ', Nat.mul_assoc]
theorem le_of_mul {y q A : Nat} (h : y * q = A) (hq : 0 < q) (hA : A ≤ 65536) : y ≤ 65536 := by
  have : y * 1 ≤ y * q := Nat.mul_le_mul_left y hq
  omega
set_option maxRecDepth 100000 in
set_option maxHeartbeats 2000000 in
theorem refwords_ok (w : World) (v : Value) (zs : List Int) (h : Is .i64 w v zs) (h0 : werr zs = 0) : Calls Tryz.prog 42 #[v] w fun e w' => ∃ v', e = .returned (.tuple #[v', .int .i64 0]) ∧ Cds w' v' (Ln zs) ∧ Keep [] w w' ∧ ∀ b, v'.ownBlock = some b → w.heap.size ≤ b := by
  obtain ⟨hm, hwt⟩ := werr_ok h0
  have hL := may_Ln hm
  have hlen : zs.length ≤ 4096 := ((may_iff zs).1 hm).1
  have HG := Lib.hid (fun i hi => may_get hm i hi)
  have n5 : (((chk zs : Nat) : Int) == 5) = false := by
    by_cases e : chk zs = 5
    · unfold werr at h0; rw [if_pos e] at h0; omega
    · simp; omega
  have n2 : (((chk zs : Nat) : Int) == 2) = false := by
    by_cases e : chk zs = 2
    · unfold werr at h0; rw [e] at h0; simp at h0
    · simp; omega
  have hN := Ln_length zs
  obtain ⟨a, cap, rfl, _, _⟩ := h.shape
  have HC := Lib.hid (fun w' (k : Keep [] w w') => refcheck_c w' _ zs (h.keep k (by simp)))
  have hmk := fun w' => run_make_codes w' zs.length hlen
  have HI := Lib.hid (fun i hi => h.at i hi)
  have HL := Lib.hid hL
  generalize chk zs = ck at n5 n2 HC
  generalize Ln zs = L at hL hwt HG hN HL ⊢
  have HN := Lib.hid hN; clear hN hL hm h0 h
  go_enter Tryz.func42, Tryz.ntmps42
  go_wp2_with fail
  refine (HC.out _ (Keep.refl _ _)).mono ?_; rintro e w1 ⟨rfl, m1, rfl⟩
  go_wp2_with fail
  refine (HC.out _ ((Keep.refl _ _).drewN _)).mono ?_; rintro e w1 ⟨rfl, m2, rfl⟩
  go_wp2_with fail
  go_loopw [5, 6, 7] (fun x m n wr => ∃ (y l k : Nat) (cs : Array Value), 1 ≤ k ∧ k ≤ 17 ∧ n = .int .i64 k ∧ m = .int .i64 l ∧ x = .int .u32 y ∧ Hid (At (upTo L k 0) y l k) ∧ Hid (cs.size = zs.length * 2) ∧ Hid (CsAt cs L k 0) ∧ Blk wr w.heap.size cs 62 ∧ Keep [] w wr) (fun _ _ n _ => 17 - (intOf n).toNat)
  case atStart =>
    refine ⟨0, 0, 1, _, by omega, by omega, rfl, rfl, rfl, .inl ⟨rfl, rfl, by simp [upTo, acc]⟩, ?_, ?_, Blk.new _ _ _, ((Keep.refl [] w).drewN _).alloc _⟩
    · unfold Hid; rw [size_madeCells]
    · rw [← HN.out]; exact CsAt.made L
  case round =>
    obtain ⟨y, l, k, cs, hk1, hk2, rfl, rfl, rfl, HA, HS, HCs, hb, K⟩ := hrel
    by_cases hk : k ≤ 16
    · have hd16 : decide ((k : Int) ≤ 16) = true := by simp; omega
      go_wp2_with fail
      go_loopw [5, 6, 8] (fun x m n w2 => ∃ (y l i : Nat) (cs : Array Value), i ≤ zs.length ∧ n = .int .i64 i ∧ m = .int .i64 l ∧ x = .int .u32 y ∧ Hid (At (upTo L k i) y l k) ∧ Hid (cs.size = zs.length * 2) ∧ Hid (CsAt cs L k i) ∧ Blk w2 w.heap.size cs 62 ∧ Keep [] w w2) (fun _ _ n _ => zs.length - (intOf n).toNat)
      case atStart => exact ⟨y, l, 0, cs, by omega, rfl, rfl, rfl, HA, HS, HCs, hb, K⟩
      case round =>
        clear HA HS HCs hb K
        obtain ⟨y, l, i, cs, hi, rfl, rfl, rfl, HA, HS, HCs, hb, K⟩ := hrel
        by_cases hlt : i < zs.length
        · obtain ⟨b, off, cap', hv, e1⟩ := HI.out i hlt
          simp only [Value.slice.injEq] at hv
          obtain ⟨rfl, _, rfl⟩ := hv
          have e1 := K.cell e1 (by simp)
          obtain ⟨g1, g2⟩ := HG.out i hlt
          rw [g1] at e1
          clear g1
          by_cases hne : len L i = k
          · have hup := upTo_le L k i (by omega) hk HL.out
            have hlo : upTo L k i = wd L i * 2 ^ (16 - k) := by
              rw [upTo_lo L k i hne, ← lo_wd L i (by omega) g2, hne]
            have hq : 0 < 2 ^ (16 - k) := Nat.pow_pos (by decide)
            have htk := upTo_take L k i (by rw [HN.out]; exact hlt) hne
            have hcs := HCs.out.take (by rw [HS.out, HN.out]) (by rw [HN.out]; exact hlt) hne (by omega)
            have hcode : code L i = tr k (wd L i) 0 := by unfold code; rw [hne]
            have hnext : At (upTo L k (i + 1)) (wd L i) k k := .inr ⟨by omega, Nat.le_refl _, by rw [htk, hlo, Nat.add_mul, Nat.one_mul]⟩
            have HNX := Lib.hid hnext
            have HCO := Lib.hid hcode
            have HCS := Lib.hid hcs
            have HLO := Lib.hid hlo
            have e1' := e1
            rw [hne] at e1
            clear hlo htk hcs hcode hnext e1' hne HCs
            have HU : Hid (wd L i * 2 ^ (16 - k) ≤ 65536) := by unfold Hid; rw [← HLO.out]; exact Nat.le_trans hup hwt
            have hwl : wd L i ≤ 65536 := le_of_mul rfl hq HU.out
            clear hup
            by_cases hl0 : l = 0
            · obtain ⟨hy0, hA0⟩ : y = 0 ∧ upTo L k i = 0 := by
                rcases HA.out with ⟨_, b, c⟩ | ⟨b, _, _⟩
                · exact ⟨b, c⟩
                · omega
              have hw0 : wd L i * 2 ^ (16 - k) = 0 := by rw [← HLO.out]; exact hA0
              have HW0 := Lib.hid hw0
              subst hl0 hy0
              clear hw0 hA0 HA
              go_wp2_with fail
              go_loopw [5, 6] (fun x m w3 => ∃ (y l : Nat), 1 ≤ l ∧ l ≤ k ∧ m = .int .i64 l ∧ x = .int .u32 y ∧ y ≤ 65536 ∧ Hid (y * 2 ^ (16 - l) = wd L i * 2 ^ (16 - k)) ∧ ∃ n, w3 = wr.drewN n) (fun _ m _ => k - (intOf m).toNat)
              case atStart => exact ⟨0, k, by omega, by omega, rfl, rfl, by omega, by unfold Hid; rw [HW0.out]; simp, 0, rfl⟩
              case round =>
                obtain ⟨y, l, hl1, hl2, rfl, rfl, hy, HY, n3, rfl⟩ := hrel
                by_cases hlk : l < k
                · have hd := double y l k hlk hk
                  have hy2 : y * 2 ≤ 65536 := le_of_mul (hd.trans (HY.out)) (Nat.pow_pos (by decide)) HU.out
                  have HD : Hid (y * 2 * 2 ^ (16 - (l + 1)) = wd L i * 2 ^ (16 - k)) := hd.trans HY.out
                  clear hd
                  go_wp2_with fail
                  go_roundw
                  case rel => exact ⟨y * 2, l + 1, by omega, by omega, by go_num, by go_num, hy2, HD, _, rfl⟩
                  case measure => simp [intOf]; omega
                · obtain rfl : l = k := by omega
                  have hyw : y = wd L i := Nat.eq_of_mul_eq_mul_right (Nat.pow_pos (by decide)) HY.out
                  subst hyw
                  have ht := turn_code (wd L i) l hk
                  rw [← HCO.out] at ht
                  have HTC := Lib.hid (fun w4 => turnref_c (wd L i) (l : Int) w4 (by omega))
                  rw [ht] at HTC
                  clear ht HY
                  generalize wd L i = y at *
                  generalize code L i = cd at *
                  clear HU HCO HLO
                  have hb' := hb.drewN n3
                  have K' := K.drewN n3
                  generalize wr.drewN n3 = w5 at hb' K' ⊢
                  go_wp2_with fail
                  refine (HTC.out _).mono ?_; rintro e w6 ⟨rfl, rfl⟩
                  have s0 : i * 2 < cs.size := by rw [HS.out]; omega
                  have s1 : i * 2 + 1 < cs.size := by rw [HS.out]; omega
                  have c0 := hb'.cell (i * 2) _ (Array.getElem?_eq_getElem s0)
                  have c1 := hb'.cell (i * 2 + 1) _ (Array.getElem?_eq_getElem s1)
                  have f0 := hb'.free (i * 2)
                  have f1 := hb'.free (i * 2 + 1)
                  go_wp2_with fail
                  go_roundw
                  case rel => exact ⟨y, l, i + 1, _, by omega, by go_num, rfl, rfl, HNX, by unfold Hid; simpa using HS.out, HCS, (hb'.set (i * 2) _).set (i * 2 + 1) _, (K'.setCell (.inr (by simp)) _).setCell (.inr (by simp)) _⟩
                  case measure => simp [intOf]; omega
            · obtain ⟨hl1, hA0⟩ : l ≤ k ∧ (y + 1) * 2 ^ (16 - l) = upTo L k i := by
                rcases HA.out with ⟨b, _⟩ | ⟨_, b, c⟩
                · omega
                · exact ⟨b, c⟩
              have hw0 : (y + 1) * 2 ^ (16 - l) = wd L i * 2 ^ (16 - k) := hA0.trans HLO.out
              have hy1 : y + 1 ≤ 65536 := le_of_mul hw0 (Nat.pow_pos (by decide)) HU.out
              have HW0 := Lib.hid hw0
              clear hw0 hA0 HA
              go_wp2_with fail
              go_loopw [5, 6] (fun x m w3 => ∃ (y l : Nat), 1 ≤ l ∧ l ≤ k ∧ m = .int .i64 l ∧ x = .int .u32 y ∧ y ≤ 65536 ∧ Hid (y * 2 ^ (16 - l) = wd L i * 2 ^ (16 - k)) ∧ ∃ n, w3 = wr.drewN n) (fun _ m _ => k - (intOf m).toNat)
              case atStart => exact ⟨y + 1, l, by omega, hl1, rfl, by go_num, hy1, HW0, 0, rfl⟩
              case round =>
                obtain ⟨y, l, hl1, hl2, rfl, rfl, hy, HY, n3, rfl⟩ := hrel
                by_cases hlk : l < k
                · have hd := double y l k hlk hk
                  have hy2 : y * 2 ≤ 65536 := le_of_mul (hd.trans (HY.out)) (Nat.pow_pos (by decide)) HU.out
                  have HD : Hid (y * 2 * 2 ^ (16 - (l + 1)) = wd L i * 2 ^ (16 - k)) := hd.trans HY.out
                  clear hd
                  go_wp2_with fail
                  go_roundw
                  case rel => exact ⟨y * 2, l + 1, by omega, by omega, by go_num, by go_num, hy2, HD, _, rfl⟩
                  case measure => simp [intOf]; omega
                · obtain rfl : l = k := by omega
                  have hyw : y = wd L i := Nat.eq_of_mul_eq_mul_right (Nat.pow_pos (by decide)) HY.out
                  subst hyw
                  have ht := turn_code (wd L i) l hk
                  rw [← HCO.out] at ht
                  have HTC := Lib.hid (fun w4 => turnref_c (wd L i) (l : Int) w4 (by omega))
                  rw [ht] at HTC
                  clear ht HY
                  generalize wd L i = y at *
                  generalize code L i = cd at *
                  clear HU HCO HLO
                  have hb' := hb.drewN n3
                  have K' := K.drewN n3
                  generalize wr.drewN n3 = w5 at hb' K' ⊢
                  go_wp2_with fail
                  refine (HTC.out _).mono ?_; rintro e w6 ⟨rfl, rfl⟩
                  have s0 : i * 2 < cs.size := by rw [HS.out]; omega
                  have s1 : i * 2 + 1 < cs.size := by rw [HS.out]; omega
                  have c0 := hb'.cell (i * 2) _ (Array.getElem?_eq_getElem s0)
                  have c1 := hb'.cell (i * 2 + 1) _ (Array.getElem?_eq_getElem s1)
                  have f0 := hb'.free (i * 2)
                  have f1 := hb'.free (i * 2 + 1)
                  go_wp2_with fail
                  go_roundw
                  case rel => exact ⟨y, l, i + 1, _, by omega, by go_num, rfl, rfl, HNX, by unfold Hid; simpa using HS.out, HCS, (hb'.set (i * 2) _).set (i * 2 + 1) _, (K'.setCell (.inr (by simp)) _).setCell (.inr (by simp)) _⟩
                  case measure => simp [intOf]; omega
          · have HA2 : Hid (At (upTo L k (i + 1)) y l k) := by unfold Hid; rw [upTo_skip L k i (by rw [HN.out]; exact hlt) hne]; exact HA.out
            have HC2 : Hid (CsAt cs L k (i + 1)) := HCs.out.skip hne
            clear HA HCs
            go_wp2_with fail
            go_roundw
            case rel => exact ⟨y, l, i + 1, cs, by omega, by go_num, rfl, rfl, HA2, HS, HC2, hb, K⟩
            case measure => simp [intOf]; omega
        · obtain rfl : i = zs.length := by omega
          go_wp2_with fail
          go_roundw
          case rel =>
            refine ⟨y, l, k + 1, cs, by omega, by omega, by go_num, rfl, rfl, ?_, HS, ?_, hb, K⟩
            · have := HA.out; unfold Hid; rw [← HN.out, upTo_next L k (by omega)] at this; exact this.next
            · have := HCs.out; rw [← HN.out] at this; exact this.next
          case measure => simp [intOf]; omega
    · obtain rfl : k = 17 := by omega
      have hc := CsAt.cds hb HCs.out HL.out (by rw [HN.out]; unfold maxLen; omega)
      rw [HN.out] at hc
      go_wp2_with fail
      go_ret2
      exact ⟨_, rfl, hc, K, by simp [Value.ownBlock]⟩
end Go.Proofs.YtibkepjbblfkoaaGreatDoor
namespace Go.Proofs.YtibkepjbblfkoaaGreatDoor
set_option linter.unusedVariables false
set_option linter.unusedSimpArgs false
open Go.ChangeShapes Go.WideShapes Go.ChangeAt Go.RowKit

theorem Cds.nix (w : World) : Cds w (.slice none 0 0) [] := ⟨none, 0, rfl, by simp, by simp, fun _ => rfl, fun x hx => nomatch hx⟩
theorem Cds.keep {w w' : World} {v : Value} {L : List Nat} {S : List Nat} (h : Cds w v L) (k : Keep S w w') (hb : ∀ b, v.ownBlock = some b → b ∉ S) : Cds w' v L := Sts.keep h k hb
theorem Cds.drewN {w : World} {v : Value} {L : List Nat} (h : Cds w v L) (n : Nat) : Cds (w.drewN n) v L := h.keep ((Keep.refl [] w).drewN _) (by simp)
theorem Cds.shape {w : World} {v : Value} {L : List Nat} (h : Cds w v L) : ∃ a cap, v = .slice a L.length cap ∧ L.length ≤ 9223372036854775807 := by
  obtain ⟨a, cap, rfl, h1, h2, _⟩ := h
  unfold maxLen at h2
  exact ⟨a, cap, rfl, by omega⟩
theorem Cds.at {w : World} {v : Value} {L : List Nat} (h : Cds w v L) (i : Nat) (hi : i < L.length) : ∃ b off cap, v = .slice (some ⟨b, off, none⟩) L.length cap ∧ w.cell? ⟨b, off + i * 2, none⟩ = some (.int .u32 (code L i)) ∧ w.cell? ⟨b, off + i * 2 + 1, none⟩ = some (.int .i64 (len L i)) := by
  rcases Sts.cases (by decide) h with ⟨h0, _⟩ | ⟨_, b, off, cap, rfl, _, _, _, hc⟩
  · omega
  · exact ⟨b, off, cap, rfl, hc i hi 0 (by omega), hc i hi 1 (by omega)⟩
set_option maxHeartbeats 1000000 in
theorem refwords_err (w : World) (v : Value) (zs : List Int) (h : Is .i64 w v zs) (h0 : werr zs ≠ 0) : Calls Tryz.prog 42 #[v] w fun e w' => e = .returned (.tuple #[.slice none 0 0, .int .i64 (werr zs)]) ∧ Keep [] w w' := by
  have HC := Lib.hid (fun w' (k : Keep [] w w') => refcheck_c w' _ zs (h.keep k (by simp)))
  obtain ⟨a, cap, rfl, _, _⟩ := h.shape
  by_cases h5 : chk zs = 5
  · have n5 : (((chk zs : Nat) : Int) == 5) = true := by simp; omega
    have hw : Hid (werr zs = 2) := by unfold Hid werr; rw [if_pos h5]
    generalize chk zs = ck at n5 HC
    clear h5 h h0
    go_enter Tryz.func42, Tryz.ntmps42
    go_wp2_with fail
    refine (HC.out _ (Keep.refl _ _)).mono ?_; rintro e w1 ⟨rfl, m1, rfl⟩
    go_wp2_with fail
    go_ret2
    exact ⟨by rw [hw.out]; rfl, (Keep.refl _ _).drewN _⟩
  · have h2 : chk zs = 2 := by
      unfold werr at h0
      rw [if_neg h5] at h0
      by_cases e : chk zs = 2
      · exact e
      · rw [if_neg e] at h0; omega
    have n5 : (((chk zs : Nat) : Int) == 5) = false := by simp; omega
    have n2 : (((chk zs : Nat) : Int) == 2) = true := by simp; omega
    have hw : Hid (werr zs = 6) := by unfold Hid werr; rw [if_neg h5, if_pos h2]
    generalize chk zs = ck at n5 n2 HC
    clear h5 h2 h h0
    go_enter Tryz.func42, Tryz.ntmps42
    go_wp2_with fail
    refine (HC.out _ (Keep.refl _ _)).mono ?_; rintro e w1 ⟨rfl, m1, rfl⟩
    go_wp2_with fail
    refine (HC.out _ ((Keep.refl _ _).drewN _)).mono ?_; rintro e w1 ⟨rfl, m2, rfl⟩
    go_wp2_with fail
    go_ret2
    exact ⟨by rw [hw.out]; rfl, (Keep.refl _ _).drewN _⟩
/-- lengths whose words are asked for: none where there is an error -/
def Lw (zs : List Int) : List Nat := if werr zs = 0 then Ln zs else []
theorem refwords_c (w : World) (v : Value) (zs : List Int) (h : Is .i64 w v zs) : Calls Tryz.prog 42 #[v] w fun e w' => ∃ v', e = .returned (.tuple #[v', .int .i64 (werr zs)]) ∧ Cds w' v' (Lw zs) ∧ Keep [] w w' ∧ (∀ b, v'.ownBlock = some b → w.heap.size ≤ b) ∧ (werr zs ≠ 0 → v' = .slice none 0 0) := by
  unfold Lw
  by_cases h0 : werr zs = 0
  · rw [if_pos h0]
    refine (refwords_ok w v zs h h0).mono ?_
    rintro e w' ⟨v', rfl, a, b, c⟩
    exact ⟨v', by rw [h0]; rfl, a, b, c, fun h => absurd h0 h⟩
  · rw [if_neg h0]
    refine (refwords_err w v zs h h0).mono ?_
    rintro e w' ⟨rfl, a⟩
    exact ⟨_, rfl, Cds.nix _, a, by simp [Value.ownBlock], fun _ => rfl⟩
theorem longest_take (L : List Nat) (i : Nat) (h : i < L.length) : longest (L.take (i + 1)) = max (longest (L.take i)) (len L i) := by
  rw [List.take_succ_eq_append_getElem h, longest_snoc, ← len_get L i h]
set_option maxHeartbeats 1000000 in
theorem reflongest_c (w : World) (v : Value) (L : List Nat) (hL : ∀ x ∈ L, x ≤ 16) (h : Cds w v L) : Calls Tryz.prog 80 #[v] w fun e w' => e = .returned (.int .i64 (longest L)) ∧ ∃ n, w' = w.drewN n := by
  have HI := Lib.hid (fun i hi => h.at i hi)
  obtain ⟨a, cap, rfl, hm⟩ := h.shape
  have hl16 := longest_le L 16 hL
  have HL16 := Lib.hid (fun i => longest_ge L i)
  clear h
  go_enter Tryz.func80, Tryz.ntmps80
  go_wp2_with fail
  go_loopw [3, 4] (fun x i wr => ∃ (k y : Nat), k ≤ L.length ∧ i = .int .i64 k ∧ x = .int .i64 y ∧ Hid (y = longest (L.take k)) ∧ y ≤ 16 ∧ ∃ n, wr = w.drewN n) (fun _ i _ => L.length - (intOf i).toNat)
  case atStart => exact ⟨0, 0, by omega, rfl, rfl, by simp [Hid, longest], by omega, 0, rfl⟩
  case round =>
    obtain ⟨k, y, hk, rfl, rfl, HY, hy, n, rfl⟩ := hrel
    by_cases hlt : k < L.length
    · obtain ⟨b, off, cap', hv, e0, e1⟩ := HI.out k hlt
      simp only [Value.slice.injEq] at hv
      obtain ⟨rfl, _, rfl⟩ := hv
      have HT := Lib.hid (longest_take L k hlt)
      have h16 : len L k ≤ 16 := by have := HL16.out k; omega
      have HT2 : Hid (longest (L.take (k + 1)) = max y (len L k)) := by unfold Hid; rw [HT.out, HY.out]
      generalize len L k = z at *
      by_cases hz : y < z
      · go_wp2_with fail
        go_roundw
        case rel => exact ⟨k + 1, z, by omega, by go_num, rfl, by unfold Hid; rw [HT2.out]; omega, h16, _, rfl⟩
        case measure => simp [intOf]; omega
      · go_wp2_with fail
        go_roundw
        case rel => exact ⟨k + 1, y, by omega, by go_num, rfl, by unfold Hid; rw [HT2.out]; omega, hy, _, rfl⟩
        case measure => simp [intOf]; omega
    · obtain rfl : k = L.length := by omega
      have hy2 := HY.out
      rw [List.take_length] at hy2
      have HY2 := Lib.hid hy2
      clear hy2
      go_wp2_with fail
      go_ret
      exact ⟨by rw [HY2.out]; rfl, _, rfl⟩
end Go.Proofs.YtibkepjbblfkoaaGreatDoor
namespace Go.Proofs.YtibkepjbblfkoaaGreatDoor
set_option linter.unusedVariables false
set_option linter.unusedSimpArgs false
open Go.ChangeShapes Go.WideShapes Go.ChangeAt Go.RowKit

/-- what reading a word answers: symbol, error, and the reader's state -/
def RS.next (L : List Nat) (s : RS) : Int × Nat × RS :=
  if s.E ≠ 0 then (-1, s.E, s) else
  match pick L (tr 16 (num s.l s.pos 16) 0) (min 16 s.left) with
  | some i => ((i : Int), 0, { s with pos := s.pos + len L i })
  | none => (-1, if s.left < longest L then 3 else 7, s)
theorem RS.next_err (L : List Nat) (s : RS) (h : s.E ≠ 0) : s.next L = (-1, s.E, s) := by unfold RS.next; rw [if_pos h]
theorem RS.next_hit (L : List Nat) (s : RS) (h : s.E = 0) (i : Nat) (hp : pick L (tr 16 (num s.l s.pos 16) 0) (min 16 s.left) = some i) : s.next L = ((i : Int), 0, { s with pos := s.pos + len L i }) := by
  unfold RS.next; rw [if_neg (by omega), hp]
theorem RS.next_none (L : List Nat) (s : RS) (h : s.E = 0) (hp : pick L (tr 16 (num s.l s.pos 16) 0) (min 16 s.left) = none) : s.next L = (-1, if s.left < longest L then 3 else 7, s) := by
  unfold RS.next; rw [if_neg (by omega), hp]
theorem mask32 (x n : Nat) (hx : x < 4294967296) (hn : n ≤ 16) : Go.bits .and .u32 (x : Int) (IntKind.u32.wrap (IntKind.u32.wrap (2 ^ n) - 1)) = ((x % 2 ^ n : Nat) : Int) := by
  have h2 : 2 ^ n ≤ 2 ^ 16 := Nat.pow_le_pow_right (by decide) hn
  have h3 : 0 < 2 ^ n := Nat.two_pow_pos n
  have e1 : IntKind.u32.wrap (IntKind.u32.wrap (2 ^ n) - 1) = ((2 ^ n - 1 : Nat) : Int) := by
    rw [show ((2 : Int) ^ n) = ((2 ^ n : Nat) : Int) by simp, IntKind.wrap_u32, IntKind.wrap_u32]
    generalize 2 ^ n = q at h2 h3
    omega
  rw [e1, u32_and_nat _ _ hx (by omega), Nat.and_two_pow_sub_one_eq_mod]
theorem mask32' (x n : Nat) (hx : x < 4294967296) (hn : n ≤ 16) : ∃ P : Nat, (2 : Int) ^ n % 4294967296 = P ∧ 1 ≤ P ∧ P ≤ 65536 ∧ Go.bits .and .u32 (x : Int) ((P : Int) - 1) = ((x % 2 ^ n : Nat) : Int) := by
  have h2 : 2 ^ n ≤ 2 ^ 16 := Nat.pow_le_pow_right (by decide) hn
  have h3 : 0 < 2 ^ n := Nat.two_pow_pos n
  refine ⟨2 ^ n, ?_, h3, h2, ?_⟩
  · rw [show ((2 : Int) ^ n) = ((2 ^ n : Nat) : Int) by simp]
    generalize 2 ^ n = q at h2 h3
    omega
  · rw [show (((2 ^ n : Nat) : Int) - 1) = ((2 ^ n - 1 : Nat) : Int) by omega, u32_and_nat _ _ hx (by omega), Nat.and_two_pow_sub_one_eq_mod]
/-- is word k the one? as bits -/
theorem hit_bits (L : List Nat) (x k h : Nat) (hk : k < L.length) (hL : ∀ y ∈ L, y ≤ 16) (hwt : wt L ≤ 65536) (h0 : 0 < len L k) : x % 2 ^ len L k = code L k ↔ hit L (tr 16 x 0) k := by
  have h16 : len L k ≤ 16 := by rw [len_get L k hk]; exact hL _ (List.getElem_mem hk)
  unfold code hit
  rw [bits_word x (wd L k) (len L k) h16 (wd_lt L k hk hL hwt h0)]
  exact ⟨fun h => ⟨hk, h0, h16, h⟩, fun h => h.2.2.2⟩
set_option maxRecDepth 100000 in
set_option maxHeartbeats 2000000 in
theorem refnext_c (w : World) (q : Nat) (v cv : Value) (s : RS) (L : List Nat) (hL : ∀ x ∈ L, x ≤ 16) (hwt : wt L ≤ 65536) (hc : Cds w cv L) (h : Rr w q v s) : Calls Tryz.prog 62 #[cv, .pointer (some ⟨q, 0, none⟩)] w fun e w' => e = .returned (.tuple #[.int .i64 (s.next L).1, .int .i64 (s.next L).2.1]) ∧ Rr w' q v (s.next L).2.2 ∧ Keep [q] w w' := by
  have c2 := h.1.cell 2 _ rfl
  have hE := h.E
  obtain ⟨a, cap, rfl, hm⟩ := hc.shape
  by_cases he : s.E = 0
  · have he2 : ((s.err : Int) != 0) = false := by simp; omega
    have hlk : s.look 16 = (num s.l s.pos 16, min 16 s.left) := by unfold RS.look; rw [if_neg (by omega)]; rfl
    have HK := Lib.hid (rlook_c w q v s 16 h)
    rw [hlk] at HK
    have HI := Lib.hid (fun i hi => hc.at i hi)
    have HB := Lib.hid (fun k hk h0 => hit_bits L (num s.l s.pos 16) k 0 hk hL hwt h0)
    have HS := Lib.hid (RS.next_hit L s he)
    have HN := Lib.hid (RS.next_none L s he)
    have HP := Lib.hid (pick_some L (tr 16 (num s.l s.pos 16) 0) (min 16 s.left) · hL)
    have HPN := Lib.hid (pick_none L (tr 16 (num s.l s.pos 16) 0) (min 16 s.left) hL)
    have HLG := Lib.hid (fun n => reflongest_c (w.drewN n) _ L hL (hc.drewN n))
    have H16 := Lib.hid (fun i => Nat.le_trans (longest_ge L i) (longest_le L 16 hL))
    have hx : num s.l s.pos 16 < 65536 := num_lt s.l s.pos 16
    generalize num s.l s.pos 16 = x at hx HK HB HS HN HP HPN
    have hmin : min 16 s.left ≤ 16 := by omega
    have hmin2 : min 16 s.left ≤ s.left := by omega
    have hle := RS.left_le s h.2.2.1
    generalize min 16 s.left = mn at HK HS HN HP HPN hmin hmin2
    have hlen16 := longest_le L 16 hL
    clear hL hc hlk hE
    have HH := Lib.hid h
    have HEE := Lib.hid he
    clear he
    go_enter Tryz.func62, Tryz.ntmps62
    go_wp2_with fail
    refine HK.out.mono ?_; rintro e w1 ⟨rfl, m1, rfl⟩
    go_wp2_with fail
    go_loopw [8] (fun i wr => ∃ k : Nat, k ≤ L.length ∧ i = .int .i64 k ∧ Hid (∀ j, j < k → ¬ (hit L (tr 16 x 0) j ∧ len L j ≤ mn)) ∧ ∃ n, wr = w.drewN n) (fun i _ => L.length - (intOf i).toNat)
    case atStart => exact ⟨0, by omega, rfl, fun j hj => by omega, _, rfl⟩
    case round =>
      obtain ⟨k, hk, rfl, HR, n, rfl⟩ := hrel
      by_cases hlt : k < L.length
      · obtain ⟨b, off, cap', hv, e0, e1⟩ := HI.out k hlt
        simp only [Value.slice.injEq] at hv
        obtain ⟨rfl, _, rfl⟩ := hv
        have h16 := H16.out k
        by_cases hm0 : hit L (tr 16 x 0) k ∧ len L k ≤ mn
        · have hpos : 0 < len L k := hm0.1.2.1
          have hx2 : x % 2 ^ len L k = code L k := (HB.out k hlt hpos).2 hm0.1
          have HP2 : Hid (pick L (tr 16 x 0) mn = some k) := (HP.out k).2 hm0
          have HS2 := Lib.hid (HS.out k HP2.out)
          obtain ⟨P, hP, hP1, hP2, hmk⟩ := mask32' x (len L k) (by omega) h16
          rw [hx2] at hmk
          have hzm := hm0.2
          have hl0 : s.left = 8 * s.l.length - s.pos := by unfold RS.left; rw [if_pos HEE.out]
          have hp1 := h.2.2.1.1
          have hlm : s.l.length ≤ 140737488355328 := h.2.2.1.2.1
          have H2 := (h.drewN n).setPos (s.pos + len L k) (by omega)
          have K2 : Keep [q] w ((w.drewN n).setCell ⟨q, 1, none⟩ (.int .i64 (s.pos + len L k : Nat))) := ((Keep.refl _ _).drewN n).setCell (by simp) _
          have f1 := h.1.free 1
          have c1 := h.1.cell 1 _ rfl
          generalize code L k = cd at *
          generalize len L k = z at *
          clear hm0 hx2 HP2 HB HP HN HPN hl0 HH HEE HR h
          go_wp2_with fail
          go_ret2
          rw [HS2.out]
          exact ⟨rfl, H2, K2⟩
        · have HR2 : Hid (∀ j, j < k + 1 → ¬ (hit L (tr 16 x 0) j ∧ len L j ≤ mn)) := by
            intro j hj
            by_cases e : j = k
            · subst e; exact hm0
            · exact HR.out j (by omega)
          by_cases hz0 : len L k = 0
          · rw [hz0] at e1
            clear hz0 hm0 HR
            go_wp2_with fail
            go_roundw
            case rel => exact ⟨k + 1, by omega, by go_num, HR2, _, rfl⟩
            case measure => simp [intOf]; omega
          by_cases hzm : mn < len L k
          · generalize len L k = z at *
            clear hm0 HR
            go_wp2_with fail
            go_roundw
            case rel => exact ⟨k + 1, by omega, by go_num, HR2, _, rfl⟩
            case measure => simp [intOf]; omega
          · have hpos : 0 < len L k := by omega
            have hne : x % 2 ^ len L k ≠ code L k := fun e => hm0 ⟨(HB.out k hlt hpos).1 e, by omega⟩
            obtain ⟨P, hP, hP1, hP2, hmk⟩ := mask32' x (len L k) (by omega) h16
            have hbe : (((x % 2 ^ len L k : Nat) : Int) == ((code L k : Nat) : Int)) = false := by
              simp only [beq_eq_false_iff_ne, ne_eq]; intro e; exact hne (Int.ofNat.inj e)
            generalize x % 2 ^ len L k = xm at hmk hbe
            generalize code L k = cd at e0 hbe
            generalize len L k = z at e1 h16 hz0 hzm hpos hP
            clear hm0 HR hne
            go_wp2_with fail
            go_roundw
            case rel => exact ⟨k + 1, by omega, by go_num, HR2, _, rfl⟩
            case measure => simp [intOf]; omega
      · obtain rfl : k = L.length := by omega
        have HP2 : Hid (pick L (tr 16 x 0) mn = none) := HPN.out.2 (fun i hi => by
          have := HR.out i hi.1
          rcases Nat.lt_or_ge mn (len L i) with h1 | h1
          · exact h1
          · exact absurd ⟨hi, h1⟩ this)
        have HN2 := Lib.hid (HN.out HP2.out)
        clear HR HP2 HB HP HPN HN HS HI
        go_wp2_with fail
        refine (rleft_c _ _ _ _ (HH.out.drewN n)).mono ?_; rintro e w2 ⟨rfl, m2, rfl⟩
        go_wp2_with fail
        refine (HLG.out (n + m2)).mono ?_; rintro e w2 ⟨rfl, m3, rfl⟩
        by_cases hll : s.left < longest L
        · rw [if_pos hll] at HN2
          generalize longest L = lg at *
          go_wp2_with fail
          go_ret2
          rw [HN2.out]
          exact ⟨rfl, HH.out.drewN _, (Keep.refl _ _).drewN _⟩
        · rw [if_neg hll] at HN2
          generalize longest L = lg at *
          go_wp2_with fail
          go_ret2
          rw [HN2.out]
          exact ⟨rfl, HH.out.drewN _, (Keep.refl _ _).drewN _⟩
  · have he2 : ((s.err : Int) != 0) = true := by simp; omega
    have HF := Lib.hid (RS.next_err L s he)
    have HE := Lib.hid hE
    clear hE he hc
    go_enter Tryz.func62, Tryz.ntmps62
    go_wp2_with fail
    go_quiet (fail)
    go_wp2_with fail
    go_ret2
    rw [HF.out, HE.out]
    exact ⟨rfl, h.drewN _, (Keep.refl _ _).drewN _⟩
end Go.Proofs.YtibkepjbblfkoaaGreatDoor
namespace Go.Proofs.YtibkepjbblfkoaaGreatDoor
set_option linter.unusedVariables false
set_option linter.unusedSimpArgs false
open Go.ChangeShapes Go.WideShapes Go.ChangeAt Go.RowKit

def mayS (zs : List Int) : Bool := decide (0 < zs.length) && (decide (zs.length ≤ 256) && zs.all fun z => decide (1 ≤ z) && decide (z ≤ 16))
theorem mayS_iff (zs : List Int) : mayS zs = true ↔ 0 < zs.length ∧ zs.length ≤ 256 ∧ ∀ z ∈ zs, 1 ≤ z ∧ z ≤ 16 := by simp [mayS]
theorem mayS_get {zs : List Int} (h : mayS zs = true) (i : Nat) (hi : i < zs.length) : zs[i] = ((len (Ln zs) i : Nat) : Int) ∧ 1 ≤ len (Ln zs) i ∧ len (Ln zs) i ≤ 16 := by
  have h1 := ((mayS_iff zs).1 h).2.2 zs[i] (List.getElem_mem hi)
  have h2 : len (Ln zs) i = zs[i].toNat := by rw [len_get _ _ (by rw [Ln_length]; exact hi)]; simp [Ln]
  omega
theorem bad_S {zs : List Int} (i : Nat) (hi : i < zs.length) (h : zs[i] < 1 ∨ 16 < zs[i]) : mayS zs = false := by
  rw [Bool.eq_false_iff]
  intro hm
  have := ((mayS_iff zs).1 hm).2.2 zs[i] (List.getElem_mem hi)
  omega
def schk (zs : List Int) : Nat := if mayS zs = false then 2 else if tot16 (Ln zs) = 65536 then 0 else 6
end Go.Proofs.YtibkepjbblfkoaaGreatDoor
namespace Go.Proofs.YtibkepjbblfkoaaGreatDoor
set_option linter.unusedVariables false
set_option linter.unusedSimpArgs false
open Go.ChangeShapes Go.WideShapes Go.ChangeAt Go.RowKit

theorem turn_code6 (x n : Nat) (h : n ≤ 16) : turn x (n : Int) = tr n x 0 := by
  unfold turn
  rw [show (max 0 (min (n : Int) 32)).toNat = n by omega]
/-- v is the row of the words of L -/
def Cds6 (w : World) (v : Value) (L : List Nat) : Prop := Sts w v L.length 2 fun i j => if j = 0 then .int .u32 (scode L i) else .int .i64 (len L i)
theorem schk_ok {zs : List Int} (h : schk zs = 0) : mayS zs = true ∧ tot16 (Ln zs) = 65536 := by
  unfold schk at h
  cases hm : mayS zs with
  | false => rw [hm] at h; simp at h
  | true =>
    rw [hm, if_neg (by simp)] at h
    by_cases e : tot16 (Ln zs) = 65536
    · exact ⟨rfl, e⟩
    · rw [if_neg e] at h; omega
/-- lengths whose words are asked for: none where there is an error -/
def Ls (zs : List Int) : List Nat := if schk zs = 0 then Ln zs else []
theorem Cds6.nix (w : World) : Cds6 w (.slice none 0 0) [] := ⟨none, 0, rfl, by simp, by simp, fun _ => rfl, fun x hx => nomatch hx⟩
end Go.Proofs.YtibkepjbblfkoaaGreatDoor
namespace Go.Proofs.YtibkepjbblfkoaaGreatDoor
set_option linter.unusedVariables false
set_option linter.unusedSimpArgs false
open Go.ChangeShapes Go.WideShapes Go.ChangeAt Go.RowKit

theorem Cds6.at {w : World} {v : Value} {L : List Nat} (h : Cds6 w v L) (i : Nat) (hi : i < L.length) : ∃ b off cap, v = .slice (some ⟨b, off, none⟩) L.length cap ∧ w.cell? ⟨b, off + i * 2, none⟩ = some (.int .u32 (scode L i)) ∧ w.cell? ⟨b, off + i * 2 + 1, none⟩ = some (.int .i64 (len L i)) := by
  rcases Sts.cases (by decide) h with ⟨h0, _⟩ | ⟨_, b, off, cap, rfl, _, _, _, hc⟩
  · omega
  · exact ⟨b, off, cap, rfl, hc i hi 0 (by omega), hc i hi 1 (by omega)⟩
theorem Cds6.shape {w : World} {v : Value} {L : List Nat} (h : Cds6 w v L) : ∃ a cap, v = .slice a L.length cap ∧ L.length ≤ 9223372036854775807 := by
  obtain ⟨a, cap, rfl, h1, h2, _⟩ := h
  unfold maxLen at h2
  exact ⟨a, cap, rfl, by omega⟩
/-- the symbol whose word stands first -/
def spick (L : List Nat) (y : Nat) : Nat := ((List.range L.length).find? fun i => decide (y / wd16 L i = sw L i)).getD 0
/-- what reading a word bit by bit answers -/
def RS.nextS (L : List Nat) (s : RS) : Int × Nat × RS :=
  if s.E ≠ 0 then (-1, s.E, s) else
  let i := spick L (tr 16 (num s.l s.pos 16) 0)
  if len L i ≤ s.left then ((i : Int), 0, { s with pos := s.pos + len L i }) else (-1, 3, { s with pos := s.pos + s.left, err := 3 })
theorem spick_hit (L : List Nat) (y : Nat) (h16 : ∀ k, k < L.length → len L k ≤ 16) (hf : tot16 L = 65536) (hy : y < 65536) : shit L y (spick L y) := by
  obtain ⟨i, hi⟩ := shit_full L y h16 hf hy
  unfold spick
  rcases hp : (List.range L.length).find? (fun i => decide (y / wd16 L i = sw L i)) with _ | k
  · have := List.find?_eq_none.1 hp i (by simpa using hi.1)
    simp [hi.2] at this
  · have h1 := List.find?_some hp
    have h2 := List.mem_of_find?_eq_some hp
    exact ⟨by simpa using h2, by simpa using h1⟩
/-- word j of n bits stands first just where it is the one -/
theorem spick_bits (L : List Nat) (x n j : Nat) (h16 : ∀ k, k < L.length → len L k ≤ 16) (hf : tot16 L = 65536) (hj : j < L.length) (hn : len L j = n) : x % 2 ^ n = scode L j ↔ j = spick L (tr 16 x 0) := by
  subst hn
  rw [shit_bits L x j hj h16 hf]
  have hs := spick_hit L (tr 16 x 0) h16 hf (tr16_lt x)
  exact ⟨fun h => shit_unique L _ _ _ h16 hf h hs, fun h => h ▸ hs⟩
theorem nextS_err (L : List Nat) (s : RS) (h : s.E ≠ 0) : s.nextS L = (-1, s.E, s) := by unfold RS.nextS; rw [if_pos h]
theorem bits1_short (s : RS) (n : Nat) (hE : s.E = 0) (hn : n = s.left) : ({ s with pos := s.pos + n } : RS).bits 1 = (0, { s with pos := s.pos + n, err := 3 }) := by
  have e : ({ s with pos := s.pos + n } : RS).E = 0 := hE
  have e1 : s.left = 8 * s.l.length - s.pos := by unfold RS.left; rw [if_pos hE]
  have e2 : ({ s with pos := s.pos + n } : RS).left = 0 := by unfold RS.left; rw [if_pos e]; simp only; omega
  unfold RS.bits
  rw [if_neg (by omega), if_neg (by omega), if_pos (by rw [e2]; omega)]
  unfold RS.fail; rw [if_pos e]
theorem bits1_ok (s : RS) (n : Nat) (hE : s.E = 0) (hn : n < s.left) : ({ s with pos := s.pos + n } : RS).bits 1 = (num s.l (s.pos + n) 1, { s with pos := s.pos + (n + 1) }) := by
  have e : ({ s with pos := s.pos + n } : RS).E = 0 := hE
  have e1 : s.left = 8 * s.l.length - s.pos := by unfold RS.left; rw [if_pos hE]
  have e2 : ({ s with pos := s.pos + n } : RS).left = s.left - n := by unfold RS.left; rw [if_pos e, if_pos hE]; simp only; omega
  unfold RS.bits
  rw [if_neg (by omega), if_neg (by omega), if_neg (by rw [e2]; omega)]
  rfl
end Go.Proofs.YtibkepjbblfkoaaGreatDoor
namespace Go.Proofs.YtibkepjbblfkoaaGreatDoor
set_option linter.unusedVariables false
set_option linter.unusedSimpArgs false
open Go.ChangeShapes Go.WideShapes Go.ChangeAt Go.RowKit

def perr (zs : List Int) : Nat := if mayS zs then 0 else 2
def packS (zs : List Int) : List UInt8 := if mayS zs then packL (Ln zs) else []
theorem OwnB.one (w : World) (x : UInt8) : OwnB (w.alloc (.cells #[.int .u8 (x.toNat)] 5)) (.slice (some ⟨w.heap.size, 0, none⟩) 1 1) [x] := by
  refine ⟨rfl, .inr ⟨w.heap.size, 1, #[.int .u8 (x.toNat)], rfl, Nat.zero_le _, heap_alloc_new w _, Nat.le_refl _, by decide, rfl, rfl⟩⟩
theorem OwnB.drewN {w : World} {v : Value} {l : List UInt8} (h : OwnB w v l) (n : Nat) : OwnB (w.drewN n) v l := h.keep ((Keep.refl [] w).drewN _) (by simp)
theorem drop_two (L : List Nat) (i : Nat) (h : i + 1 < L.length) : L.drop i = len L i :: len L (i + 1) :: L.drop (i + 2) := by
  rw [List.drop_eq_getElem_cons (by omega), List.drop_eq_getElem_cons h, len_get L i (by omega), len_get L (i + 1) h]
theorem drop_last (L : List Nat) (i : Nat) (h : i + 1 = L.length) : L.drop i = [len L i] := by
  rw [List.drop_eq_getElem_cons (by omega), len_get L i (by omega), List.drop_of_length_le (by omega)]
theorem drop_one (L : List Nat) (i : Nat) (h : i + 1 < L.length) : L.drop (i + 1) = len L (i + 1) :: L.drop (i + 2) := by
  rw [List.drop_eq_getElem_cons h, len_get L (i + 1) h]
end Go.Proofs.YtibkepjbblfkoaaGreatDoor
namespace Go.Proofs.YtibkepjbblfkoaaGreatDoor
set_option linter.unusedVariables false
set_option linter.unusedSimpArgs false

/-- the parameters: the dictionary's size, the low bits, the least length -/
def win15 (large : Bool) : Nat := if large then 8192 else 4096
def low15 (large : Bool) : Nat := if large then 7 else 6
def least15 (trees : Bool) : Nat := if trees then 3 else 2
/-- a tree is read: what is wrong, its lengths, the reader -/
def tre (n : Int) (s : RS) : Nat × List Nat × RS :=
  if (s.unp n).2.1 ≠ 0 then ((s.unp n).2.1, [], (s.unp n).2.2) else (schk (s.unp n).1, Ls (s.unp n).1, (s.unp n).2.2)
/-- the bytes' tree, if there is one -/
def treB (trees : Bool) (s : RS) : Nat × List Nat × RS := if trees then tre 256 s else (0, [], s)
/-- the trees, one by one -/
structure T15 where
  e : Nat
  tb : List Nat
  tl : List Nat
  tf : List Nat
  s : RS
def opn15 (trees : Bool) (s : RS) : T15 :=
  if (treB trees s).1 ≠ 0 then ⟨(treB trees s).1, [], [], [], (treB trees s).2.2⟩
  else if (tre 64 (treB trees s).2.2).1 ≠ 0 then ⟨(tre 64 (treB trees s).2.2).1, [], [], [], (tre 64 (treB trees s).2.2).2.2⟩
  else ⟨(tre 64 (tre 64 (treB trees s).2.2).2.2).1, (treB trees s).2.1, (tre 64 (treB trees s).2.2).2.1, (tre 64 (tre 64 (treB trees s).2.2).2.2).2.1, (tre 64 (tre 64 (treB trees s).2.2).2.2).2.2⟩
/-- which byte is read -/
def byt15 (trees : Bool) (tb : List Nat) (s : RS) : Nat × Nat × RS :=
  if trees then ((s.nextS tb).1.toNat, (s.nextS tb).2.1, (s.nextS tb).2.2) else ((s.bits 8).1, (s.bits 8).2.E, (s.bits 8).2)
def lit15 (trees : Bool) (tb : List Nat) (s : RS) (o : HS) : Nat × HS × RS :=
  if (byt15 trees tb s).2.1 ≠ 0 then ((byt15 trees tb s).2.1, o, (byt15 trees tb s).2.2)
  else ((o.lit (UInt8.ofNat (byt15 trees tb s).1)).1, (o.lit (UInt8.ofNat (byt15 trees tb s).1)).2, (byt15 trees tb s).2.2)
/-- a length's word, and eight bits more if it is 63: the number, what is wrong, the reader -/
def len15 (tl : List Nat) (s : RS) : Nat × Nat × RS :=
  if (s.nextS tl).2.1 ≠ 0 then (0, (s.nextS tl).2.1, (s.nextS tl).2.2)
  else if (s.nextS tl).1 = 63 then (63 + ((s.nextS tl).2.2.bits 8).1, ((s.nextS tl).2.2.bits 8).2.E, ((s.nextS tl).2.2.bits 8).2)
  else ((s.nextS tl).1.toNat, 0, (s.nextS tl).2.2)
/-- distance and length of a copy: what is wrong, both, the reader -/
def two15 (low : Nat) (tl tf : List Nat) (s : RS) : Nat × Nat × Nat × RS :=
  if (s.bits low).2.E ≠ 0 then ((s.bits low).2.E, 0, 0, (s.bits low).2)
  else if ((s.bits low).2.nextS tf).2.1 ≠ 0 then (((s.bits low).2.nextS tf).2.1, 0, 0, ((s.bits low).2.nextS tf).2.2)
  else ((len15 tl ((s.bits low).2.nextS tf).2.2).2.1, ((s.bits low).2.nextS tf).1.toNat * 2 ^ low + (s.bits low).1 + 1, (len15 tl ((s.bits low).2.nextS tf).2.2).1, (len15 tl ((s.bits low).2.nextS tf).2.2).2.2)
def cop15 (low least : Nat) (tl tf : List Nat) (s : RS) (o : HS) : Nat × HS × RS :=
  if (two15 low tl tf s).1 ≠ 0 then ((two15 low tl tf s).1, o, (two15 low tl tf s).2.2.2)
  else ((o.copy (two15 low tl tf s).2.1 ((two15 low tl tf s).2.2.1 + least : Nat)).1, (o.copy (two15 low tl tf s).2.1 ((two15 low tl tf s).2.2.1 + least : Nat)).2, (two15 low tl tf s).2.2.2)
/-- a bit, then a byte or a copy -/
def step15 (trees : Bool) (low least : Nat) (t : T15) (s : RS) (o : HS) : Nat × HS × RS :=
  if (s.bits 1).2.E ≠ 0 then ((s.bits 1).2.E, o, (s.bits 1).2)
  else if (s.bits 1).1 = 1 then lit15 trees t.tb (s.bits 1).2 o
  else cop15 low least t.tl t.tf (s.bits 1).2 o
def dec15L (trees : Bool) (low least : Nat) (t : T15) : Nat → HS → RS → Nat → List UInt8 × Nat × Nat
  | 0, _, _, _ => ([], 0, 99)
  | F + 1, o, s, n =>
    if o.most ≤ o.b.length then (if 8 ≤ s.left then ([], 0, 5) else (o.b, n, 0))
    else if (step15 trees low least t s o).1 ≠ 0 then ([], 0, (step15 trees low least t s o).1)
    else dec15L trees low least t F (step15 trees low least t s o).2.1 (step15 trees low least t s o).2.2 (n + 1)
/-- what Decode answers: the text, the steps, what is wrong -/
def dec15 (b : List UInt8) (large trees : Bool) (size : Int) : List UInt8 × Nat × Nat :=
  if size < 0 then ([], 0, 2)
  else if size = 0 then (if b.length = 0 then ([], 0, 0) else ([], 0, 5))
  else if (opn15 trees ⟨b, 0, true, 0⟩).e ≠ 0 then ([], 0, (opn15 trees ⟨b, 0, true, 0⟩).e)
  else dec15L trees (low15 large) (least15 trees) (opn15 trees ⟨b, 0, true, 0⟩) (8 * b.length + 1) ⟨win15 large, size.toNat, true, []⟩ (opn15 trees ⟨b, 0, true, 0⟩).s 0
theorem fail_E (s : RS) (e : Nat) (he : e ≠ 0) : (s.fail e).E ≠ 0 := by
  unfold RS.fail
  by_cases hE : s.E = 0
  · rw [if_pos hE]
    unfold RS.E at hE ⊢
    dsimp only
    by_cases hm : s.made
    · rw [if_pos hm]; exact he
    · rw [if_neg hm]; decide
  · rw [if_neg hE]; exact hE
theorem bits_good0 (s : RS) (n : Int) (h : (s.bits n).2.E = 0) : s.E = 0 ∧ (s.bits n).2.l = s.l ∧ (s.bits n).2.pos = s.pos + n.toNat ∧ (s.pos ≤ 8 * s.l.length → s.pos + n.toNat ≤ 8 * s.l.length) := by
  unfold RS.bits at h ⊢
  by_cases h1 : n < 0 ∨ 32 < n
  · rw [if_pos h1] at h; exact absurd h (fail_E s 2 (by decide))
  rw [if_neg h1] at h ⊢
  by_cases h2 : s.E = 0
  · rw [if_neg (by simpa using h2)] at h ⊢
    have hl : s.left = 8 * s.l.length - s.pos := by unfold RS.left; rw [if_pos h2]
    by_cases h3 : (s.left : Int) < n
    · rw [if_pos h3] at h; exact absurd h (fail_E s 3 (by decide))
    · rw [if_neg h3]
      exact ⟨h2, rfl, rfl, fun hp => by omega⟩
  · rw [if_pos h2] at h
    by_cases h4 : 0 < n
    · rw [if_pos h4] at h; exact absurd h (fail_E s 3 (by decide))
    · rw [if_neg h4] at h; exact absurd h h2
/-- bits that were read -/
theorem bits_good (s : RS) (n : Int) (h : (s.bits n).2.E = 0) (hp : s.pos ≤ 8 * s.l.length) : s.E = 0 ∧ (s.bits n).2.l = s.l ∧ (s.bits n).2.pos = s.pos + n.toNat ∧ s.pos + n.toNat ≤ 8 * s.l.length := by
  obtain ⟨a, b, c, d⟩ := bits_good0 s n h
  exact ⟨a, b, c, d hp⟩
/-- a word that was read -/
theorem nextS_good (L : List Nat) (s : RS) (h : (s.nextS L).2.1 = 0) (hp : s.pos ≤ 8 * s.l.length) : ∃ i, s.E = 0 ∧ (s.nextS L).1 = ((i : Nat) : Int) ∧ i = spick L (tr 16 (num s.l s.pos 16) 0) ∧ (s.nextS L).2.2.l = s.l ∧ (s.nextS L).2.2.E = 0 ∧ (s.nextS L).2.2.pos = s.pos + len L i ∧ s.pos + len L i ≤ 8 * s.l.length := by
  unfold RS.nextS at h ⊢
  by_cases hE : s.E = 0
  · have hl : s.left = 8 * s.l.length - s.pos := by unfold RS.left; rw [if_pos hE]
    rw [if_neg (by simpa using hE)] at h ⊢
    dsimp only at h ⊢
    by_cases h1 : len L (spick L (tr 16 (num s.l s.pos 16) 0)) ≤ s.left
    · rw [if_pos h1]
      exact ⟨_, hE, rfl, rfl, rfl, hE, rfl, by omega⟩
    · rw [if_neg h1] at h; simp at h
  · rw [if_pos hE] at h; exact absurd h hE
/-- without the test for an error behind the low bits all is the same -/
theorem two15_free (low : Nat) (tl tf : List Nat) (s : RS) : two15 low tl tf s = if ((s.bits low).2.nextS tf).2.1 ≠ 0 then (((s.bits low).2.nextS tf).2.1, 0, 0, ((s.bits low).2.nextS tf).2.2)
  else ((len15 tl ((s.bits low).2.nextS tf).2.2).2.1, ((s.bits low).2.nextS tf).1.toNat * 2 ^ low + (s.bits low).1 + 1, (len15 tl ((s.bits low).2.nextS tf).2.2).1, (len15 tl ((s.bits low).2.nextS tf).2.2).2.2) := by
  unfold two15
  by_cases h : (s.bits low).2.E = 0
  · rw [if_neg (by simpa using h)]
  · rw [if_pos h, nextS_err tf _ h, if_pos h]
/-- a full tree -/
def Full15 (L : List Nat) : Prop := (∀ k, k < L.length → len L k ≤ 16) ∧ (∀ k, k < L.length → 1 ≤ len L k) ∧ tot16 L = 65536
theorem nextS_cost (L : List Nat) (s : RS) (hL : Full15 L) (h : (s.nextS L).2.1 = 0) (hp : s.pos ≤ 8 * s.l.length) : ∃ i, i < L.length ∧ (s.nextS L).1 = ((i : Nat) : Int) ∧ (s.nextS L).2.2.l = s.l ∧ (s.nextS L).2.2.E = 0 ∧ s.pos + 1 ≤ (s.nextS L).2.2.pos ∧ (s.nextS L).2.2.pos ≤ 8 * s.l.length := by
  obtain ⟨i, hE, h1, h2, h3, h4, h5, h6⟩ := nextS_good L s h hp
  have hi : i < L.length := by rw [h2]; exact (spick_hit L _ hL.1 hL.2.2 (tr16_lt _)).1
  have := hL.2.1 i hi
  exact ⟨i, hi, h1, h3, h4, by omega, by omega⟩
/-- a byte takes a bit at least, and grows what was told by a byte -/
theorem lit15_cost (trees : Bool) (tb : List Nat) (s : RS) (o : HS) (hL : trees = true → Full15 tb) (h : (lit15 trees tb s o).1 = 0) (hp : s.pos ≤ 8 * s.l.length) :
    (lit15 trees tb s o).2.1.b.length = o.b.length + 1 ∧ (lit15 trees tb s o).2.1.most = o.most ∧ (lit15 trees tb s o).2.1.b.length ≤ o.most ∧ (lit15 trees tb s o).2.2.l = s.l ∧ s.pos + 1 ≤ (lit15 trees tb s o).2.2.pos ∧ (lit15 trees tb s o).2.2.pos ≤ 8 * s.l.length := by
  have hb : (byt15 trees tb s).2.1 = 0 → (byt15 trees tb s).2.2.l = s.l ∧ s.pos + 1 ≤ (byt15 trees tb s).2.2.pos ∧ (byt15 trees tb s).2.2.pos ≤ 8 * s.l.length := by
    intro h0
    unfold byt15 at h0 ⊢
    cases trees with
    | true =>
      rw [if_pos rfl] at h0 ⊢
      obtain ⟨i, _, _, h3, _, h5, h6⟩ := nextS_cost tb s (hL rfl) h0 hp
      exact ⟨h3, h5, h6⟩
    | false =>
      rw [if_neg (by simp)] at h0 ⊢
      obtain ⟨_, h3, h4, h5⟩ := bits_good s 8 h0 hp
      have h8 : (8 : Int).toNat = 8 := rfl
      dsimp only
      rw [h8] at h4 h5
      exact ⟨h3, by omega, by omega⟩
  unfold lit15 at h ⊢
  by_cases h0 : (byt15 trees tb s).2.1 = 0
  · obtain ⟨g1, g2, g3⟩ := hb h0
    rw [if_neg (by simpa using h0)] at h ⊢
    dsimp only at h ⊢
    generalize UInt8.ofNat (byt15 trees tb s).1 = c at h ⊢
    unfold HS.lit at h ⊢
    by_cases hm : o.most ≤ o.b.length
    · rw [if_pos hm] at h; simp at h
    · rw [if_neg hm]
      dsimp only
      rw [List.length_append, List.length_singleton]
      exact ⟨rfl, rfl, by omega, g1, g2, g3⟩
  · rw [if_pos h0] at h; exact absurd h h0
theorem bits_lt15 (s : RS) (n : Nat) (hn : n ≤ 32) : (s.bits n).1 < 2 ^ n := by
  have h0 : 0 < 2 ^ n := Nat.two_pow_pos n
  unfold RS.bits
  split
  · exact h0
  · split
    · exact h0
    · split
      · exact h0
      · exact num_lt _ _ _
theorem len15_cost (tl : List Nat) (s : RS) (hL : Full15 tl) (h64 : tl.length ≤ 64) (h : (len15 tl s).2.1 = 0) (hp : s.pos ≤ 8 * s.l.length) :
    (len15 tl s).1 ≤ 318 ∧ (len15 tl s).2.2.l = s.l ∧ s.pos + 1 ≤ (len15 tl s).2.2.pos ∧ (len15 tl s).2.2.pos ≤ 8 * s.l.length := by
  unfold len15 at h ⊢
  by_cases h0 : (s.nextS tl).2.1 = 0
  · rw [if_neg (by simpa using h0)] at h ⊢
    obtain ⟨i, hi, h1, h3, h4, h5, h6⟩ := nextS_cost tl s hL h0 hp
    by_cases h63 : (s.nextS tl).1 = 63
    · rw [if_pos h63] at h ⊢
      dsimp only at h ⊢
      have hp2 : (s.nextS tl).2.2.pos ≤ 8 * (s.nextS tl).2.2.l.length := by rw [h3]; exact h6
      obtain ⟨_, g3, g4, g5⟩ := bits_good _ 8 h hp2
      have hb := bits_lt15 (s.nextS tl).2.2 8 (by decide)
      rw [h3] at g3 g5
      have h8 : (8 : Int).toNat = 8 := rfl
      rw [h8] at g4 g5
      have hb' : ((s.nextS tl).2.2.bits 8).1 < 256 := hb
      exact ⟨by omega, g3, by omega, by omega⟩
    · rw [if_neg h63]
      dsimp only
      exact ⟨by rw [h1]; omega, h3, h5, h6⟩
  · rw [if_pos h0] at h; exact absurd h h0
theorem two15_cost (low : Nat) (tl tf : List Nat) (s : RS) (hlow : low ≤ 32) (hL : Full15 tl) (h64 : tl.length ≤ 64) (hF : Full15 tf) (hf64 : tf.length ≤ 64) (h : (two15 low tl tf s).1 = 0) (hp : s.pos ≤ 8 * s.l.length) :
    1 ≤ (two15 low tl tf s).2.1 ∧ (two15 low tl tf s).2.1 ≤ 64 * 2 ^ low ∧ (two15 low tl tf s).2.2.1 ≤ 318 ∧ (two15 low tl tf s).2.2.2.l = s.l ∧ s.pos + 2 + low ≤ (two15 low tl tf s).2.2.2.pos ∧ (two15 low tl tf s).2.2.2.pos ≤ 8 * s.l.length := by
  unfold two15 at h ⊢
  by_cases h0 : (s.bits low).2.E = 0
  · rw [if_neg (by simpa using h0)] at h ⊢
    obtain ⟨_, g3, g4, g5⟩ := bits_good s low h0 hp
    have hb := bits_lt15 s low hlow
    generalize s.bits low = B at h h0 g3 g4 hb ⊢
    obtain ⟨x, s1⟩ := B
    dsimp only at h h0 g3 g4 hb ⊢
    have hp1 : s1.pos ≤ 8 * s1.l.length := by rw [g3, g4]; exact g5
    by_cases h1 : (s1.nextS tf).2.1 = 0
    · rw [if_neg (by simpa using h1)] at h ⊢
      obtain ⟨i, hi, k1, k3, k4, k5, k6⟩ := nextS_cost tf s1 hF h1 hp1
      generalize s1.nextS tf = N at h k1 k3 k5 k6 ⊢
      obtain ⟨y, e2, s2⟩ := N
      dsimp only at h k1 k3 k5 k6 ⊢
      have hp2 : s2.pos ≤ 8 * s2.l.length := by rw [k3]; exact k6
      obtain ⟨m1, m2, m3, m4⟩ := len15_cost tl s2 hL h64 h hp2
      have hy : y.toNat = i := by rw [k1]; rfl
      have hi63 : i ≤ 63 := by omega
      have hmul : i * 2 ^ low ≤ 63 * 2 ^ low := Nat.mul_le_mul_right _ hi63
      rw [hy]
      have hln : (low : Int).toNat = low := rfl
      rw [hln] at g4 g5
      rw [k3, g3] at m4 m2
      exact ⟨by omega, by omega, m1, m2, by omega, m4⟩
    · rw [if_pos h1] at h; exact absurd h h1
  · rw [if_pos h0] at h; exact absurd h h0
/-- a copy takes two bits at least, and grows what was told by its length -/
theorem cop15_cost (low least : Nat) (tl tf : List Nat) (s : RS) (o : HS) (hlow : low ≤ 32) (hL : Full15 tl) (h64 : tl.length ≤ 64) (hF : Full15 tf) (hf64 : tf.length ≤ 64) (h : (cop15 low least tl tf s o).1 = 0) (hp : s.pos ≤ 8 * s.l.length) (ho : o.b.length ≤ o.most) :
    o.b.length + least ≤ (cop15 low least tl tf s o).2.1.b.length ∧ (cop15 low least tl tf s o).2.1.b.length ≤ o.b.length + least + 318 ∧ (cop15 low least tl tf s o).2.1.most = o.most ∧ (cop15 low least tl tf s o).2.1.b.length ≤ o.most ∧ (cop15 low least tl tf s o).2.2.l = s.l ∧ s.pos + 2 ≤ (cop15 low least tl tf s o).2.2.pos ∧ (cop15 low least tl tf s o).2.2.pos ≤ 8 * s.l.length := by
  unfold cop15 at h ⊢
  by_cases h0 : (two15 low tl tf s).1 = 0
  · rw [if_neg (by simpa using h0)] at h ⊢
    obtain ⟨a1, a2, a3, a4, a5, a6⟩ := two15_cost low tl tf s hlow hL h64 hF hf64 h0 hp
    generalize two15 low tl tf s = T at h a1 a2 a3 a4 a5 a6 ⊢
    obtain ⟨e, d, n, s2⟩ := T
    dsimp only at h a1 a2 a3 a4 a5 a6 ⊢
    unfold HS.copy at h ⊢
    split at h
    · simp at h
    · split at h
      · simp at h
      · split at h
        · simp at h
        · rename_i c1 c2 c3
          rw [if_neg c1, if_neg c2, if_neg c3]
          dsimp only
          rw [cpy_len]
          exact ⟨by omega, by omega, rfl, by omega, a4, by omega, a6⟩
  · rw [if_pos h0] at h; exact absurd h h0
/-- trees that were read whole -/
def T15.ok (trees : Bool) (t : T15) : Prop := (trees = true → Full15 t.tb ∧ t.tb.length = 256) ∧ (Full15 t.tl ∧ t.tl.length = 64) ∧ Full15 t.tf ∧ t.tf.length = 64
/-- a step takes two bits at least, and grows what was told -/
theorem step15_cost (trees : Bool) (low least : Nat) (t : T15) (s : RS) (o : HS) (hlow : low ≤ 32) (hleast : 1 ≤ least) (ht : t.ok trees) (h : (step15 trees low least t s o).1 = 0) (hp : s.pos ≤ 8 * s.l.length) (ho : o.b.length ≤ o.most) :
    o.b.length + 1 ≤ (step15 trees low least t s o).2.1.b.length ∧ (step15 trees low least t s o).2.1.b.length ≤ o.b.length + least + 318 ∧ (step15 trees low least t s o).2.1.most = o.most ∧ (step15 trees low least t s o).2.1.b.length ≤ o.most ∧ (step15 trees low least t s o).2.2.l = s.l ∧ s.pos + 2 ≤ (step15 trees low least t s o).2.2.pos ∧ (step15 trees low least t s o).2.2.pos ≤ 8 * s.l.length := by
  unfold step15 at h ⊢
  by_cases h0 : (s.bits 1).2.E = 0
  · rw [if_neg (by simpa using h0)] at h ⊢
    obtain ⟨_, g3, g4, g5⟩ := bits_good s 1 h0 hp
    have h1 : (1 : Int).toNat = 1 := rfl
    rw [h1] at g4 g5
    have hp1 : (s.bits 1).2.pos ≤ 8 * (s.bits 1).2.l.length := by rw [g3, g4]; exact g5
    by_cases hb : (s.bits 1).1 = 1
    · rw [if_pos hb] at h ⊢
      obtain ⟨a1, a2, a3, a4, a5, a6⟩ := lit15_cost trees t.tb _ o (fun e => (ht.1 e).1) h hp1
      rw [g3] at a4 a6
      exact ⟨by omega, by omega, a2, a3, a4, by omega, a6⟩
    · rw [if_neg hb] at h ⊢
      obtain ⟨a1, a2, a3, a4, a5, a6, a7⟩ := cop15_cost low least t.tl t.tf _ o hlow ht.2.1.1 (by rw [ht.2.1.2]; decide) ht.2.2.1 (by rw [ht.2.2.2]; decide) h hp1 ho
      rw [g3] at a5 a7
      exact ⟨by omega, a2, a3, a4, a5, by omega, a7⟩
  · rw [if_pos h0] at h; exact absurd h h0
/-- what is told at all is as long as it shall be, in few steps -/
theorem dec15L_ok (trees : Bool) (low least : Nat) (t : T15) (hlow : low ≤ 32) (hleast : 1 ≤ least) (ht : t.ok trees) (F : Nat) (o : HS) (s : RS) (n : Nat) (hp : s.pos ≤ 8 * s.l.length) (ho : o.b.length ≤ o.most) (h2 : 2 * n ≤ s.pos) (hn : n ≤ o.b.length)
    (hd : (dec15L trees low least t F o s n).2.2 = 0) : (dec15L trees low least t F o s n).1.length = o.most ∧ (dec15L trees low least t F o s n).2.1 ≤ o.most ∧ (dec15L trees low least t F o s n).2.1 ≤ 4 * s.l.length := by
  induction F generalizing o s n with
  | zero => rw [dec15L] at hd; simp at hd
  | succ F ih =>
    rw [dec15L] at hd ⊢
    by_cases hm : o.most ≤ o.b.length
    · rw [if_pos hm] at hd ⊢
      by_cases h8 : 8 ≤ s.left
      · rw [if_pos h8] at hd; simp at hd
      · rw [if_neg h8]
        dsimp only
        exact ⟨by omega, by omega, by omega⟩
    · rw [if_neg hm] at hd ⊢
      by_cases h0 : (step15 trees low least t s o).1 = 0
      · rw [if_neg (by simpa using h0)] at hd ⊢
        obtain ⟨a1, a2, a3, a4, a5, a6, a7⟩ := step15_cost trees low least t s o hlow hleast ht h0 hp ho
        have := ih (step15 trees low least t s o).2.1 (step15 trees low least t s o).2.2 (n + 1) (by rw [a5]; exact a7) (by rw [a3]; exact a4) (by omega) (by omega) hd
        rw [a3, a5] at this
        exact this
      · rw [if_pos h0] at hd; exact absurd hd h0
theorem unpR_good (k : Nat) (s : RS) (h : (unpR k s).2.1 = 0) (hp : s.pos ≤ 8 * s.l.length) : (0 < k → s.E = 0) ∧ (unpR k s).2.2.l = s.l ∧ s.pos ≤ (unpR k s).2.2.pos ∧ (unpR k s).2.2.pos ≤ 8 * s.l.length := by
  induction k generalizing s with
  | zero => rw [unpR]; exact ⟨fun h => absurd h (by decide), rfl, Nat.le_refl _, hp⟩
  | succ k ih =>
    rw [unpR] at h ⊢
    by_cases h0 : (s.bits 8).2.E = 0
    · rw [if_neg (by simpa using h0)] at h ⊢
      obtain ⟨g1, g2, g3, g4⟩ := bits_good s 8 h0 hp
      by_cases h1 : (unpR k (s.bits 8).2).2.1 = 0
      · rw [if_neg (by simpa using h1)]
        obtain ⟨_, a2, a3, a4⟩ := ih (s.bits 8).2 h1 (by rw [g2, g3]; exact g4)
        rw [g2] at a2 a4
        exact ⟨fun _ => g1, a2, by dsimp only; omega, a4⟩
      · rw [if_pos h1] at h; exact absurd h h1
    · rw [if_pos h0] at h; exact absurd h h0
theorem unp_good (n : Int) (s : RS) (h : (s.unp n).2.1 = 0) (hp : s.pos ≤ 8 * s.l.length) : ((s.unp n).1.length : Int) = n ∧ (s.unp n).2.2.l = s.l ∧ s.pos ≤ (s.unp n).2.2.pos ∧ (s.unp n).2.2.pos ≤ 8 * s.l.length := by
  unfold RS.unp at h ⊢
  by_cases h0 : n < 1 ∨ 256 < n
  · rw [if_pos h0] at h; simp at h
  rw [if_neg h0] at h ⊢
  by_cases h1 : (unpR ((s.bits 8).1 + 1) (s.bits 8).2).2.1 = 0
  · rw [if_neg (by simpa using h1)] at h ⊢
    by_cases h2 : ((unpR ((s.bits 8).1 + 1) (s.bits 8).2).1.length : Int) = n
    · rw [if_neg (by simpa using h2)]
      have hE : (s.bits 8).2.E = 0 := by
        have := h1
        rw [unpR] at this
        by_cases e : ((s.bits 8).2.bits 8).2.E = 0
        · exact (bits_good0 _ 8 e).1
        · rw [if_pos e] at this; exact absurd this e
      obtain ⟨_, g2, g3, g4⟩ := bits_good s 8 hE hp
      obtain ⟨_, a2, a3, a4⟩ := unpR_good _ (s.bits 8).2 h1 (by rw [g2, g3]; exact g4)
      rw [g2] at a2 a4
      exact ⟨h2, a2, by dsimp only; omega, a4⟩
    · rw [if_pos h2] at h; simp at h
  · rw [if_pos h1] at h; exact absurd h h1
theorem tre_good (n : Int) (s : RS) (h : (tre n s).1 = 0) (hp : s.pos ≤ 8 * s.l.length) : Full15 (tre n s).2.1 ∧ ((tre n s).2.1.length : Int) = n ∧ (tre n s).2.2.l = s.l ∧ s.pos ≤ (tre n s).2.2.pos ∧ (tre n s).2.2.pos ≤ 8 * s.l.length := by
  unfold tre at h ⊢
  by_cases h0 : (s.unp n).2.1 = 0
  · rw [if_neg (by simpa using h0)] at h ⊢
    obtain ⟨a1, a2, a3, a4⟩ := unp_good n s h0 hp
    dsimp only at h ⊢
    obtain ⟨m1, m2⟩ := schk_ok h
    have hls : Ls (s.unp n).1 = Ln (s.unp n).1 := by unfold Ls; rw [if_pos h]
    rw [hls]
    have hlen : (Ln (s.unp n).1).length = (s.unp n).1.length := by unfold Ln; rw [List.length_map]
    refine ⟨⟨fun k hk => (mayS_get m1 k (by omega)).2.2, fun k hk => (mayS_get m1 k (by omega)).2.1, m2⟩, by omega, a2, a3, a4⟩
  · rw [if_pos h0] at h; exact absurd h h0
theorem opn15_good (trees : Bool) (s : RS) (h : (opn15 trees s).e = 0) (hp : s.pos ≤ 8 * s.l.length) : (opn15 trees s).ok trees ∧ (opn15 trees s).s.l = s.l ∧ (opn15 trees s).s.pos ≤ 8 * s.l.length := by
  have hB : (treB trees s).1 = 0 → (trees = true → Full15 (treB trees s).2.1 ∧ (treB trees s).2.1.length = 256) ∧ (treB trees s).2.2.l = s.l ∧ (treB trees s).2.2.pos ≤ 8 * s.l.length := by
    intro h0
    unfold treB at h0 ⊢
    cases trees with
    | true =>
      rw [if_pos rfl] at h0 ⊢
      obtain ⟨a, b, c, _, e⟩ := tre_good 256 s h0 hp
      exact ⟨fun _ => ⟨a, by omega⟩, c, e⟩
    | false => exact ⟨fun h => by simp at h, rfl, hp⟩
  unfold opn15 at h ⊢
  by_cases h0 : (treB trees s).1 = 0
  · obtain ⟨b1, b2, b3⟩ := hB h0
    rw [if_neg (by simpa using h0)] at h ⊢
    by_cases h1 : (tre 64 (treB trees s).2.2).1 = 0
    · rw [if_neg (by simpa using h1)] at h ⊢
      obtain ⟨c1, c2, c3, _, c5⟩ := tre_good 64 _ h1 (by rw [b2]; exact b3)
      rw [b2] at c3 c5
      generalize tre 64 (treB trees s).2.2 = X at h h1 c1 c2 c3 c5 ⊢
      obtain ⟨d1, d2, d3, _, d5⟩ := tre_good 64 X.2.2 h (by rw [c3]; exact c5)
      rw [c3] at d3 d5
      generalize tre 64 X.2.2 = Y at h d1 d2 d3 d5 ⊢
      exact ⟨⟨b1, ⟨c1, by show X.2.1.length = 64; omega⟩, d1, by show Y.2.1.length = 64; omega⟩, d3, d5⟩
    · rw [if_pos h1] at h; exact absurd h h1
  · rw [if_pos h0] at h; exact absurd h h0
/-- just size bytes, or nothing; in few steps -/
theorem dec15_ok (b : List UInt8) (large trees : Bool) (size : Int) (h : (dec15 b large trees size).2.2 = 0) : ((dec15 b large trees size).1.length : Int) = size ∧ ((dec15 b large trees size).2.1 : Int) ≤ size ∧ (dec15 b large trees size).2.1 ≤ 4 * b.length := by
  unfold dec15 at h ⊢
  by_cases h0 : size < 0
  · rw [if_pos h0] at h; simp at h
  rw [if_neg h0] at h ⊢
  by_cases h1 : size = 0
  · rw [if_pos h1] at h ⊢
    by_cases h2 : b.length = 0
    · rw [if_pos h2]; subst h1; exact ⟨rfl, Int.le_refl _, Nat.zero_le _⟩
    · rw [if_neg h2] at h; simp at h
  rw [if_neg h1] at h ⊢
  by_cases h2 : (opn15 trees ⟨b, 0, true, 0⟩).e = 0
  · rw [if_neg (by simpa using h2)] at h ⊢
    obtain ⟨t1, t2, t3⟩ := opn15_good trees ⟨b, 0, true, 0⟩ h2 (Nat.zero_le _)
    have := dec15L_ok trees (low15 large) (least15 trees) _ (by unfold low15; split <;> decide) (by unfold least15; split <;> decide) t1 (8 * b.length + 1) ⟨win15 large, size.toNat, true, []⟩ _ 0 (by rw [t2]; exact t3) (Nat.zero_le _) (Nat.zero_le _) (Nat.zero_le _) h
    rw [t2] at this
    dsimp only at this
    exact ⟨by omega, by omega, this.2.2⟩
  · rw [if_pos h2] at h; exact absurd h h2
theorem dec15_err (b : List UInt8) (large trees : Bool) (size : Int) (h : (dec15 b large trees size).2.2 ≠ 0) : (dec15 b large trees size).1 = [] ∧ (dec15 b large trees size).2.1 = 0 := by
  have hL : ∀ low least t F o s n, (dec15L trees low least t F o s n).2.2 ≠ 0 → (dec15L trees low least t F o s n).1 = [] ∧ (dec15L trees low least t F o s n).2.1 = 0 := by
    intro low least t F
    induction F with
    | zero => intro o s n _; exact ⟨rfl, rfl⟩
    | succ F ih =>
      intro o s n h
      rw [dec15L] at h ⊢
      by_cases a : o.most ≤ o.b.length
      · rw [if_pos a] at h ⊢
        by_cases c : 8 ≤ s.left
        · rw [if_pos c]; exact ⟨rfl, rfl⟩
        · rw [if_neg c] at h; simp at h
      · rw [if_neg a] at h ⊢
        by_cases c : (step15 trees low least t s o).1 = 0
        · rw [if_neg (by simpa using c)] at h ⊢; exact ih _ _ _ h
        · rw [if_pos c]; exact ⟨rfl, rfl⟩
  unfold dec15 at h ⊢
  by_cases h0 : size < 0
  · rw [if_pos h0]; exact ⟨rfl, rfl⟩
  rw [if_neg h0] at h ⊢
  by_cases h1 : size = 0
  · rw [if_pos h1] at h ⊢
    by_cases h2 : b.length = 0
    · rw [if_pos h2]; exact ⟨rfl, rfl⟩
    · rw [if_neg h2]; exact ⟨rfl, rfl⟩
  rw [if_neg h1] at h ⊢
  by_cases h2 : (opn15 trees ⟨b, 0, true, 0⟩).e = 0
  · rw [if_neg (by simpa using h2)] at h ⊢; exact hL _ _ _ _ _ _ _ h
  · rw [if_pos h2]; exact ⟨rfl, rfl⟩
end Go.Proofs.YtibkepjbblfkoaaGreatDoor
namespace Go.Proofs.YtibkepjbblfkoaaGreatDoor
set_option linter.unusedVariables false
set_option linter.unusedSimpArgs false

/-- bytes as bits -/
def b8 (l : List UInt8) : List Bool := l.flatMap (fun x => bitsOf x.toNat 8)
theorem b8_cons (x : UInt8) (l : List UInt8) : b8 (x :: l) = bitsOf x.toNat 8 ++ b8 l := by simp [b8]
theorem bitsOf_mod15 (d n : Nat) : bitsOf (d % 2 ^ n) n = bitsOf d n := by
  induction n generalizing d with
  | zero => rfl
  | succ n ih =>
    rw [bitsOf, bitsOf, Nat.pow_succ', Nat.mod_mul]
    have h1 : (d % 2 + 2 * (d / 2 % 2 ^ n)) % 2 = d % 2 := by omega
    have h2 : (d % 2 + 2 * (d / 2 % 2 ^ n)) / 2 = d / 2 % 2 ^ n := by omega
    rw [h1, h2, ih]
/-- a word that stands there is read -/
theorem nextS_at (L : List UInt8) (LL : List Nat) (i : Nat) (hi : i < LL.length) (hF : Full15 LL) (pre post : List Bool) (h : toBits L = (pre ++ bitsOf (scode LL i) (len LL i)) ++ post) :
    (⟨L, pre.length, true, 0⟩ : RS).nextS LL = ((i : Int), 0, ⟨L, (pre ++ bitsOf (scode LL i) (len LL i)).length, true, 0⟩) := by
  have hl := congrArg List.length h
  simp only [toBits_length, List.length_append, bitsOf_length] at hl
  have hE : (⟨L, pre.length, true, 0⟩ : RS).E = 0 := rfl
  have hn := num_seg L pre post (scode LL i) (len LL i) h
  rw [Nat.mod_eq_of_lt (scode_lt LL i)] at hn
  have h16 := hF.1 i hi
  have hs := (spick_bits LL (num L pre.length 16) (len LL i) i hF.1 hF.2.2 hi rfl).1 (by rw [num_mod L pre.length 16 _ h16, hn])
  unfold RS.nextS
  rw [if_neg (by simpa using hE)]
  dsimp only
  rw [← hs, if_pos (by unfold RS.left; rw [if_pos hE]; dsimp only; omega), List.length_append, bitsOf_length]
theorem unpR_at (L l : List UInt8) (pre post : List Bool) (h : toBits L = (pre ++ b8 l) ++ post) :
    unpR l.length ⟨L, pre.length, true, 0⟩ = (l.flatMap fun b => rowOf b.toNat, 0, ⟨L, (pre ++ b8 l).length, true, 0⟩) := by
  induction l generalizing pre with
  | nil => rw [b8]; simp [unpR]
  | cons x l ih =>
    rw [b8_cons] at h ⊢
    have hb := bits_at L pre (b8 l ++ post) x.toNat 8 (by rw [h]; simp [List.append_assoc]) (by decide) x.toNat_lt
    have h8 : ((8 : Nat) : Int) = 8 := rfl
    rw [h8] at hb
    have hE : (⟨L, (pre ++ bitsOf x.toNat 8).length, true, 0⟩ : RS).E = 0 := rfl
    rw [List.length_cons, unpR, hb, ih (pre ++ bitsOf x.toNat 8) (by rw [h]; simp [List.append_assoc])]
    simp only [hE, ne_eq, not_true_eq_false, if_false, List.flatMap_cons, List.append_assoc]
theorem may_map {zs : List Int} (h : mayS zs = true) : ((Ln zs).map fun (y : Nat) => (y : Int)) = zs := by
  apply List.ext_getElem
  · simp [Ln]
  · intro i h1 h2
    obtain ⟨e, _, _⟩ := mayS_get h i h2
    have h3 : i < (Ln zs).length := by simpa using h1
    rw [List.getElem_map, e]
    congr 1
    unfold len
    rw [List.getD_eq_getElem?_getD, List.getElem?_eq_getElem h3]; rfl
theorem full_of {zs : List Int} (h : schk zs = 0) : Full15 (Ln zs) ∧ (Ln zs).length = zs.length ∧ 0 < zs.length ∧ zs.length ≤ 256 := by
  obtain ⟨m1, m2⟩ := schk_ok h
  obtain ⟨a, b, _⟩ := (mayS_iff zs).1 m1
  have hlen : (Ln zs).length = zs.length := by unfold Ln; rw [List.length_map]
  exact ⟨⟨fun k hk => (mayS_get m1 k (by omega)).2.2, fun k hk => (mayS_get m1 k (by omega)).2.1, m2⟩, hlen, a, b⟩
/-- a tree that was packed is read -/
theorem tre_at (L : List UInt8) (zs : List Int) (n : Nat) (hz : schk zs = 0) (hn : zs.length = n) (pre post : List Bool) (h : toBits L = (pre ++ b8 (packL (Ln zs))) ++ post) :
    tre n ⟨L, pre.length, true, 0⟩ = (0, Ln zs, ⟨L, (pre ++ b8 (packL (Ln zs))).length, true, 0⟩) := by
  obtain ⟨m1, m2⟩ := schk_ok hz
  obtain ⟨hF, hlen, h0, h256⟩ := full_of hz
  have hp := pk_pos (Ln zs) (by intro e; rw [e] at hlen; simp at hlen; omega) 1
  have hl := pk_len (Ln zs) 1
  have hmap := may_map m1
  have hpk : packL (Ln zs) = UInt8.ofNat ((pk 1 (Ln zs)).length - 1) :: pk 1 (Ln zs) := rfl
  have hx : (UInt8.ofNat ((pk 1 (Ln zs)).length - 1)).toNat = (pk 1 (Ln zs)).length - 1 := by
    rw [UInt8.toNat_ofNat']; exact Nat.mod_eq_of_lt (by omega)
  rw [hpk, b8_cons, hx] at h ⊢
  have hb := bits_at L pre (b8 (pk 1 (Ln zs)) ++ post) ((pk 1 (Ln zs)).length - 1) 8 (by rw [h]; simp [List.append_assoc]) (by decide) (by omega)
  have h8 : ((8 : Nat) : Int) = 8 := rfl
  rw [h8] at hb
  have hr := unpR_at L (pk 1 (Ln zs)) (pre ++ bitsOf ((pk 1 (Ln zs)).length - 1) 8) post (by rw [h]; simp [List.append_assoc])
  have hrows : ((pk 1 (Ln zs)).flatMap fun b => rowOf b.toNat) = zs := by
    obtain ⟨x, M, hM⟩ : ∃ x M, Ln zs = x :: M := by
      cases e : Ln zs with
      | nil => rw [e] at hlen; simp at hlen; omega
      | cons x M => exact ⟨x, M, rfl⟩
    have hall : ∀ x ∈ Ln zs, 1 ≤ x ∧ x ≤ 16 := by
      intro x hx
      obtain ⟨i, hi, rfl⟩ := List.getElem_of_mem hx
      have e : len (Ln zs) i = (Ln zs)[i] := by unfold len; rw [List.getD_eq_getElem?_getD, List.getElem?_eq_getElem hi]; rfl
      rw [← e]
      exact ⟨hF.2.1 i hi, hF.1 i hi⟩
    rw [pk_rows (Ln zs) hall 1 (by omega) (by omega) x M hM, hmap]
    simp
  rw [hrows] at hr
  unfold tre RS.unp
  have hrr : unpR ((pk 1 (Ln zs)).length - 1 + 1) ⟨L, (pre ++ bitsOf ((pk 1 (Ln zs)).length - 1) 8).length, true, 0⟩ = (zs, 0, ⟨L, ((pre ++ bitsOf ((pk 1 (Ln zs)).length - 1) 8) ++ b8 (pk 1 (Ln zs))).length, true, 0⟩) := by
    rw [show (pk 1 (Ln zs)).length - 1 + 1 = (pk 1 (Ln zs)).length by omega]; exact hr
  rw [if_neg (show ¬ ((n : Int) < 1 ∨ 256 < (n : Int)) by omega), hb]
  dsimp only
  rw [hrr]
  dsimp only
  rw [if_neg (show ¬ ((0 : Nat) ≠ 0) by simp), if_neg (show ¬ ((zs.length : Int) ≠ (n : Int)) by omega)]
  dsimp only
  rw [if_neg (show ¬ ((0 : Nat) ≠ 0) by simp), hz]
  have hls : Ls zs = Ln zs := by unfold Ls; rw [if_pos hz]
  rw [hls, List.append_assoc]
/-- the bits ahead of the tokens -/
def hd15 (trees : Bool) (LB LL LF : List Nat) : List Bool := ((if trees then b8 (packL LB) else []) ++ b8 (packL LL)) ++ b8 (packL LF)
/-- a token's bits -/
def tkb15 (trees : Bool) (low least : Nat) (LB LL LF : List Nat) (t : Tk) : List Bool :=
  if t.len = 0 then bitsOf 1 1 ++ (if trees then bitsOf (scode LB t.lit.toNat) (len LB t.lit.toNat) else bitsOf t.lit.toNat 8)
  else (((bitsOf 0 1 ++ bitsOf (t.dist - 1).toNat low) ++ bitsOf (scode LF ((t.dist - 1).toNat / 2 ^ low)) (len LF ((t.dist - 1).toNat / 2 ^ low))) ++ bitsOf (scode LL (min (t.len - least).toNat 63)) (len LL (min (t.len - least).toNat 63)))
    ++ (if 63 ≤ (t.len - least).toNat then bitsOf ((t.len - least).toNat - 63) 8 else [])
/-- tokens that may be written -/
def tkOk15 (low least : Nat) (t : Tk) : Prop := (t.len = 0 ∧ t.dist = 0) ∨ ((least : Int) ≤ t.len ∧ t.len ≤ least + 318 ∧ 1 ≤ t.dist ∧ t.dist ≤ 64 * 2 ^ low)
def wb15 (trees : Bool) (low least : Nat) (LB LL LF : List Nat) (ts : List Tk) : List Bool := hd15 trees LB LL LF ++ ts.flatMap (tkb15 trees low least LB LL LF)
def wr15 (trees : Bool) (low least : Nat) (LB LL LF : List Nat) (ts : List Tk) : List UInt8 := ofBits (wb15 trees low least LB LL LF ts)
/-- the trees are read as they were written -/
theorem opn15_at (L : List UInt8) (trees : Bool) (zb zl zf : List Int) (hb : trees = true → schk zb = 0 ∧ zb.length = 256) (hl : schk zl = 0 ∧ zl.length = 64) (hf : schk zf = 0 ∧ zf.length = 64) (post : List Bool) (h : toBits L = hd15 trees (Ln zb) (Ln zl) (Ln zf) ++ post) :
    opn15 trees ⟨L, 0, true, 0⟩ = ⟨0, if trees then Ln zb else [], Ln zl, Ln zf, ⟨L, (hd15 trees (Ln zb) (Ln zl) (Ln zf)).length, true, 0⟩⟩ := by
  have h64 : ((64 : Nat) : Int) = 64 := rfl
  have hB : treB trees ⟨L, 0, true, 0⟩ = (0, if trees then Ln zb else [], ⟨L, (if trees then b8 (packL (Ln zb)) else []).length, true, 0⟩) := by
    unfold treB
    cases trees with
    | true =>
      rw [if_pos rfl, if_pos rfl, if_pos rfl]
      have := tre_at L zb 256 (hb rfl).1 (hb rfl).2 [] (b8 (packL (Ln zl)) ++ b8 (packL (Ln zf)) ++ post) (by rw [h, hd15, if_pos rfl]; simp [List.append_assoc])
      rw [List.nil_append] at this
      exact this
    | false => rfl
  unfold hd15 at h ⊢
  generalize (if trees then b8 (packL (Ln zb)) else []) = p at h hB ⊢
  have h2 := tre_at L zl 64 hl.1 hl.2 p (b8 (packL (Ln zf)) ++ post) (by rw [h]; simp [List.append_assoc])
  have h3 := tre_at L zf 64 hf.1 hf.2 (p ++ b8 (packL (Ln zl))) post (by rw [h])
  rw [h64] at h2 h3
  unfold opn15
  rw [hB]
  dsimp only
  rw [if_neg (show ¬ ((0 : Nat) ≠ 0) by simp), h2]
  dsimp only
  rw [if_neg (show ¬ ((0 : Nat) ≠ 0) by simp), h3]
/-- a token is read as it was written -/
theorem step15_at (L : List UInt8) (trees : Bool) (low least : Nat) (LB LL LF : List Nat) (hlow : low ≤ 7) (hB : trees = true → Full15 LB ∧ LB.length = 256) (hL : Full15 LL ∧ LL.length = 64) (hF : Full15 LF ∧ LF.length = 64) (e : Nat) (sx : RS) (t : Tk) (ht : tkOk15 low least t) (o : HS) (pre post : List Bool)
    (hls : 1 ≤ least) (h : toBits L = (pre ++ tkb15 trees low least LB LL LF t) ++ post) :
    step15 trees low least ⟨e, if trees then LB else [], LL, LF, sx⟩ ⟨L, pre.length, true, 0⟩ o = ((o.tk t).1, (o.tk t).2, ⟨L, (pre ++ tkb15 trees low least LB LL LF t).length, true, 0⟩) := by
  have h1 : ((1 : Nat) : Int) = 1 := rfl
  have h8 : ((8 : Nat) : Int) = 8 := rfl
  unfold tkb15 at h ⊢
  unfold step15 HS.tk
  by_cases h0 : t.len = 0
  · rw [if_pos h0] at h ⊢
    rw [if_pos h0]
    have hb := bits_at L pre ((if trees then bitsOf (scode LB t.lit.toNat) (len LB t.lit.toNat) else bitsOf t.lit.toNat 8) ++ post) 1 1 (by rw [h]; simp [List.append_assoc]) (by decide) (by decide)
    rw [h1] at hb
    rw [hb]
    dsimp only
    rw [if_neg (show ¬ ((⟨L, (pre ++ bitsOf 1 1).length, true, 0⟩ : RS).E ≠ 0) by simp [RS.E]), if_pos rfl, ← List.append_assoc]
    have hby : byt15 trees (if trees then LB else []) ⟨L, (pre ++ bitsOf 1 1).length, true, 0⟩ = (t.lit.toNat, 0, ⟨L, ((pre ++ bitsOf 1 1) ++ (if trees then bitsOf (scode LB t.lit.toNat) (len LB t.lit.toNat) else bitsOf t.lit.toNat 8)).length, true, 0⟩) := by
      unfold byt15
      cases trees with
      | true =>
        obtain ⟨f1, f2⟩ := hB rfl
        rw [if_pos rfl] at h ⊢
        rw [if_pos rfl, if_pos rfl]
        rw [nextS_at L LB t.lit.toNat (by have := t.lit.toNat_lt; omega) f1 (pre ++ bitsOf 1 1) post (by rw [h]; simp [List.append_assoc])]
        rfl
      | false =>
        rw [if_neg (by simp)] at h ⊢
        rw [if_neg (by simp)]
        have hb := bits_at L (pre ++ bitsOf 1 1) post t.lit.toNat 8 (by rw [h]; simp [List.append_assoc]) (by decide) t.lit.toNat_lt
        rw [h8] at hb
        rw [hb]
        rfl
    unfold lit15
    rw [hby]
    dsimp only
    rw [if_neg (show ¬ ((0 : Nat) ≠ 0) by simp), UInt8.ofNat_toNat]
  · rw [if_neg h0] at h ⊢
    rw [if_neg h0]
    obtain ⟨g1, g2, g3, g4⟩ : (least : Int) ≤ t.len ∧ t.len ≤ least + 318 ∧ 1 ≤ t.dist ∧ t.dist ≤ 64 * 2 ^ low := by
      rcases ht with ⟨a, _⟩ | b
      · exact absurd a h0
      · exact b
    obtain ⟨n, hn⟩ : ∃ n : Nat, t.len = (n : Int) + least := ⟨(t.len - least).toNat, by omega⟩
    obtain ⟨d, hd⟩ : ∃ d : Nat, t.dist = (d : Int) + 1 := ⟨(t.dist - 1).toNat, by omega⟩
    have en : (t.len - least).toNat = n := by omega
    have ed : (t.dist - 1).toNat = d := by omega
    have hn318 : n ≤ 318 := by omega
    have hd64 : d < 64 * 2 ^ low := by
      have : ((64 * 2 ^ low : Nat) : Int) = 64 * 2 ^ low := by simp
      omega
    rw [en, ed] at h ⊢
    have hdd : d / 2 ^ low < 64 := (Nat.div_lt_iff_lt_mul (Nat.two_pow_pos low)).2 hd64
    have hlb : bitsOf d low = bitsOf (d % 2 ^ low) low := (bitsOf_mod15 d low).symm
    rw [hlb] at h ⊢
    generalize hw3 : bitsOf (scode LF (d / 2 ^ low)) (len LF (d / 2 ^ low)) = W3 at h ⊢
    generalize hw4 : bitsOf (scode LL (min n 63)) (len LL (min n 63)) = W4 at h ⊢
    generalize hw5 : (if 63 ≤ n then bitsOf (n - 63) 8 else []) = W5 at h ⊢
    have hb := bits_at L pre (bitsOf (d % 2 ^ low) low ++ W3 ++ W4 ++ W5 ++ post) 0 1 (by rw [h]; simp [List.append_assoc]) (by decide) (by decide)
    have hb2 := bits_at L (pre ++ bitsOf 0 1) (W3 ++ W4 ++ W5 ++ post) (d % 2 ^ low) low (by rw [h]; simp [List.append_assoc]) (by omega) (Nat.mod_lt _ (Nat.two_pow_pos low))
    have hb3 := nextS_at L LF (d / 2 ^ low) (by omega) hF.1 ((pre ++ bitsOf 0 1) ++ bitsOf (d % 2 ^ low) low) (W4 ++ W5 ++ post) (by rw [h, hw3]; simp [List.append_assoc])
    rw [hw3] at hb3
    have hb4 := nextS_at L LL (min n 63) (by omega) hL.1 (((pre ++ bitsOf 0 1) ++ bitsOf (d % 2 ^ low) low) ++ W3) (W5 ++ post) (by rw [h, hw4]; simp [List.append_assoc])
    rw [hw4] at hb4
    rw [h1] at hb
    rw [hb]
    dsimp only
    rw [if_neg (show ¬ ((⟨L, (pre ++ bitsOf 0 1).length, true, 0⟩ : RS).E ≠ 0) by simp [RS.E]), if_neg (by decide)]
    have hlen : len15 LL ⟨L, (((pre ++ bitsOf 0 1) ++ bitsOf (d % 2 ^ low) low) ++ W3).length, true, 0⟩ = (n, 0, ⟨L, (((((pre ++ bitsOf 0 1) ++ bitsOf (d % 2 ^ low) low) ++ W3) ++ W4) ++ W5).length, true, 0⟩) := by
      unfold len15
      rw [hb4]
      dsimp only
      rw [if_neg (show ¬ ((0 : Nat) ≠ 0) by simp)]
      by_cases h63 : 63 ≤ n
      · rw [if_pos h63] at hw5
        subst hw5
        rw [if_pos (by omega)]
        have hb5 := bits_at L ((((pre ++ bitsOf 0 1) ++ bitsOf (d % 2 ^ low) low) ++ W3) ++ W4) post (n - 63) 8 (by rw [h]; simp [List.append_assoc]) (by decide) (by omega)
        rw [h8] at hb5
        rw [hb5]
        dsimp only
        have : 63 + (n - 63) = n := by omega
        rw [this]
        rfl
      · rw [if_neg h63] at hw5
        subst hw5
        rw [if_neg (by omega), List.append_nil]
        have : ((min n 63 : Nat) : Int).toNat = n := by omega
        rw [this]
    have htwo : two15 low LL LF ⟨L, (pre ++ bitsOf 0 1).length, true, 0⟩ = (0, d + 1, n, ⟨L, (((((pre ++ bitsOf 0 1) ++ bitsOf (d % 2 ^ low) low) ++ W3) ++ W4) ++ W5).length, true, 0⟩) := by
      unfold two15
      rw [hb2]
      dsimp only
      rw [if_neg (show ¬ ((⟨L, ((pre ++ bitsOf 0 1) ++ bitsOf (d % 2 ^ low) low).length, true, 0⟩ : RS).E ≠ 0) by simp [RS.E]), hb3]
      dsimp only
      rw [if_neg (show ¬ ((0 : Nat) ≠ 0) by simp), hlen]
      have : ((d / 2 ^ low : Nat) : Int).toNat * 2 ^ low + d % 2 ^ low + 1 = d + 1 := by
        rw [Int.toNat_natCast, Nat.mul_comm, Nat.div_add_mod]
      rw [this]
    unfold cop15
    rw [htwo]
    dsimp only
    rw [if_neg (show ¬ ((0 : Nat) ≠ 0) by simp), hn, hd]
    have : ((n + least : Nat) : Int) = (n : Int) + least := by simp
    have h2 : ((d + 1 : Nat) : Int) = (d : Int) + 1 := by simp
    rw [this, h2]
    simp only [List.append_assoc]
theorem tk_pos {low least : Nat} (hls : 1 ≤ least) {t : Tk} (ht : tkOk15 low least t) : 1 ≤ sz1 t := by
  unfold sz1
  rcases ht with ⟨a, _⟩ | ⟨a, _⟩
  · rw [if_pos a]; exact Nat.le_refl _
  · rw [if_neg (by omega)]; omega
/-- all tokens are read as they were written -/
theorem dec15L_at (L : List UInt8) (trees : Bool) (low least : Nat) (LB LL LF : List Nat) (hlow : low ≤ 7) (hls : 1 ≤ least) (hB : trees = true → Full15 LB ∧ LB.length = 256) (hL : Full15 LL ∧ LL.length = 64) (hF : Full15 LF ∧ LF.length = 64) (e : Nat) (sx : RS) (post : List Bool) (hpost : post.length < 8)
    (ts : List Tk) (hts : ∀ t ∈ ts, tkOk15 low least t) (F : Nat) (hFl : ts.length < F) (o : HS) (n : Nat) (ho : (tellT o ts).1 = 0) (hfull : (tellT o ts).2.b.length = o.most) (pre : List Bool) (h : toBits L = (pre ++ ts.flatMap (tkb15 trees low least LB LL LF)) ++ post) :
    dec15L trees low least ⟨e, if trees then LB else [], LL, LF, sx⟩ F o ⟨L, pre.length, true, 0⟩ n = ((tellT o ts).2.b, n + ts.length, 0) := by
  induction ts generalizing F o n pre with
  | nil =>
    obtain ⟨F, rfl⟩ : ∃ G, F = G + 1 := ⟨F - 1, by simp at hFl; omega⟩
    have hl := congrArg List.length h
    simp only [toBits_length, List.length_append, List.flatMap_nil, List.length_nil, Nat.add_zero] at hl
    rw [tellT] at hfull ⊢
    rw [dec15L, if_pos (by dsimp only at hfull; omega), if_neg (by unfold RS.left; rw [if_pos (show (⟨L, pre.length, true, 0⟩ : RS).E = 0 from rfl)]; dsimp only; omega)]
    rfl
  | cons t ts ih =>
    obtain ⟨F, rfl⟩ : ∃ G, F = G + 1 := ⟨F - 1, by simp at hFl; omega⟩
    have ht := hts t (by simp)
    have hsz := tellT_size ho
    have hp := tk_pos hls ht
    have hsum : sumT (t :: ts) = sz1 t + sumT ts := by simp [sumT]
    rw [List.flatMap_cons] at h
    have hst := step15_at L trees low least LB LL LF hlow hB hL hF e sx t ht o pre (ts.flatMap (tkb15 trees low least LB LL LF) ++ post) hls (by rw [h]; simp [List.append_assoc])
    rw [tellT] at ho hfull ⊢
    by_cases h1 : (o.tk t).1 = 0
    · rw [if_pos h1] at ho hfull ⊢
      rw [tellT, if_pos h1] at hsz
      have hm := (HS.tk_ok h1).2.2.1
      rw [dec15L, if_neg (by omega), hst]
      dsimp only
      rw [if_neg (by simpa using h1), ih (fun x hx => hts x (by simp [hx])) F (by simp at hFl; omega) (o.tk t).2 (n + 1) ho (by rw [hm]; exact hfull) (pre ++ tkb15 trees low least LB LL LF t) (by rw [h]; simp [List.append_assoc])]
      congr 2
      simp; omega
    · rw [if_neg h1] at ho; exact absurd ho h1
theorem tellT_fit {s : HS} {ts : List Tk} (h : (tellT s ts).1 = 0) (m : Nat) (hm : s.b.length + sumT ts ≤ m) : tellT { s with most := m } ts = (0, { (tellT s ts).2 with most := m }) := by
  induction ts generalizing s with
  | nil => simp [tellT]
  | cons t ts ih =>
    have hs : sumT (t :: ts) = sz1 t + sumT ts := by simp [sumT]
    rw [tellT] at h ⊢
    by_cases h1 : (s.tk t).1 = 0
    · rw [if_pos h1] at h
      have hk := (HS.tk_ok h1).1
      rw [(HS.tk_less h1 m (by omega)).1 (by omega), if_pos rfl, ih h (by omega), tellT, if_pos h1]
    · rw [if_neg h1] at h; exact absurd h h1
theorem pad8_append (bs : List Bool) : ∃ post, pad8 bs = bs ++ post ∧ post.length < 8 := by
  unfold pad8
  exact ⟨_, rfl, by simp; omega⟩
/-- tokens that may be written tell something, in a great room -/
theorem tellT_ok15 (low least : Nat) (ts : List Tk) (hts : ∀ t ∈ ts, tkOk15 low least t) (o : HS) (hn : o.nou = true) (hw : o.win = 64 * 2 ^ low) (hm : o.b.length + (least + 318) * ts.length ≤ o.most) (hls : 1 ≤ least) : (tellT o ts).1 = 0 := by
  induction ts generalizing o with
  | nil => rfl
  | cons t ts ih =>
    have ht := hts t (by simp)
    rw [List.length_cons, Nat.mul_succ] at hm
    have hp := tk_pos hls ht
    have h1 : (o.tk t).1 = 0 := by
      unfold HS.tk
      rcases ht with ⟨a, _⟩ | ⟨g1, g2, g3, g4⟩
      · rw [if_pos a]; unfold HS.lit; rw [if_neg (by omega)]
      · rw [if_neg (by omega)]
        unfold HS.copy
        have : ((64 * 2 ^ low : Nat) : Int) = 64 * 2 ^ low := by simp
        rw [if_neg (by omega), if_neg (by rw [hn, hw]; simp; omega), if_neg (by omega)]
    have hk := HS.tk_ok h1
    have hz : sz1 t ≤ least + 318 := by
      unfold sz1
      rcases ht with ⟨a, _⟩ | ⟨g1, g2, _, _⟩
      · rw [if_pos a]; omega
      · rw [if_neg (by omega)]; omega
    rw [tellT, if_pos h1]
    exact ih (fun x hx => hts x (by simp [hx])) (o.tk t).2 (by rw [hk.2.2.2]; exact hn) (by rw [hk.2.1]; exact hw) (by rw [hk.1, hk.2.2.1]; omega)
/-- TOLD AS THEY TELL: what is written of tokens is decoded as they tell -/
theorem dec15_wr (large trees : Bool) (zb zl zf : List Int) (hb : trees = true → schk zb = 0 ∧ zb.length = 256) (hl : schk zl = 0 ∧ zl.length = 64) (hf : schk zf = 0 ∧ zf.length = 64) (ts : List Tk) (hts : ∀ t ∈ ts, tkOk15 (low15 large) (least15 trees) t) (o : HS) (ho : (tellT o ts).1 = 0) (h0 : o.b = []) (hn : o.nou = true) (hw : o.win = win15 large) (hne : ts ≠ []) :
    dec15 (wr15 trees (low15 large) (least15 trees) (Ln zb) (Ln zl) (Ln zf) ts) large trees (tellT o ts).2.b.length = ((tellT o ts).2.b, ts.length, 0) := by
  have hsz := tellT_size ho
  have hls : 1 ≤ least15 trees := by unfold least15; split <;> decide
  have hlow : low15 large ≤ 7 := by unfold low15; split <;> decide
  have hpos : 1 ≤ sumT ts := by
    cases ts with
    | nil => exact absurd rfl hne
    | cons t ts => have := tk_pos hls (hts t (by simp)); simp [sumT]; omega
  rw [h0] at hsz
  simp only [List.length_nil, Nat.zero_add] at hsz
  have hfit := tellT_fit ho (sumT ts) (by rw [h0]; simp)
  obtain ⟨post, hp1, hp2⟩ := pad8_append (wb15 trees (low15 large) (least15 trees) (Ln zb) (Ln zl) (Ln zf) ts)
  have hbits : toBits (wr15 trees (low15 large) (least15 trees) (Ln zb) (Ln zl) (Ln zf) ts) = (hd15 trees (Ln zb) (Ln zl) (Ln zf) ++ ts.flatMap (tkb15 trees (low15 large) (least15 trees) (Ln zb) (Ln zl) (Ln zf))) ++ post := by
    unfold wr15; rw [toBits_ofBits, hp1]; rfl
  generalize wr15 trees (low15 large) (least15 trees) (Ln zb) (Ln zl) (Ln zf) ts = L at hbits ⊢
  have hop := opn15_at L trees zb zl zf hb hl hf (ts.flatMap (tkb15 trees (low15 large) (least15 trees) (Ln zb) (Ln zl) (Ln zf)) ++ post) (by rw [hbits]; simp [List.append_assoc])
  have hlb := congrArg List.length hbits
  have htl : ts.length ≤ (ts.flatMap (tkb15 trees (low15 large) (least15 trees) (Ln zb) (Ln zl) (Ln zf))).length := by
    generalize hg : tkb15 trees (low15 large) (least15 trees) (Ln zb) (Ln zl) (Ln zf) = g
    have h1 : ∀ t, 1 ≤ (g t).length := by
      intro t
      rw [← hg]
      unfold tkb15
      split
      · rw [List.length_append, bitsOf_length]; omega
      · simp only [List.length_append, bitsOf_length]; omega
    clear hg hop hbits hlb hfit hsz hpos hne ho hts hp1
    induction ts with
    | nil => simp
    | cons t ts ih => rw [List.flatMap_cons, List.length_append, List.length_cons]; have := h1 t; omega
  simp only [toBits_length, List.length_append] at hlb
  unfold dec15
  rw [hsz, if_neg (by omega), if_neg (by omega), hop]
  dsimp only
  rw [if_neg (show ¬ ((0 : Nat) ≠ 0) by simp), Int.toNat_natCast]
  have hB2 : trees = true → Full15 (Ln zb) ∧ (Ln zb).length = 256 := fun e => ⟨(full_of (hb e).1).1, by rw [(full_of (hb e).1).2.1]; exact (hb e).2⟩
  have heq : (⟨win15 large, sumT ts, true, []⟩ : HS) = { o with most := sumT ts } := by
    obtain ⟨a, b, c, d⟩ := o
    dsimp only at h0 hn hw ⊢
    rw [h0, hn, hw]
  have hd := dec15L_at L trees (low15 large) (least15 trees) (Ln zb) (Ln zl) (Ln zf) hlow hls hB2 ⟨(full_of hl.1).1, by rw [(full_of hl.1).2.1]; exact hl.2⟩ ⟨(full_of hf.1).1, by rw [(full_of hf.1).2.1]; exact hf.2⟩ 0 ⟨L, (hd15 trees (Ln zb) (Ln zl) (Ln zf)).length, true, 0⟩ post hp2 ts hts (8 * L.length + 1) (by omega) { o with most := sumT ts } 0 (by rw [hfit]) (by rw [hfit]; exact hsz) (hd15 trees (Ln zb) (Ln zl) (Ln zf)) hbits
  rw [heq, hd, hfit, Nat.zero_add]
end Go.Proofs.YtibkepjbblfkoaaGreatDoor
namespace Go.Proofs.YtibkepjbblfkoaaGreatDoor
set_option linter.unusedVariables false
set_option linter.unusedSimpArgs false

/-- a word of a canonical code that stands there is read -/
theorem next_at (L : List UInt8) (LL : List Nat) (i : Nat) (hi : i < LL.length) (h0 : 0 < len LL i) (hL : ∀ x ∈ LL, x ≤ 16) (hw : wt LL ≤ 65536) (pre post : List Bool) (h : toBits L = (pre ++ bitsOf (code LL i) (len LL i)) ++ post) :
    (⟨L, pre.length, true, 0⟩ : RS).next LL = ((i : Int), 0, ⟨L, (pre ++ bitsOf (code LL i) (len LL i)).length, true, 0⟩) := by
  have hl := congrArg List.length h
  simp only [toBits_length, List.length_append, bitsOf_length] at hl
  have hE : (⟨L, pre.length, true, 0⟩ : RS).E = 0 := rfl
  have h16 : len LL i ≤ 16 := by rw [len_get LL i hi]; exact hL _ (List.getElem_mem hi)
  have hn := num_seg L pre post (code LL i) (len LL i) h
  rw [Nat.mod_eq_of_lt (code_lt LL i)] at hn
  have hh := (hit_bits LL (num L pre.length 16) i 16 hi hL hw h0).1 (by rw [num_mod L pre.length 16 _ h16, hn])
  have hlf : (⟨L, pre.length, true, 0⟩ : RS).left = 8 * L.length - pre.length := by unfold RS.left; rw [if_pos hE]
  have hp := (pick_some LL (tr 16 (num L pre.length 16) 0) (min 16 (⟨L, pre.length, true, 0⟩ : RS).left) i hL).2 ⟨hh, by rw [hlf]; omega⟩
  rw [RS.next_hit LL _ hE i hp, List.length_append, bitsOf_length]
/-- the order of the third code's symbols -/
def ordD : List Nat := [16, 17, 18, 0, 8, 7, 9, 6, 10, 5, 11, 4, 12, 3, 13, 2, 14, 1, 15]
/-- the lengths of the third code, as they are read -/
def th17 (s : RS) : Nat → List Int × RS
  | 0 => (List.replicate 19 0, s)
  | k + 1 => ((th17 s k).1.set (ordD.getD k 0) (((th17 s k).2.bits 3).1 : Int), ((th17 s k).2.bits 3).2)
/-- how often what stands there comes: the number, what is wrong (7: there is none ahead), the reader -/
def often17 (y : Int) (s : RS) : Nat × RS :=
  if y = 16 then (3 + (s.bits 2).1, (s.bits 2).2) else if y = 17 then (3 + (s.bits 3).1, (s.bits 3).2) else if y = 18 then (11 + (s.bits 7).1, (s.bits 7).2) else (1, s)
def what17 (all : List Int) (y : Int) : Int := if y = 16 then all.getLastD 0 else if y = 17 ∨ y = 18 then 0 else y
/-- both lists, one behind the other -/
def ls17 (LL : List Nat) (N : Nat) : Nat → List Int → RS → List Int × Nat × RS
  | 0, _, s => ([], 99, s)
  | F + 1, all, s =>
    if N ≤ all.length then (all, 0, s)
    else if (s.next LL).2.1 ≠ 0 then ([], (s.next LL).2.1, (s.next LL).2.2)
    else if (often17 (s.next LL).1 (s.next LL).2.2).2.E ≠ 0 then ([], (often17 (s.next LL).1 (s.next LL).2.2).2.E, (often17 (s.next LL).1 (s.next LL).2.2).2)
    else if (s.next LL).1 = 16 ∧ all = [] then ([], 7, (often17 (s.next LL).1 (s.next LL).2.2).2)
    else if N - all.length < (often17 (s.next LL).1 (s.next LL).2.2).1 then ([], 4, (often17 (s.next LL).1 (s.next LL).2.2).2)
    else ls17 LL N F (all ++ List.replicate (often17 (s.next LL).1 (s.next LL).2.2).1 (what17 all (s.next LL).1)) (often17 (s.next LL).1 (s.next LL).2.2).2
/-- a weight of 1, or one word of one bit; or none -/
def whole17 (l : List Int) (none : Bool) : Bool :=
  l.all (fun z => decide (0 ≤ z) && decide (z ≤ 15)) && (if l.countP (fun z => decide (0 < z)) = 0 then none else (decide (l.countP (fun z => decide (0 < z)) = 1) && decide (l.countP (fun z => decide (z = 1)) = 1)) || decide (chk l = 1))
def right17 (lit dist : List Int) (large : Bool) : Bool :=
  decide (257 ≤ lit.length ∧ lit.length ≤ 286 ∧ 1 ≤ dist.length ∧ dist.length ≤ (if large then 32 else 30)) && (decide (0 < lit.getD 256 0) && (whole17 lit false && whole17 dist true))
/-- what Read answers: both lists, what is wrong, the reader -/
def rd17 (s : RS) (large : Bool) : List Int × List Int × Nat × RS :=
  let a := (s.bits 5).1 + 257
  let s1 := (s.bits 5).2
  let b := (s1.bits 5).1 + 1
  let s2 := (s1.bits 5).2
  let n := (s2.bits 4).1 + 4
  let s3 := (s2.bits 4).2
  if s3.E ≠ 0 then ([], [], s3.E, s3)
  else if 286 < a ∨ (30 < b ∧ large = false) then ([], [], 4, s3)
  else if (th17 s3 n).2.E ≠ 0 then ([], [], (th17 s3 n).2.E, (th17 s3 n).2)
  else if chk (th17 s3 n).1 ≠ 1 then ([], [], 6, (th17 s3 n).2)
  else if (ls17 (Ln (th17 s3 n).1) (a + b) (a + b + 1) [] (th17 s3 n).2).2.1 ≠ 0 then ([], [], (ls17 (Ln (th17 s3 n).1) (a + b) (a + b + 1) [] (th17 s3 n).2).2.1, (ls17 (Ln (th17 s3 n).1) (a + b) (a + b + 1) [] (th17 s3 n).2).2.2)
  else if right17 ((ls17 (Ln (th17 s3 n).1) (a + b) (a + b + 1) [] (th17 s3 n).2).1.take a) ((ls17 (Ln (th17 s3 n).1) (a + b) (a + b + 1) [] (th17 s3 n).2).1.drop a) large = false then ([], [], 6, (ls17 (Ln (th17 s3 n).1) (a + b) (a + b + 1) [] (th17 s3 n).2).2.2)
  else ((ls17 (Ln (th17 s3 n).1) (a + b) (a + b + 1) [] (th17 s3 n).2).1.take a, (ls17 (Ln (th17 s3 n).1) (a + b) (a + b + 1) [] (th17 s3 n).2).1.drop a, 0, (ls17 (Ln (th17 s3 n).1) (a + b) (a + b + 1) [] (th17 s3 n).2).2.2)
/-- a token of lengths: a symbol of the third code, the number behind it -/
structure Lt where
  sym : Nat
  x : Nat
/-- how many bits stand behind a symbol -/
def ltBits (y : Nat) : Nat := if y = 16 then 2 else if y = 17 then 3 else if y = 18 then 7 else 0
def Lt.often (t : Lt) : Nat := if t.sym = 16 then 3 + t.x else if t.sym = 17 then 3 + t.x else if t.sym = 18 then 11 + t.x else 1
def Lt.bits (LL : List Nat) (t : Lt) : List Bool := bitsOf (code LL t.sym) (len LL t.sym) ++ bitsOf t.x (ltBits t.sym)
/-- tokens told, one behind the other -/
def exp17 : List Int → List Lt → List Int
  | all, [] => all
  | all, t :: ts => exp17 (all ++ List.replicate t.often (what17 all (t.sym : Int))) ts
def Lt.ok (LL : List Nat) (t : Lt) : Prop := t.sym < 19 ∧ t.sym < LL.length ∧ 0 < len LL t.sym ∧ t.x < 2 ^ ltBits t.sym
theorem exp17_len (all : List Int) (ts : List Lt) : (exp17 all ts).length = all.length + (ts.map Lt.often).sum := by
  induction ts generalizing all with
  | nil => rw [exp17]; simp
  | cons t ts ih => rw [exp17, ih, List.length_append, List.length_replicate, List.map_cons, List.sum_cons]; omega
theorem often_pos (t : Lt) : 1 ≤ t.often := by unfold Lt.often; repeat' split
                                               all_goals omega
theorem often17_at (L : List UInt8) (t : Lt) (hx : t.x < 2 ^ ltBits t.sym) (pre post : List Bool) (h : toBits L = (pre ++ bitsOf t.x (ltBits t.sym)) ++ post) :
    often17 (t.sym : Int) ⟨L, pre.length, true, 0⟩ = (t.often, ⟨L, (pre ++ bitsOf t.x (ltBits t.sym)).length, true, 0⟩) := by
  have e2 : ((2 : Nat) : Int) = 2 := rfl
  have e3 : ((3 : Nat) : Int) = 3 := rfl
  have e7 : ((7 : Nat) : Int) = 7 := rfl
  unfold often17 Lt.often
  unfold ltBits at h hx ⊢
  by_cases h16 : t.sym = 16
  · rw [if_pos h16] at h hx ⊢
    rw [if_pos (by omega), if_pos h16]
    have := bits_at L pre post t.x 2 h (by decide) hx
    rw [e2] at this
    rw [this]
  · rw [if_neg h16] at h hx ⊢
    rw [if_neg (by omega), if_neg h16]
    by_cases h17 : t.sym = 17
    · rw [if_pos h17] at h hx ⊢
      rw [if_pos (by omega), if_pos h17]
      have := bits_at L pre post t.x 3 h (by decide) hx
      rw [e3] at this
      rw [this]
    · rw [if_neg h17] at h hx ⊢
      rw [if_neg (by omega), if_neg h17]
      by_cases h18 : t.sym = 18
      · rw [if_pos h18] at h hx ⊢
        rw [if_pos (by omega), if_pos h18]
        have := bits_at L pre post t.x 7 h (by decide) hx
        rw [e7] at this
        rw [this]
      · rw [if_neg h18]
        rw [if_neg (by omega), if_neg h18]
        simp [bitsOf]
/-- tokens of lengths that were written are read -/
theorem ls17_at (L : List UInt8) (LL : List Nat) (hL : ∀ x ∈ LL, x ≤ 16) (hw : wt LL ≤ 65536) (N : Nat) (ts : List Lt) (hts : ∀ t ∈ ts, t.ok LL) (F : Nat) (hF : ts.length < F) (all : List Int) (hN : (exp17 all ts).length = N)
    (h16 : all ≠ [] ∨ ∀ t, ts.head? = some t → t.sym ≠ 16) (pre post : List Bool) (h : toBits L = (pre ++ ts.flatMap (Lt.bits LL)) ++ post) :
    ls17 LL N F all ⟨L, pre.length, true, 0⟩ = (exp17 all ts, 0, ⟨L, (pre ++ ts.flatMap (Lt.bits LL)).length, true, 0⟩) := by
  induction ts generalizing F all pre with
  | nil =>
    obtain ⟨F, rfl⟩ : ∃ G, F = G + 1 := ⟨F - 1, by simp at hF; omega⟩
    rw [exp17] at hN ⊢
    rw [ls17, if_pos (by omega)]
    simp
  | cons t ts ih =>
    obtain ⟨F, rfl⟩ : ∃ G, F = G + 1 := ⟨F - 1, by simp at hF; omega⟩
    obtain ⟨o1, o2, o3, o4⟩ := hts t (by simp)
    have hlen := exp17_len all (t :: ts)
    rw [hN, List.map_cons, List.sum_cons] at hlen
    have hp := often_pos t
    have hbt : Lt.bits LL t = bitsOf (code LL t.sym) (len LL t.sym) ++ bitsOf t.x (ltBits t.sym) := rfl
    rw [List.flatMap_cons, hbt] at h ⊢
    have hn := next_at L LL t.sym o2 o3 hL hw pre (bitsOf t.x (ltBits t.sym) ++ (ts.flatMap (Lt.bits LL) ++ post)) (by rw [h]; simp [List.append_assoc])
    have ho := often17_at L t o4 (pre ++ bitsOf (code LL t.sym) (len LL t.sym)) (ts.flatMap (Lt.bits LL) ++ post) (by rw [h]; simp [List.append_assoc])
    have hih := ih (fun x hx => hts x (by simp [hx])) F (by simp at hF; omega) (all ++ List.replicate t.often (what17 all (t.sym : Int))) (by rw [exp17] at hN; exact hN)
      (.inl (by intro e; have := congrArg List.length e; simp at this; omega)) ((pre ++ bitsOf (code LL t.sym) (len LL t.sym)) ++ bitsOf t.x (ltBits t.sym)) (by rw [h]; simp [List.append_assoc])
    rw [ls17, if_neg (by omega), hn]
    dsimp only
    rw [if_neg (show ¬ ((0 : Nat) ≠ 0) by simp), ho]
    dsimp only
    rw [if_neg (by simp [RS.E]), if_neg (by
      intro ⟨e1, e2⟩
      rcases h16 with h | h
      · exact h e2
      · exact h t rfl (by omega)), if_neg (by omega), hih, exp17]
    simp only [List.append_assoc]
theorem ls17_len (LL : List Nat) (N F : Nat) (all : List Int) (s : RS) (ha : all.length ≤ N) (h : (ls17 LL N F all s).2.1 = 0) : (ls17 LL N F all s).1.length = N := by
  induction F generalizing all s with
  | zero => rw [ls17] at h; simp at h
  | succ F ih =>
    rw [ls17] at h ⊢
    split at h
    · rename_i h1; rw [if_pos h1]; dsimp only; omega
    · rename_i h1
      rw [if_neg h1]
      split at h
      · rename_i h2; exact absurd h h2
      · rename_i h2
        rw [if_neg h2]
        split at h
        · rename_i h3; exact absurd h h3
        · rename_i h3
          rw [if_neg h3]
          split at h
          · simp at h
          · rename_i h4
            rw [if_neg h4]
            split at h
            · simp at h
            · rename_i h5
              rw [if_neg h5]
              exact ih _ _ (by rw [List.length_append, List.length_replicate]; omega) h
/-- the cases of Read -/
theorem rd17_cases (s : RS) (large : Bool) (x1 : Nat) (s1 : RS) (x2 : Nat) (s2 : RS) (x3 : Nat) (s3 : RS) (T : List Int) (s4 : RS) (al : List Int) (er : Nat) (s5 : RS) (h1 : s.bits 5 = (x1, s1)) (h2 : s1.bits 5 = (x2, s2)) (h3 : s2.bits 4 = (x3, s3)) (h4 : th17 s3 (x3 + 4) = (T, s4))
    (h5 : ls17 (Ln T) (x1 + 257 + (x2 + 1)) (x1 + 257 + (x2 + 1) + 1) [] s4 = (al, er, s5)) :
    (s3.E ≠ 0 → rd17 s large = ([], [], s3.E, s3)) ∧ (s3.E = 0 → 286 < x1 + 257 ∨ (30 < x2 + 1 ∧ large = false) → rd17 s large = ([], [], 4, s3)) ∧
    (s3.E = 0 → ¬ (286 < x1 + 257 ∨ (30 < x2 + 1 ∧ large = false)) → (s4.E ≠ 0 → rd17 s large = ([], [], s4.E, s4)) ∧ (s4.E = 0 → (chk T ≠ 1 → rd17 s large = ([], [], 6, s4)) ∧ (chk T = 1 →
      (er ≠ 0 → rd17 s large = ([], [], er, s5)) ∧ (er = 0 → rd17 s large = if right17 (al.take (x1 + 257)) (al.drop (x1 + 257)) large = false then ([], [], 6, s5) else (al.take (x1 + 257), al.drop (x1 + 257), 0, s5))))) := by
  unfold rd17
  rw [h1]; dsimp only; rw [h2]; dsimp only; rw [h3]; dsimp only; rw [h4]; dsimp only; rw [h5]; dsimp only
  refine ⟨fun h => by rw [if_pos h], fun h g => by rw [if_neg (by simpa using h), if_pos g], fun h g => ?_⟩
  rw [if_neg (by simpa using h), if_neg g]
  refine ⟨fun a => by rw [if_pos a], fun a => ⟨fun b => by rw [if_neg (by simpa using a), if_pos b], fun b => ⟨fun c => by rw [if_neg (by simpa using a), if_neg (by simpa using b), if_pos c], fun c => by rw [if_neg (by simpa using a), if_neg (by simpa using b), if_neg (by simpa using c)]⟩⟩⟩
end Go.Proofs.YtibkepjbblfkoaaGreatDoor
namespace Go.Proofs.YtibkepjbblfkoaaGreatDoor
set_option linter.unusedVariables false
set_option linter.unusedSimpArgs false

/-- the third code's lengths, as far as they stand there -/
def hd3 (T : List Int) (n : Nat) : List Bool := (List.range n).flatMap fun i => bitsOf (T.getD (ordD.getD i 0) 0).toNat 3
def set3 (T : List Int) : Nat → List Int
  | 0 => List.replicate 19 0
  | k + 1 => (set3 T k).set (ordD.getD k 0) (T.getD (ordD.getD k 0) 0)
theorem set3_len (T : List Int) (k : Nat) : (set3 T k).length = 19 := by
  induction k with
  | zero => simp [set3]
  | succ k ih => rw [set3, List.length_set, ih]
theorem ordD_lt (k : Nat) : ordD.getD k 0 < 19 := by
  by_cases h : k < 19
  · have : ∀ i : Fin 19, ordD.getD i.val 0 < 19 := by decide
    exact this ⟨k, h⟩
  · rw [List.getD_eq_getElem?_getD, List.getElem?_eq_none (by simp [ordD]; omega)]; decide
theorem ordD_has (j : Nat) (h : j < 19) : ∃ i, i < 19 ∧ ordD.getD i 0 = j := by
  have : ∀ j : Fin 19, ∃ i : Fin 19, ordD.getD i.val 0 = j.val := by decide
  obtain ⟨i, hi⟩ := this ⟨j, h⟩
  exact ⟨i.val, i.isLt, hi⟩
theorem set3_at (T : List Int) (k j : Nat) (hj : j < 19) : (set3 T k).getD j 0 = if ∃ i, i < k ∧ ordD.getD i 0 = j then T.getD j 0 else 0 := by
  induction k with
  | zero =>
    rw [if_neg (by simp), set3, List.getD_eq_getElem?_getD, List.getElem?_replicate]
    split <;> rfl
  | succ k ih =>
    rw [set3, List.getD_eq_getElem?_getD, List.getElem?_set]
    by_cases h : ordD.getD k 0 = j
    · rw [if_pos h, if_pos (by rw [set3_len]; exact ordD_lt k), if_pos ⟨k, by omega, h⟩, h]; rfl
    · rw [if_neg h, ← List.getD_eq_getElem?_getD, ih]
      by_cases h2 : ∃ i, i < k ∧ ordD.getD i 0 = j
      · obtain ⟨i, h3, h4⟩ := h2
        rw [if_pos ⟨i, h3, h4⟩, if_pos ⟨i, by omega, h4⟩]
      · rw [if_neg h2, if_neg (fun ⟨i, h3, h4⟩ => by
          rcases Nat.lt_or_ge i k with h5 | h5
          · exact h2 ⟨i, h5, h4⟩
          · exact h (by rw [show k = i by omega]; exact h4))]
theorem set3_all (T : List Int) (n : Nat) (hT : T.length = 19) (h0 : ∀ i, n ≤ i → i < 19 → T.getD (ordD.getD i 0) 0 = 0) : set3 T n = T := by
  refine List.ext_getElem (by rw [set3_len, hT]) (fun j h1 h2 => ?_)
  have hj : j < 19 := by rw [set3_len] at h1; exact h1
  have e1 : (set3 T n)[j] = (set3 T n).getD j 0 := by rw [List.getD_eq_getElem?_getD, List.getElem?_eq_getElem h1]; rfl
  have e2 : T[j] = T.getD j 0 := by rw [List.getD_eq_getElem?_getD, List.getElem?_eq_getElem h2]; rfl
  rw [e1, e2, set3_at T n j hj]
  by_cases h : ∃ i, i < n ∧ ordD.getD i 0 = j
  · rw [if_pos h]
  · rw [if_neg h]
    obtain ⟨i, h3, h4⟩ := ordD_has j hj
    have := h0 i (by
      rcases Nat.lt_or_ge i n with h5 | h5
      · exact absurd ⟨i, h5, h4⟩ h
      · exact h5) h3
    rw [h4] at this
    exact this.symm
theorem th17_at (L : List UInt8) (T : List Int) (h7 : ∀ j, 0 ≤ T.getD j 0 ∧ T.getD j 0 ≤ 7) (pre post : List Bool) (n : Nat) (h : toBits L = (pre ++ hd3 T n) ++ post) (k : Nat) (hk : k ≤ n) :
    th17 ⟨L, pre.length, true, 0⟩ k = (set3 T k, ⟨L, (pre ++ hd3 T k).length, true, 0⟩) := by
  induction k with
  | zero => rw [th17, set3]; simp [hd3]
  | succ k ih =>
    have hs : hd3 T (k + 1) = hd3 T k ++ bitsOf (T.getD (ordD.getD k 0) 0).toNat 3 := by
      unfold hd3; rw [List.range_succ, List.flatMap_append]; simp
    obtain ⟨rest, hrest⟩ : ∃ rest, hd3 T n = hd3 T (k + 1) ++ rest := by
      obtain ⟨m, rfl⟩ : ∃ m, n = (k + 1) + m := ⟨n - (k + 1), by omega⟩
      unfold hd3
      rw [List.range_add, List.flatMap_append]
      exact ⟨_, rfl⟩
    have e3 : ((3 : Nat) : Int) = 3 := rfl
    have hv := h7 (ordD.getD k 0)
    have hb := bits_at L (pre ++ hd3 T k) (rest ++ post) (T.getD (ordD.getD k 0) 0).toNat 3 (by rw [h, hrest, hs]; simp [List.append_assoc]) (by decide) (by omega)
    rw [e3] at hb
    rw [th17, ih (by omega)]
    dsimp only
    rw [hb, set3, hs]
    dsimp only
    rw [Int.toNat_of_nonneg hv.1, List.append_assoc]
theorem hd3_length (T : List Int) (n : Nat) : (hd3 T n).length = 3 * n := by
  induction n with
  | zero => rfl
  | succ n ih =>
    have hs : hd3 T (n + 1) = hd3 T n ++ bitsOf (T.getD (ordD.getD n 0) 0).toNat 3 := by
      unfold hd3; rw [List.range_succ, List.flatMap_append]; simp
    rw [hs, List.length_append, ih, bitsOf_length]; omega
/-- what is written of two lists -/
def wb17 (a b n : Nat) (T : List Int) (ts : List Lt) : List Bool := (((bitsOf (a - 257) 5 ++ bitsOf (b - 1) 5) ++ bitsOf (n - 4) 4) ++ hd3 T n) ++ ts.flatMap (Lt.bits (Ln T))
/-- a third code that may be written: nineteen lengths up to seven, of a weight of 1 -/
structure Third (T : List Int) (n : Nat) : Prop where
  len : T.length = 19
  le : ∀ j, 0 ≤ T.getD j 0 ∧ T.getD j 0 ≤ 7
  chk : chk T = 1
  n4 : 4 ≤ n
  n19 : n ≤ 19
  zero : ∀ i, n ≤ i → i < 19 → T.getD (ordD.getD i 0) 0 = 0
theorem chk_one {T : List Int} (h : chk T = 1) : mayB T = true ∧ wt (Ln T) = 65536 := by
  unfold chk at h
  by_cases h1 : mayB T = false
  · rw [if_pos h1] at h; simp at h
  rw [if_neg h1] at h
  by_cases h2 : wt (Ln T) = 0
  · rw [if_pos h2] at h; simp at h
  rw [if_neg h2] at h
  by_cases h3 : 65536 < wt (Ln T)
  · rw [if_pos h3] at h; simp at h
  rw [if_neg h3] at h
  by_cases h4 : wt (Ln T) < 65536
  · rw [if_pos h4] at h; simp at h
  · exact ⟨by simpa using h1, by omega⟩
theorem lt_sum (ts : List Lt) : ts.length ≤ (ts.map Lt.often).sum := by
  induction ts with
  | nil => simp
  | cons t ts ih => have := often_pos t; simp only [List.length_cons, List.map_cons, List.sum_cons]; omega
/-- READ AS THEY WERE: lists that were written by any third code, in any tokens -/
theorem rd17_at (L : List UInt8) (large : Bool) (a b n : Nat) (T : List Int) (ts : List Lt) (lit dist : List Int) (hT : Third T n) (ha : 257 ≤ a ∧ a ≤ 288) (hb : 1 ≤ b ∧ b ≤ 32) (hts : ∀ t ∈ ts, t.ok (Ln T)) (hh : ∀ t, ts.head? = some t → t.sym ≠ 16)
    (hexp : exp17 [] ts = lit ++ dist) (hla : lit.length = a) (hlb : dist.length = b) (pre post : List Bool) (h : toBits L = (pre ++ wb17 a b n T ts) ++ post) :
    rd17 ⟨L, pre.length, true, 0⟩ large = if 286 < a ∨ (30 < b ∧ large = false) then ([], [], 4, ⟨L, (pre ++ ((bitsOf (a - 257) 5 ++ bitsOf (b - 1) 5) ++ bitsOf (n - 4) 4)).length, true, 0⟩)
      else if right17 lit dist large = false then ([], [], 6, ⟨L, (pre ++ wb17 a b n T ts).length, true, 0⟩) else (lit, dist, 0, ⟨L, (pre ++ wb17 a b n T ts).length, true, 0⟩) := by
  have e5 : ((5 : Nat) : Int) = 5 := rfl
  have e4 : ((4 : Nat) : Int) = 4 := rfl
  obtain ⟨t1, t2, t3, t4, t5, t6⟩ := hT
  obtain ⟨m1, m2⟩ := chk_one t3
  have hL16 : ∀ x ∈ Ln T, x ≤ 16 := may_Ln m1
  unfold wb17 at h ⊢
  have b1 := bits_at L pre ((bitsOf (b - 1) 5 ++ bitsOf (n - 4) 4 ++ hd3 T n ++ ts.flatMap (Lt.bits (Ln T))) ++ post) (a - 257) 5 (by rw [h]; simp [List.append_assoc]) (by decide) (by omega)
  have b2 := bits_at L (pre ++ bitsOf (a - 257) 5) ((bitsOf (n - 4) 4 ++ hd3 T n ++ ts.flatMap (Lt.bits (Ln T))) ++ post) (b - 1) 5 (by rw [h]; simp [List.append_assoc]) (by decide) (by omega)
  have b3 := bits_at L ((pre ++ bitsOf (a - 257) 5) ++ bitsOf (b - 1) 5) ((hd3 T n ++ ts.flatMap (Lt.bits (Ln T))) ++ post) (n - 4) 4 (by rw [h]; simp [List.append_assoc]) (by decide) (by omega)
  rw [e5] at b1 b2
  rw [e4] at b3
  have b4 := th17_at L T t2 (((pre ++ bitsOf (a - 257) 5) ++ bitsOf (b - 1) 5) ++ bitsOf (n - 4) 4) (ts.flatMap (Lt.bits (Ln T)) ++ post) n (by rw [h]; simp [List.append_assoc]) n (Nat.le_refl _)
  rw [set3_all T n t1 t6] at b4
  have hlen := exp17_len [] ts
  rw [hexp, List.length_append, hla, hlb] at hlen
  have hsum := lt_sum ts
  have b5 := ls17_at L (Ln T) hL16 (by omega) (a + b) ts hts (a + b + 1) (by simp at hlen; omega) [] (by rw [hexp, List.length_append]; omega) (.inr hh) ((((pre ++ bitsOf (a - 257) 5) ++ bitsOf (b - 1) 5) ++ bitsOf (n - 4) 4) ++ hd3 T n) post (by rw [h]; simp [List.append_assoc])
  have ea : a - 257 + 257 = a := by omega
  have eb : b - 1 + 1 = b := by omega
  have en : n - 4 + 4 = n := by omega
  unfold rd17
  rw [b1]
  dsimp only
  rw [b2]
  dsimp only
  rw [b3]
  dsimp only
  rw [ea, eb, en, if_neg (by simp [RS.E])]
  by_cases hf : 286 < a ∨ (30 < b ∧ large = false)
  · rw [if_pos hf, if_pos hf]; simp only [List.append_assoc]
  · rw [if_neg hf, if_neg hf, b4]
    dsimp only
    rw [if_neg (by simp [RS.E]), if_neg (by rw [t3]; simp), b5]
    dsimp only
    rw [if_neg (by simp), hexp, ← hla, List.take_left, List.drop_left]
    simp only [List.append_assoc]
end Go.Proofs.YtibkepjbblfkoaaGreatDoor
namespace Go.Proofs.YtibkepjbblfkoaaGreatDoor
set_option linter.unusedVariables false
set_option linter.unusedSimpArgs false

/-- the third code of plain words: sixteen of four bits -/
def plT : List Int := List.replicate 16 4 ++ [0, 0, 0]
theorem plT_third : Third plT 19 where
  len := by decide
  le := fun j => by
    by_cases h : j < 19
    · have : ∀ j : Fin 19, 0 ≤ plT.getD j.val 0 ∧ plT.getD j.val 0 ≤ 7 := by decide
      exact this ⟨j, h⟩
    · rw [List.getD_eq_getElem?_getD, List.getElem?_eq_none (by simp [plT]; omega)]; decide
  chk := by decide +kernel
  n4 := by decide
  n19 := by decide
  zero := fun i h1 h2 => by omega
theorem plT_len (x : Nat) (h : x < 16) : len (Ln plT) x = 4 := by
  have : ∀ x : Fin 16, len (Ln plT) x.val = 4 := by decide
  exact this ⟨x, h⟩
/-- lengths as tokens, each alone -/
def plTs (l : List Int) : List Lt := l.map fun z => ⟨z.toNat, 0⟩
theorem plTs_exp (all l : List Int) (h : ∀ z ∈ l, 0 ≤ z ∧ z ≤ 15) : exp17 all (plTs l) = all ++ l := by
  induction l generalizing all with
  | nil => simp [plTs, exp17]
  | cons z l ih =>
    have hz := h z (by simp)
    have ho : (⟨z.toNat, 0⟩ : Lt).often = 1 := by unfold Lt.often; dsimp only; rw [if_neg (by omega), if_neg (by omega), if_neg (by omega)]
    have hw : what17 all (((⟨z.toNat, 0⟩ : Lt).sym : Nat) : Int) = z := by unfold what17; dsimp only; rw [if_neg (by omega), if_neg (by omega)]; omega
    show exp17 (all ++ List.replicate (⟨z.toNat, 0⟩ : Lt).often (what17 all (((⟨z.toNat, 0⟩ : Lt).sym : Nat) : Int))) (plTs l) = _
    rw [ho, hw, ih _ (fun x hx => h x (by simp [hx]))]
    simp
theorem plTs_ok (l : List Int) (h : ∀ z ∈ l, 0 ≤ z ∧ z ≤ 15) : ∀ t ∈ plTs l, t.ok (Ln plT) := by
  intro t ht
  obtain ⟨z, hz, rfl⟩ := List.mem_map.1 ht
  have := h z hz
  have hl : (Ln plT).length = 19 := by decide
  refine ⟨by dsimp only; omega, by dsimp only; omega, by dsimp only; rw [plT_len _ (by omega)]; decide, ?_⟩
  dsimp only
  exact Nat.two_pow_pos _
theorem plTs_head (l : List Int) (h : ∀ z ∈ l, 0 ≤ z ∧ z ≤ 15) : ∀ t, (plTs l).head? = some t → t.sym ≠ 16 := by
  intro t ht
  have := plTs_ok l h t (List.mem_of_mem_head? (by rw [ht]; rfl))
  cases l with
  | nil => simp [plTs] at ht
  | cons z l =>
    have hz := h z (by simp)
    simp [plTs] at ht
    subst ht
    dsimp only
    omega
theorem plTs_bits (l : List Int) (h : ∀ z ∈ l, 0 ≤ z ∧ z ≤ 15) : (plTs l).flatMap (Lt.bits (Ln plT)) = l.flatMap fun z => bitsOf (code (Ln plT) z.toNat) 4 := by
  induction l with
  | nil => rfl
  | cons z l ih =>
    have hz := h z (by simp)
    show (Lt.bits (Ln plT) ⟨z.toNat, 0⟩) ++ (plTs l).flatMap (Lt.bits (Ln plT)) = _
    rw [ih (fun x hx => h x (by simp [hx])), List.flatMap_cons]
    congr 1
    unfold Lt.bits ltBits
    dsimp only
    rw [plT_len _ (by omega), if_neg (by omega), if_neg (by omega), if_neg (by omega)]
    simp [bitsOf]
/-- noughts at the end left out, as far as the list may be shorter -/
def trimN (l : List Int) (least : Nat) : Nat → Nat
  | 0 => 0
  | n + 1 => if least < n + 1 ∧ l.getD n 0 = 0 then trimN l least n else n + 1
def trim17 (l : List Int) (least : Nat) : List Int := l.take (trimN l least l.length)
theorem trimN_le (l : List Int) (least n : Nat) : trimN l least n ≤ n := by
  induction n with
  | zero => exact Nat.le_refl _
  | succ n ih => rw [trimN]; split <;> omega
theorem trimN_ge (l : List Int) (least n : Nat) (h : least ≤ n) : least ≤ trimN l least n := by
  induction n with
  | zero => rw [trimN]; exact h
  | succ n ih => rw [trimN]; split
                 · exact ih (by omega)
                 · exact h
theorem trimN_zero (l : List Int) (least n : Nat) (j : Nat) (h1 : trimN l least n ≤ j) (h2 : j < n) : l.getD j 0 = 0 := by
  induction n with
  | zero => omega
  | succ n ih =>
    rw [trimN] at h1
    by_cases h : least < n + 1 ∧ l.getD n 0 = 0
    · rw [if_pos h] at h1
      by_cases e : j = n
      · rw [e]; exact h.2
      · exact ih h1 (by omega)
    · rw [if_neg h] at h1; omega
theorem trim_split (l : List Int) (least : Nat) : ∃ m, l = trim17 l least ++ List.replicate m 0 := by
  refine ⟨l.length - trimN l least l.length, ?_⟩
  have h := trimN_le l least l.length
  show l = l.take (trimN l least l.length) ++ List.replicate (l.length - trimN l least l.length) 0
  refine List.ext_getElem (by simp; omega) (fun i h1 h2 => ?_)
  rw [List.getElem_append]
  split
  · rw [List.getElem_take]
  · rename_i h3
    have h4 : trimN l least l.length ≤ i := by simp at h3; omega
    have := trimN_zero l least l.length i h4 h1
    rw [List.getD_eq_getElem?_getD, List.getElem?_eq_getElem h1] at this
    rw [List.getElem_replicate]
    exact this
theorem trim_len (l : List Int) (least : Nat) (h : least ≤ l.length) : least ≤ (trim17 l least).length ∧ (trim17 l least).length ≤ l.length := by
  have h1 := trimN_le l least l.length
  have h2 := trimN_ge l least l.length h
  unfold trim17
  rw [List.length_take]
  omega
theorem wt_zeros (L : List Nat) (m : Nat) : wt (L ++ List.replicate m 0) = wt L := by
  unfold wt
  rw [List.map_append, List.sum_append]
  have : ((List.replicate m 0).map wt1).sum = 0 := by
    induction m with
    | zero => rfl
    | succ m ih => rw [List.replicate_succ, List.map_cons, List.sum_cons, ih]; rfl
  omega
theorem whole17_zeros (l : List Int) (none : Bool) (m : Nat) (hl : l.length + m ≤ 4096) : whole17 (l ++ List.replicate m 0) none = whole17 l none := by
  have h1 : (l ++ List.replicate m 0).all (fun z => decide (0 ≤ z) && decide (z ≤ 15)) = l.all (fun z => decide (0 ≤ z) && decide (z ≤ 15)) := by
    rw [List.all_append]; simp
  have h2 : (l ++ List.replicate m 0).countP (fun z : Int => decide (0 < z)) = l.countP (fun z => decide (0 < z)) := by
    rw [List.countP_append, List.countP_replicate]; simp
  have h3 : (l ++ List.replicate m 0).countP (fun z : Int => decide (z = 1)) = l.countP (fun z => decide (z = 1)) := by
    rw [List.countP_append, List.countP_replicate]; simp
  have h4 : chk (l ++ List.replicate m 0) = chk l := by
    have e1 : mayB (l ++ List.replicate m 0) = mayB l := by
      unfold mayB
      rw [List.all_append, List.length_append, List.length_replicate]
      have : decide (l.length + m ≤ 4096) = true := by simpa using hl
      have h' : decide (l.length ≤ 4096) = true := by simp; omega
      rw [this, h']; simp
    have e2 : wt (Ln (l ++ List.replicate m 0)) = wt (Ln l) := by
      unfold Ln
      rw [List.map_append, List.map_replicate]
      exact wt_zeros _ m
    unfold chk
    rw [e1, e2]
  unfold whole17
  rw [h1, h2, h3, h4]
/-- lists that are right stay right without their noughts -/
theorem right17_trim (lit dist : List Int) (large : Bool) (h : right17 lit dist large = true) : right17 (trim17 lit 257) (trim17 dist 1) large = true := by
  unfold right17 at h ⊢
  simp only [Bool.and_eq_true, decide_eq_true_eq] at h ⊢
  obtain ⟨⟨a1, a2, a3, a4⟩, a5, a6, a7⟩ := h
  have l1 := trim_len lit 257 a1
  have l2 := trim_len dist 1 a3
  obtain ⟨m, hm⟩ := trim_split lit 257
  obtain ⟨k, hk⟩ := trim_split dist 1
  have hd : dist.length ≤ 32 := by split at a4 <;> omega
  have e1 := congrArg List.length hm
  have e2 := congrArg List.length hk
  rw [List.length_append, List.length_replicate] at e1 e2
  refine ⟨⟨l1.1, by omega, l2.1, by omega⟩, ?_, ?_, ?_⟩
  · have : (trim17 lit 257).getD 256 0 = lit.getD 256 0 := by
      unfold trim17
      rw [List.getD_eq_getElem?_getD, List.getD_eq_getElem?_getD, List.getElem?_take_of_lt (by have := trimN_ge lit 257 lit.length a1; omega)]
    rw [this]; exact a5
  · rw [← whole17_zeros _ false m (by omega), ← hm]; exact a6
  · rw [← whole17_zeros _ true k (by omega), ← hk]; exact a7
/-- a length within 0 and 15 -/
def clz (z : Int) : Int := max 0 (min z 15)
theorem clz_in (l : List Int) : ∀ z ∈ l.map clz, 0 ≤ z ∧ z ≤ 15 := by
  intro z hz
  obtain ⟨y, _, rfl⟩ := List.mem_map.1 hz
  unfold clz; omega
theorem map_clz {l : List Int} (h : ∀ z ∈ l, 0 ≤ z ∧ z ≤ 15) : l.map clz = l := by
  conv => rhs; rw [← List.map_id l]
  apply List.map_congr_left
  intro z hz
  have := h z hz
  unfold clz; simp; omega
end Go.Proofs.YtibkepjbblfkoaaGreatDoor
namespace Go.Proofs.YtibkepjbblfkoaaGreatDoor
set_option linter.unusedVariables false
set_option linter.unusedSimpArgs false
set_option maxRecDepth 100000
open Go.ChangeShapes Go.WideShapes Go.ChangeAt Go.RowKit

def wd17 (l : List Int) : Nat := l.countP (fun z => decide (0 < z))
def on17 (l : List Int) : Nat := l.countP (fun z => decide (z = 1))
theorem wd17_le (l : List Int) : wd17 l ≤ l.length := List.countP_le_length
theorem on17_le (l : List Int) : on17 l ≤ l.length := List.countP_le_length
theorem wd17_take (l : List Int) (k : Nat) (h : k < l.length) : wd17 (l.take (k + 1)) = wd17 (l.take k) + (if 0 < l[k] then 1 else 0) := by
  unfold wd17
  rw [List.take_succ_eq_append_getElem h, List.countP_append]
  simp [List.countP_cons]
theorem on17_take (l : List Int) (k : Nat) (h : k < l.length) : on17 (l.take (k + 1)) = on17 (l.take k) + (if l[k] = 1 then 1 else 0) := by
  unfold on17
  rw [List.take_succ_eq_append_getElem h, List.countP_append]
  simp [List.countP_cons]
theorem whole17_bad (l : List Int) (none : Bool) (k : Nat) (h : k < l.length) (hb : l[k] < 0 ∨ 15 < l[k]) : whole17 l none = false := by
  unfold whole17
  rw [Bool.and_eq_false_iff]
  left
  rw [List.all_eq_false]
  exact ⟨l[k], List.getElem_mem h, by simp; omega⟩
theorem whole17_ok (l : List Int) (none : Bool) (h : ∀ i (hi : i < l.length), 0 ≤ l[i] ∧ l[i] ≤ 15) : whole17 l none = if wd17 l = 0 then none else (decide (wd17 l = 1) && decide (on17 l = 1)) || decide (chk l = 1) := by
  unfold whole17
  have : (l.all fun z => decide (0 ≤ z) && decide (z ≤ 15)) = true := by
    rw [List.all_eq_true]
    intro x hx
    obtain ⟨i, hi, rfl⟩ := List.getElem_of_mem hx
    have := h i hi
    simp; omega
  rw [this, Bool.true_and]
  rfl
set_option maxHeartbeats 1000000 in
theorem rwhole17_c (w : World) (v : Value) (zs : List Int) (none : Bool) (h : Is .i64 w v zs) (hn : zs.length ≤ 400) : Calls Tryz.prog 19 #[v, .bool none] w fun e w' => e = .returned (.bool (whole17 zs none)) ∧ ∃ n, w' = w.drewN n := by
  obtain ⟨R, hR⟩ : ∃ R, whole17 zs none = R := ⟨_, rfl⟩
  rw [hR]
  have HR := Lib.hid hR
  clear hR
  have HI := Lib.hid (fun i hi => h.at i hi)
  have HC := Lib.hid (fun n => refcheck_c (w.drewN n) v zs (h.drewN n))
  have hl := h.len
  obtain ⟨a, cap, rfl, _, _⟩ := h.shape
  clear h
  go_enter Tryz.func19, Tryz.ntmps19
  go_wp2_with fail
  go_loopw [5, 6, 7] (fun wv ov iv wr => ∃ (k y o : Nat), k ≤ zs.length ∧ iv = .int .i64 k ∧ wv = .int .i64 y ∧ ov = .int .i64 o ∧ Hid (y = wd17 (zs.take k)) ∧ Hid (o = on17 (zs.take k)) ∧ y ≤ k ∧ o ≤ k ∧ Hid (∀ j (hj : j < zs.length), j < k → 0 ≤ zs[j] ∧ zs[j] ≤ 15) ∧ ∃ n, wr = w.drewN n) (fun _ _ i _ => zs.length - (intOf i).toNat)
  case atStart => exact ⟨0, 0, 0, by omega, rfl, rfl, rfl, by simp [Hid, wd17], by simp [Hid, on17], by omega, by omega, fun j _ hj => by omega, 0, rfl⟩
  case round =>
    obtain ⟨k, y, o, hk, rfl, rfl, rfl, HY, HO, hy, ho, HB, n, rfl⟩ := hrel
    by_cases hlt : k < zs.length
    · obtain ⟨b, off, cap', hv, e1⟩ := HI.out k hlt
      simp only [Value.slice.injEq] at hv
      obtain ⟨rfl, _, rfl⟩ := hv
      by_cases hbad : zs[k] < 0 ∨ 15 < zs[k]
      · have hc := whole17_bad zs none k hlt hbad
        rw [HR.out] at hc
        have HCC := Lib.hid hc
        clear hc
        generalize zs[k] = z at e1 hbad
        by_cases hneg : z < 0
        · have t1 : decide (z < 0) = true := by simpa using hneg
          clear hbad hneg
          go_wp2_with fail
          go_ret
          exact ⟨by rw [HCC.out]; rfl, _, rfl⟩
        · have t1 : decide (z < 0) = false := by simpa using hneg
          have t2 : decide (15 < z) = true := by simp; omega
          clear hbad hneg
          go_wp2_with fail
          go_ret
          exact ⟨by rw [HCC.out]; rfl, _, rfl⟩
      · have HB2 : Hid (∀ j (hj : j < zs.length), j < k + 1 → 0 ≤ zs[j] ∧ zs[j] ≤ 15) := by
          intro j hj hjk
          by_cases e : j = k
          · subst e; omega
          · exact HB.out j hj (by omega)
        have HW := Lib.hid (wd17_take zs k hlt)
        have HO2 := Lib.hid (on17_take zs k hlt)
        obtain ⟨z, hz⟩ : ∃ z : Nat, zs[k] = z := ⟨zs[k].toNat, by omega⟩
        have hz2 : z ≤ 15 := by omega
        rw [hz] at e1 HW HO2
        have hs1 : IntKind.i64.wrap ((k : Int) + 1) = ((k + 1 : Nat) : Int) := by rw [IntKind.wrap_i64]; omega
        have hs2 : IntKind.i64.wrap ((y : Int) + 1) = ((y + 1 : Nat) : Int) := by rw [IntKind.wrap_i64]; omega
        have hs3 : IntKind.i64.wrap ((o : Int) + 1) = ((o + 1 : Nat) : Int) := by rw [IntKind.wrap_i64]; omega
        have t1 : decide ((z : Int) < 0) = false := by simp
        have t2 : decide (15 < (z : Int)) = false := by simp; omega
        have t2' : decide (15 < z) = false := by simp; omega
        have HK : Hid (k < zs.length) := hlt
        clear hbad hz
        by_cases hz0 : z = 0
        · have t3 : decide (0 < (z : Int)) = false := by simp; omega
          have t3' : decide (0 < z) = false := by simp; omega
          have t4 : ((z : Int) == 1) = false := by simp; omega
          have t4' : (z == 1) = false := by simp; omega
          have HY2 : Hid (y = wd17 (zs.take (k + 1))) := by unfold Hid; rw [HW.out, if_neg (by omega), HY.out]; rfl
          have HO3 : Hid (o = on17 (zs.take (k + 1))) := by unfold Hid; rw [HO2.out, if_neg (by omega), HO.out]; rfl
          clear hz0 hlt
          go_wp2_with fail
          go_roundw
          case rel => have := HK.out; exact ⟨k + 1, y, o, by omega, rfl, rfl, rfl, HY2, HO3, by omega, by omega, HB2, _, rfl⟩
          case measure => have := HK.out; simp [intOf]; omega
        · have t3 : decide (0 < (z : Int)) = true := by simp; omega
          have t3' : decide (0 < z) = true := by simp; omega
          have HY2 : Hid (y + 1 = wd17 (zs.take (k + 1))) := by unfold Hid; rw [HW.out, if_pos (by omega), HY.out]
          by_cases hz1 : z = 1
          · have t4 : ((z : Int) == 1) = true := by simp; omega
            have t4' : (z == 1) = true := by simp; omega
            have HO3 : Hid (o + 1 = on17 (zs.take (k + 1))) := by unfold Hid; rw [HO2.out, if_pos (by omega), HO.out]
            clear hz0 hz1 hlt
            go_wp2_with fail
            go_roundw
            case rel => have := HK.out; exact ⟨k + 1, y + 1, o + 1, by omega, rfl, rfl, rfl, HY2, HO3, by omega, by omega, HB2, _, rfl⟩
            case measure => have := HK.out; simp [intOf]; omega
          · have t4 : ((z : Int) == 1) = false := by simp; omega
            have t4' : (z == 1) = false := by simp; omega
            have HO3 : Hid (o = on17 (zs.take (k + 1))) := by unfold Hid; rw [HO2.out, if_neg (by omega), HO.out]; rfl
            clear hz0 hz1 hlt
            go_wp2_with fail
            go_roundw
            case rel => have := HK.out; exact ⟨k + 1, y + 1, o, by omega, rfl, rfl, rfl, HY2, HO3, by omega, by omega, HB2, _, rfl⟩
            case measure => have := HK.out; simp [intOf]; omega
    · have hfull : zs.take k = zs := List.take_of_length_le (by omega)
      have hv := whole17_ok zs none (fun i hi => HB.out i hi (by omega))
      rw [HR.out] at hv
      rw [hfull] at HY HO
      rw [← HY.out, ← HO.out] at hv
      have t0 : decide (k < zs.length) = false := by simpa using hlt
      have HV := Lib.hid hv
      clear hv hfull hlt HY HO
      by_cases hy0 : y = 0
      · subst hy0
        have HV4 : Hid (R = none) := by unfold Hid; rw [HV.out, if_pos rfl]
        clear HV
        go_wp2_with fail
        go_ret
        exact ⟨by rw [HV4.out]; rfl, _, rfl⟩
      · have t1 : ((y : Int) == 0) = false := by simp; omega
        have t1' : (y == 0) = false := by simp; omega
        have HV2 : Hid (R = ((decide (y = 1) && decide (o = 1)) || decide (chk zs = 1))) := by unfold Hid; rw [HV.out, if_neg hy0]
        clear HV hy0
        obtain ⟨c, hc⟩ : ∃ c, chk zs = c := ⟨_, rfl⟩
        rw [hc] at HV2 HC
        clear hc
        by_cases hy1 : y = 1
        · have t2 : ((y : Int) == 1) = true := by simp; omega
          have t2' : (y == 1) = true := by simp; omega
          by_cases ho1 : o = 1
          · have t3 : ((o : Int) == 1) = true := by simp; omega
            have t3' : (o == 1) = true := by simp; omega
            have hv3 : R = true := by rw [HV2.out]; simp [hy1, ho1]
            have HV3 := Lib.hid hv3
            clear hv3 hy1 ho1
            go_wp2_with fail
            go_ret
            exact ⟨by rw [HV3.out]; rfl, _, rfl⟩
          · have t3 : ((o : Int) == 1) = false := by simp; omega
            have t3' : (o == 1) = false := by simp; omega
            have hv3 : R = ((c : Int) == 1) := by rw [HV2.out]; simp [ho1]; rw [Bool.eq_iff_iff]; simp; omega
            have HV3 := Lib.hid hv3
            clear hv3 hy1 ho1
            go_wp2_with fail
            refine (HC.out _).mono ?_; rintro e w1 ⟨rfl, n1, rfl⟩
            go_wp2_with fail
            go_ret
            exact ⟨by rw [HV3.out]; rfl, _, rfl⟩
        · have t2 : ((y : Int) == 1) = false := by simp; omega
          have t2' : (y == 1) = false := by simp; omega
          have hv3 : R = ((c : Int) == 1) := by rw [HV2.out]; simp [hy1]; rw [Bool.eq_iff_iff]; simp; omega
          have HV3 := Lib.hid hv3
          clear hv3 hy1
          go_wp2_with fail
          refine (HC.out _).mono ?_; rintro e w1 ⟨rfl, n1, rfl⟩
          go_wp2_with fail
          go_ret
          exact ⟨by rw [HV3.out]; rfl, _, rfl⟩
set_option maxHeartbeats 1000000 in
theorem rright17_c (w : World) (v1 v2 : Value) (l d : List Int) (large : Bool) (h1 : Is .i64 w v1 l) (h2 : Is .i64 w v2 d) : Calls Tryz.prog 5 #[v1, v2, .bool large] w fun e w' => e = .returned (.bool (right17 l d large)) ∧ ∃ n, w' = w.drewN n := by
  obtain ⟨R, hR⟩ : ∃ R, right17 l d large = R := ⟨_, rfl⟩
  rw [hR]
  have hdef : R = (decide (257 ≤ l.length ∧ l.length ≤ 286 ∧ 1 ≤ d.length ∧ d.length ≤ (if large then 32 else 30)) && (decide (0 < l.getD 256 0) && (whole17 l false && whole17 d true))) := by rw [← hR]; rfl
  clear hR
  have HI := Lib.hid (fun i hi => h1.at i hi)
  have H1 := Lib.hid (fun (hn : l.length ≤ 400) => rwhole17_c w v1 l false h1 hn)
  have H2 := Lib.hid (fun n (hn : d.length ≤ 400) => rwhole17_c (w.drewN n) v2 d true (h2.drewN n) hn)
  have hl1 := h1.len
  have hl2 := h2.len
  obtain ⟨a1, cap1, rfl, _, _⟩ := h1.shape
  obtain ⟨a2, cap2, rfl, _, _⟩ := h2.shape
  obtain ⟨B1, hB1⟩ : ∃ B, whole17 l false = B := ⟨_, rfl⟩
  obtain ⟨B2, hB2⟩ : ∃ B, whole17 d true = B := ⟨_, rfl⟩
  rw [hB1] at H1 hdef
  rw [hB2] at H2 hdef
  clear h1 h2 hB1 hB2
  cases large
  · have HD : Hid (R = (decide (257 ≤ l.length ∧ l.length ≤ 286 ∧ 1 ≤ d.length ∧ d.length ≤ 30) && (decide (0 < l.getD 256 0) && (B1 && B2)))) := hdef
    clear hdef
    by_cases hb : 257 ≤ l.length ∧ l.length ≤ 286 ∧ 1 ≤ d.length ∧ d.length ≤ 30
    · obtain ⟨b1, b2, b3, b4⟩ := hb
      have t1 : decide (l.length < 257) = false := decide_eq_false (by omega)
      have t1' : decide ((l.length : Int) < 257) = false := decide_eq_false (by omega)
      have t2 : decide (286 < l.length) = false := decide_eq_false (by omega)
      have t2' : decide (286 < (l.length : Int)) = false := decide_eq_false (by omega)
      have t3 : decide (d.length < 1) = false := decide_eq_false (by omega)
      have t3' : decide ((d.length : Int) < 1) = false := decide_eq_false (by omega)
      have t4 : decide (30 < d.length) = false := decide_eq_false (by omega)
      have t4' : decide (30 < (d.length : Int)) = false := decide_eq_false (by omega)
      have hx : 256 < l.length := by omega
      obtain ⟨b, off, cap', hv, e1⟩ := HI.out 256 hx
      simp only [Value.slice.injEq] at hv
      obtain ⟨rfl, _, rfl⟩ := hv
      have hg : l.getD 256 0 = l[256] := by rw [List.getD_eq_getElem?_getD, List.getElem?_eq_getElem hx]; rfl
      obtain ⟨z, hz⟩ : ∃ z, l[256] = z := ⟨_, rfl⟩
      rw [hz] at e1 hg
      have HD2 : Hid (R = (decide (0 < z) && (B1 && B2))) := by unfold Hid; rw [HD.out, hg, decide_eq_true ⟨b1, b2, b3, b4⟩, Bool.true_and]
      have H1' := Lib.hid (H1.out (by omega))
      have H2' := Lib.hid (fun n => H2.out n (by omega))
      clear HD hz hg H1 H2 HI
      by_cases hp : 0 < z
      · have t5 : decide (0 < z) = true := by simpa using hp
        cases B1 with
        | false =>
          have hR : R = false := by rw [HD2.out]; simp
          have HR := Lib.hid hR
          clear hR hp HD2
          go_enter Tryz.func5, Tryz.ntmps5
          go_wp2_with fail
          refine H1'.out.mono ?_; rintro e w1 ⟨rfl, n1, rfl⟩
          go_wp2_with fail
          go_ret
          exact ⟨by rw [HR.out]; rfl, _, rfl⟩
        | true =>
          have hR : R = B2 := by rw [HD2.out]; simp [hp]
          have HR := Lib.hid hR
          clear hR hp HD2
          go_enter Tryz.func5, Tryz.ntmps5
          go_wp2_with fail
          refine H1'.out.mono ?_; rintro e w1 ⟨rfl, n1, rfl⟩
          go_wp2_with fail
          refine (H2'.out _).mono ?_; rintro e w1 ⟨rfl, n2, rfl⟩
          go_wp2_with fail
          go_ret
          exact ⟨by rw [HR.out]; rfl, _, rfl⟩
      · have t5 : decide (0 < z) = false := by simpa using hp
        have hR : R = false := by rw [HD2.out, t5]; rfl
        have HR := Lib.hid hR
        clear hR hp HD2
        go_enter Tryz.func5, Tryz.ntmps5
        go_wp2_with fail
        go_ret
        exact ⟨by rw [HR.out]; rfl, 0, rfl⟩
    · have hR : R = false := by rw [HD.out, decide_eq_false hb, Bool.false_and]
      have HR := Lib.hid hR
      clear HD hR H1 H2 HI
      by_cases c1 : l.length < 257
      · have t1 : decide (l.length < 257) = true := decide_eq_true c1
        have t1' : decide ((l.length : Int) < 257) = true := decide_eq_true (by omega)
        clear hb c1
        go_enter Tryz.func5, Tryz.ntmps5
        go_wp2_with fail
        go_ret
        exact ⟨by rw [HR.out]; rfl, 0, rfl⟩
      · have t1 : decide (l.length < 257) = false := decide_eq_false c1
        have t1' : decide ((l.length : Int) < 257) = false := decide_eq_false (by omega)
        by_cases c2 : 286 < l.length
        · have t2 : decide (286 < l.length) = true := decide_eq_true c2
          have t2' : decide (286 < (l.length : Int)) = true := decide_eq_true (by omega)
          clear hb c1 c2
          go_enter Tryz.func5, Tryz.ntmps5
          go_wp2_with fail
          go_ret
          exact ⟨by rw [HR.out]; rfl, 0, rfl⟩
        · have t2 : decide (286 < l.length) = false := decide_eq_false c2
          have t2' : decide (286 < (l.length : Int)) = false := decide_eq_false (by omega)
          by_cases c3 : d.length < 1
          · have t3 : decide (d.length < 1) = true := decide_eq_true c3
            have t3' : decide ((d.length : Int) < 1) = true := decide_eq_true (by omega)
            clear hb c1 c2 c3
            go_enter Tryz.func5, Tryz.ntmps5
            go_wp2_with fail
            go_ret
            exact ⟨by rw [HR.out]; rfl, 0, rfl⟩
          · have t3 : decide (d.length < 1) = false := decide_eq_false c3
            have t3' : decide ((d.length : Int) < 1) = false := decide_eq_false (by omega)
            have t4 : decide (30 < d.length) = true := decide_eq_true (by omega)
            have t4' : decide (30 < (d.length : Int)) = true := decide_eq_true (by omega)
            clear hb c1 c2 c3
            go_enter Tryz.func5, Tryz.ntmps5
            go_wp2_with fail
            go_ret
            exact ⟨by rw [HR.out]; rfl, 0, rfl⟩
  · have HD : Hid (R = (decide (257 ≤ l.length ∧ l.length ≤ 286 ∧ 1 ≤ d.length ∧ d.length ≤ 32) && (decide (0 < l.getD 256 0) && (B1 && B2)))) := hdef
    clear hdef
    by_cases hb : 257 ≤ l.length ∧ l.length ≤ 286 ∧ 1 ≤ d.length ∧ d.length ≤ 32
    · obtain ⟨b1, b2, b3, b4⟩ := hb
      have t1 : decide (l.length < 257) = false := decide_eq_false (by omega)
      have t1' : decide ((l.length : Int) < 257) = false := decide_eq_false (by omega)
      have t2 : decide (286 < l.length) = false := decide_eq_false (by omega)
      have t2' : decide (286 < (l.length : Int)) = false := decide_eq_false (by omega)
      have t3 : decide (d.length < 1) = false := decide_eq_false (by omega)
      have t3' : decide ((d.length : Int) < 1) = false := decide_eq_false (by omega)
      have t4 : decide (32 < d.length) = false := decide_eq_false (by omega)
      have t4' : decide (32 < (d.length : Int)) = false := decide_eq_false (by omega)
      have hx : 256 < l.length := by omega
      obtain ⟨b, off, cap', hv, e1⟩ := HI.out 256 hx
      simp only [Value.slice.injEq] at hv
      obtain ⟨rfl, _, rfl⟩ := hv
      have hg : l.getD 256 0 = l[256] := by rw [List.getD_eq_getElem?_getD, List.getElem?_eq_getElem hx]; rfl
      obtain ⟨z, hz⟩ : ∃ z, l[256] = z := ⟨_, rfl⟩
      rw [hz] at e1 hg
      have HD2 : Hid (R = (decide (0 < z) && (B1 && B2))) := by unfold Hid; rw [HD.out, hg, decide_eq_true ⟨b1, b2, b3, b4⟩, Bool.true_and]
      have H1' := Lib.hid (H1.out (by omega))
      have H2' := Lib.hid (fun n => H2.out n (by omega))
      clear HD hz hg H1 H2 HI
      by_cases hp : 0 < z
      · have t5 : decide (0 < z) = true := by simpa using hp
        cases B1 with
        | false =>
          have hR : R = false := by rw [HD2.out]; simp
          have HR := Lib.hid hR
          clear hR hp HD2
          go_enter Tryz.func5, Tryz.ntmps5
          go_wp2_with fail
          refine H1'.out.mono ?_; rintro e w1 ⟨rfl, n1, rfl⟩
          go_wp2_with fail
          go_ret
          exact ⟨by rw [HR.out]; rfl, _, rfl⟩
        | true =>
          have hR : R = B2 := by rw [HD2.out]; simp [hp]
          have HR := Lib.hid hR
          clear hR hp HD2
          go_enter Tryz.func5, Tryz.ntmps5
          go_wp2_with fail
          refine H1'.out.mono ?_; rintro e w1 ⟨rfl, n1, rfl⟩
          go_wp2_with fail
          refine (H2'.out _).mono ?_; rintro e w1 ⟨rfl, n2, rfl⟩
          go_wp2_with fail
          go_ret
          exact ⟨by rw [HR.out]; rfl, _, rfl⟩
      · have t5 : decide (0 < z) = false := by simpa using hp
        have hR : R = false := by rw [HD2.out, t5]; rfl
        have HR := Lib.hid hR
        clear hR hp HD2
        go_enter Tryz.func5, Tryz.ntmps5
        go_wp2_with fail
        go_ret
        exact ⟨by rw [HR.out]; rfl, 0, rfl⟩
    · have hR : R = false := by rw [HD.out, decide_eq_false hb, Bool.false_and]
      have HR := Lib.hid hR
      clear HD hR H1 H2 HI
      by_cases c1 : l.length < 257
      · have t1 : decide (l.length < 257) = true := decide_eq_true c1
        have t1' : decide ((l.length : Int) < 257) = true := decide_eq_true (by omega)
        clear hb c1
        go_enter Tryz.func5, Tryz.ntmps5
        go_wp2_with fail
        go_ret
        exact ⟨by rw [HR.out]; rfl, 0, rfl⟩
      · have t1 : decide (l.length < 257) = false := decide_eq_false c1
        have t1' : decide ((l.length : Int) < 257) = false := decide_eq_false (by omega)
        by_cases c2 : 286 < l.length
        · have t2 : decide (286 < l.length) = true := decide_eq_true c2
          have t2' : decide (286 < (l.length : Int)) = true := decide_eq_true (by omega)
          clear hb c1 c2
          go_enter Tryz.func5, Tryz.ntmps5
          go_wp2_with fail
          go_ret
          exact ⟨by rw [HR.out]; rfl, 0, rfl⟩
        · have t2 : decide (286 < l.length) = false := decide_eq_false c2
          have t2' : decide (286 < (l.length : Int)) = false := decide_eq_false (by omega)
          by_cases c3 : d.length < 1
          · have t3 : decide (d.length < 1) = true := decide_eq_true c3
            have t3' : decide ((d.length : Int) < 1) = true := decide_eq_true (by omega)
            clear hb c1 c2 c3
            go_enter Tryz.func5, Tryz.ntmps5
            go_wp2_with fail
            go_ret
            exact ⟨by rw [HR.out]; rfl, 0, rfl⟩
          · have t3 : decide (d.length < 1) = false := decide_eq_false c3
            have t3' : decide ((d.length : Int) < 1) = false := decide_eq_false (by omega)
            have t4 : decide (32 < d.length) = true := decide_eq_true (by omega)
            have t4' : decide (32 < (d.length : Int)) = true := decide_eq_true (by omega)
            clear hb c1 c2 c3
            go_enter Tryz.func5, Tryz.ntmps5
            go_wp2_with fail
            go_ret
            exact ⟨by rw [HR.out]; rfl, 0, rfl⟩
end Go.Proofs.YtibkepjbblfkoaaGreatDoor
namespace Go.Proofs.YtibkepjbblfkoaaGreatDoor
set_option linter.unusedVariables false
set_option linter.unusedSimpArgs false
set_option maxRecDepth 100000
open Go.ChangeShapes Go.WideShapes Go.ChangeAt Go.RowKit

theorem Is.pre {w : World} {a : Option Addr} {l : List Int} {cap : Nat} (h : Is .i64 w (.slice a l.length cap) l) (n : Nat) (hn : n ≤ l.length) : Is .i64 w (.slice a n cap) (l.take n) := by
  obtain ⟨a', cap', hv, h1, h2, h3, h4, h5⟩ := h
  simp only [Value.slice.injEq] at hv
  obtain ⟨rfl, _, rfl⟩ := hv
  have e : (l.take n).length = n := by rw [List.length_take]; omega
  refine ⟨a, cap, by rw [e], by omega, h2, h3, fun x hx i hi => ?_, fun z hz => h5 z (List.mem_of_mem_take hz)⟩
  rw [e] at hi
  rw [h4 x hx i (by omega)]; simp
theorem Is.lit17 (w : World) (l : List Int) (cs : Array Value) (n : Nat) (hc : cs.toList = ints64 l) (hn : l.length = n) (hl : n ≤ maxLen) (hz : ∀ z ∈ l, (Lit.int .i64 z).wf = true) : Is .i64 (w.alloc (.cells cs 3)) (.slice (some ⟨w.heap.size, 0, none⟩) n n) l := by
  subst hn
  refine ⟨some ⟨w.heap.size, 0, none⟩, l.length, rfl, Nat.le_refl _, hl, (fun h => nomatch h), fun x hx i hi => ?_, hz⟩
  obtain rfl : (⟨w.heap.size, 0, none⟩ : Addr) = x := by simpa using hx
  rw [show (⟨w.heap.size, 0, none⟩ : Addr).add i = ⟨w.heap.size, i, none⟩ by unfold Addr.add; split <;> simp_all]
  refine (Blk.new w cs 3).cell i _ ?_
  rw [← Array.getElem?_toList, hc]
  simp [ints64, hi]
def ordI : List Int := [16, 17, 18, 0, 8, 7, 9, 6, 10, 5, 11, 4, 12, 3, 13, 2, 14, 1, 15]
theorem ordI_at : ∀ i : Fin 19, ordI.getD i.val 0 = (ordD.getD i.val 0 : Int) ∧ ordD.getD i.val 0 < 19 := by decide
theorem rorder17_c (w : World) : Calls Tryz.prog 40 #[] w fun e w' => ∃ q, e = .returned (.slice (some ⟨q, 0, none⟩) 19 19) ∧ Is .i64 w' (.slice (some ⟨q, 0, none⟩) 19 19) ordI ∧ w.heap.size ≤ q ∧ Keep [] w w' := by
  have hb := Is.lit17 w ordI #[.int .i64 16, .int .i64 17, .int .i64 18, .int .i64 0, .int .i64 8, .int .i64 7, .int .i64 9, .int .i64 6, .int .i64 10, .int .i64 5, .int .i64 11, .int .i64 4, .int .i64 12, .int .i64 3, .int .i64 13, .int .i64 2, .int .i64 14, .int .i64 1, .int .i64 15] 19 rfl rfl (by decide) (by decide)
  have hk := (Keep.refl [] w).alloc (.cells #[.int .i64 16, .int .i64 17, .int .i64 18, .int .i64 0, .int .i64 8, .int .i64 7, .int .i64 9, .int .i64 6, .int .i64 10, .int .i64 5, .int .i64 11, .int .i64 4, .int .i64 12, .int .i64 3, .int .i64 13, .int .i64 2, .int .i64 14, .int .i64 1, .int .i64 15] 3)
  have HB := Lib.hid hb
  have HK := Lib.hid hk
  clear hb hk
  go_enter Tryz.func40, Tryz.ntmps40
  go_wp2_with fail
  go_ret
  exact ⟨_, rfl, HB.out, Nat.le_refl _, HK.out⟩
set_option maxHeartbeats 1000000 in
theorem rtrim17_c (w : World) (a : Option Addr) (zs : List Int) (cap least : Nat) (h : Is .i64 w (.slice a zs.length cap) zs) (hn : zs.length ≤ 400) (hl : least ≤ 400) (hle : least ≤ zs.length) : Calls Tryz.prog 18 #[.slice a zs.length cap, .int .i64 least] w fun e w' => e = .returned (.slice a (trimN zs least zs.length) cap) ∧ ∃ n, w' = w.drewN n := by
  obtain ⟨N, hN⟩ : ∃ N, trimN zs least zs.length = N := ⟨_, rfl⟩
  rw [hN]
  have HN := Lib.hid hN
  clear hN
  have HI := Lib.hid (fun i hi => h.at i hi)
  obtain ⟨a', cap', hv, h1, h2, -⟩ := h
  simp only [Value.slice.injEq] at hv
  obtain ⟨rfl, _, rfl⟩ := hv
  go_enter Tryz.func18, Tryz.ntmps18
  go_wp2_with fail
  go_loopw [5] (fun nv wr => ∃ k : Nat, nv = .int .i64 k ∧ k ≤ zs.length ∧ least ≤ k ∧ Hid (trimN zs least k = N) ∧ ∃ n, wr = w.drewN n) (fun nv _ => (intOf nv).toNat)
  case atStart => exact ⟨zs.length, rfl, by omega, hle, HN, 0, rfl⟩
  case round =>
    obtain ⟨k, rfl, hk, hlk, HNk, n, rfl⟩ := hrel
    by_cases hlt : least < k
    · have t1 : decide (least < k) = true := by simpa using hlt
      have hs : IntKind.i64.wrap ((k : Int) - 1) = ((k - 1 : Nat) : Int) := by rw [IntKind.wrap_i64]; omega
      obtain ⟨m, rfl⟩ : ∃ m, k = m + 1 := ⟨k - 1, by omega⟩
      have hm : m < zs.length := by omega
      obtain ⟨b, off, cap', hv, e1⟩ := HI.out m hm
      simp only [Value.slice.injEq] at hv
      obtain ⟨rfl, _, rfl⟩ := hv
      have hg : zs.getD m 0 = zs[m] := by rw [List.getD_eq_getElem?_getD, List.getElem?_eq_getElem hm]; rfl
      obtain ⟨z, hz⟩ : ∃ z, zs[m] = z := ⟨_, rfl⟩
      rw [hz] at e1 hg
      have hs2 : IntKind.i64.wrap ((m : Int) + 1 - 1) = (m : Int) := by rw [IntKind.wrap_i64]; omega
      have t1' : decide ((least : Int) < (m : Int) + 1) = true := decide_eq_true (by omega)
      have HM : Hid (least ≤ m) := Nat.le_of_lt_succ hlt
      by_cases hz0 : z = 0
      · have t2 : (z == 0) = true := by simpa using hz0
        have HN2 : Hid (trimN zs least m = N) := by
          have := HNk.out
          rw [trimN, if_pos ⟨hlt, by rw [hg, hz0]⟩] at this
          exact this
        clear hz0 hz hg hlt HNk
        go_wp2_with fail
        go_roundw
        case rel => exact ⟨m, rfl, by omega, HM.out, HN2, _, rfl⟩
        case measure => simp [intOf]
      · have t2 : (z == 0) = false := by simpa using hz0
        have HN2 : Hid (N = m + 1) := by
          have := HNk.out
          rw [trimN, if_neg (by rw [hg]; intro h; exact hz0 h.2)] at this
          exact this.symm
        have h3 : m + 1 ≤ cap := by omega
        clear hz0 hz hg hlt HNk
        go_wp2_with fail
        go_ret
        exact ⟨by rw [HN2.out]; rfl, _, rfl⟩
    · have t1 : decide (least < k) = false := by simpa using hlt
      obtain rfl : least = k := by omega
      have HN2 : Hid (N = least) := by
        have := HNk.out
        rw [← this]
        cases least with
        | zero => rfl
        | succ m => rw [trimN, if_neg (by omega)]; rfl
      have h3 : least ≤ cap := by omega
      clear hlt HNk
      go_wp2_with fail
      go_ret
      exact ⟨by rw [HN2.out]; rfl, _, rfl⟩
end Go.Proofs.YtibkepjbblfkoaaGreatDoor
namespace Go.Proofs.YtibkepjbblfkoaaGreatDoor
set_option linter.unusedVariables false
set_option linter.unusedSimpArgs false
set_option maxRecDepth 100000
open Go.ChangeShapes Go.WideShapes Go.ChangeAt Go.RowKit

theorem Is.one17 (w : World) (x : Int) (hx : (Lit.int .i64 x).wf = true) : Is .i64 (w.alloc (.cells #[.int .i64 x] 3)) (.slice (some ⟨w.heap.size, 0, none⟩) 1 1) [x] := by
  refine ⟨some ⟨w.heap.size, 0, none⟩, 1, rfl, by simp, by simp [maxLen], (fun h => nomatch h), fun y hy i hi => ?_, by simpa using hx⟩
  obtain rfl : (⟨w.heap.size, 0, none⟩ : Addr) = y := by simpa using hy
  obtain rfl : i = 0 := by simpa using hi
  exact (Blk.new w #[.int .i64 x] 3).cell 0 _ rfl
theorem bits_lt17 (s : RS) : (s.bits 2).1 < 4 ∧ (s.bits 3).1 < 8 ∧ (s.bits 7).1 < 128 := by
  refine ⟨?_, ?_, ?_⟩
  all_goals
    unfold RS.bits
    split
    · simp
    · split
      · simp
      · split
        · simp
        · first | exact num_lt s.l s.pos 2 | exact num_lt s.l s.pos 3 | exact num_lt s.l s.pos 7
theorem bits_l17 (r : RS) (n : Int) : (r.bits n).2.l = r.l := by
  unfold RS.bits RS.fail
  repeat' split
  all_goals rfl
theorem next_l17 (r : RS) (L : List Nat) : (r.next L).2.2.l = r.l := by
  unfold RS.next
  repeat' split
  all_goals rfl
theorem next_in (L : List Nat) (hL : ∀ x ∈ L, x ≤ 16) (s : RS) (h : (s.next L).2.1 = 0) : ∃ i, i < L.length ∧ (s.next L).1 = ((i : Nat) : Int) := by
  by_cases hE : s.E = 0
  · cases hp : pick L (tr 16 (num s.l s.pos 16) 0) (min 16 s.left) with
    | some i =>
      have := ((pick_some L _ _ i hL).1 hp).1.1
      exact ⟨i, this, by rw [RS.next_hit L s hE i hp]⟩
    | none =>
      rw [RS.next_none L s hE hp] at h
      dsimp only at h
      split at h <;> omega
  · rw [RS.next_err L s hE] at h
    exact absurd h hE
/-- a reader and a row of one's own, since W -/
structure UnY (w : World) (q : Nat) (v : Value) (s : RS) (l : Value) (L : List Int) (wr : World) : Prop where
  rd : Rr wr q v s
  own : OwnI wr l L
  keep : Keep [q] w wr
  bb : ∀ x, l.ownBlock = some x → w.heap.size ≤ x
section
variable {LL : List Nat} {N F : Nat} {M : List Int} {sk s2 s3 : RS} {y : Int} {og er : Nat}
theorem ls17_end (h : N ≤ M.length) : ls17 LL N (F + 1) M sk = (M, 0, sk) := by rw [ls17, if_pos h]
theorem ls17_err (h : M.length < N) (hn : sk.next LL = (y, er, s2)) (he : er ≠ 0) : ls17 LL N (F + 1) M sk = ([], er, s2) := by
  rw [ls17, if_neg (by omega), hn]; exact if_pos he
theorem ls17_err2 (h : M.length < N) (hn : sk.next LL = (y, 0, s2)) (ho : often17 y s2 = (og, s3)) (he : s3.E ≠ 0) : ls17 LL N (F + 1) M sk = ([], s3.E, s3) := by
  rw [ls17, if_neg (by omega), hn, if_neg (by simp), ho]; exact if_pos he
theorem ls17_code (h : M.length < N) (hn : sk.next LL = (y, 0, s2)) (ho : often17 y s2 = (og, s3)) (he : s3.E = 0) (h1 : y = 16 ∧ M = []) : ls17 LL N (F + 1) M sk = ([], 7, s3) := by
  rw [ls17, if_neg (by omega), hn, if_neg (by simp), ho]; dsimp only; rw [if_neg (by rw [he]; simp), if_pos h1]
theorem ls17_form (h : M.length < N) (hn : sk.next LL = (y, 0, s2)) (ho : often17 y s2 = (og, s3)) (he : s3.E = 0) (h1 : ¬ (y = 16 ∧ M = [])) (h2 : N - M.length < og) : ls17 LL N (F + 1) M sk = ([], 4, s3) := by
  rw [ls17, if_neg (by omega), hn, if_neg (by simp), ho]; dsimp only; rw [if_neg (by rw [he]; simp), if_neg h1, if_pos h2]
theorem ls17_go (h : M.length < N) (hn : sk.next LL = (y, 0, s2)) (ho : often17 y s2 = (og, s3)) (he : s3.E = 0) (h1 : ¬ (y = 16 ∧ M = [])) (h2 : ¬ N - M.length < og) : ls17 LL N (F + 1) M sk = ls17 LL N F (M ++ List.replicate og (what17 M y)) s3 := by
  rw [ls17, if_neg (by omega), hn, if_neg (by simp), ho]; dsimp only; rw [if_neg (by rw [he]; simp), if_neg h1, if_neg h2]
end
theorem what17_z17 (M : List Int) : what17 M ((17 : Nat) : Int) = 0 := by unfold what17; rw [if_neg (by decide), if_pos (.inl rfl)]
theorem what17_z16 (M : List Int) : what17 M ((16 : Nat) : Int) = M.getLastD 0 := by unfold what17; rw [if_pos (by decide)]
theorem what17_zi (M : List Int) (i : Nat) (h1 : i ≠ 16) (h2 : i ≠ 17) (h3 : i ≠ 18) : what17 M (i : Int) = i := by unfold what17; rw [if_neg (by omega), if_neg (by omega)]
theorem what17_z18 (M : List Int) : what17 M ((18 : Nat) : Int) = 0 := by unfold what17; rw [if_neg (by decide), if_pos (.inr rfl)]
set_option maxHeartbeats 8000000 in
theorem rlists17_c (w : World) (q : Nat) (v cv : Value) (s : RS) (LL : List Nat) (N : Nat) (hL : ∀ x ∈ LL, x ≤ 16) (hwt : wt LL ≤ 65536) (hLL : LL.length ≤ 100) (hN : N ≤ 400) (hc : Cds w cv LL) (hcq : ∀ b, cv.ownBlock = some b → b ≠ q) (hr : Rr w q v s) : Calls Tryz.prog 43 #[.pointer (some ⟨q, 0, none⟩), cv, .int .i64 N] w fun e w' => ∃ v', e = .returned (.tuple #[v', .int .i64 (ls17 LL N (N + 1) [] s).2.1]) ∧ OwnI w' v' (ls17 LL N (N + 1) [] s).1 ∧ Rr w' q v (ls17 LL N (N + 1) [] s).2.2 ∧ Keep [q] w w' ∧ ∀ b, v'.ownBlock = some b → w.heap.size ≤ b := by
  obtain ⟨R, hR⟩ : ∃ R, ls17 LL N (N + 1) [] s = R := ⟨_, rfl⟩
  rw [hR]
  have HR := Lib.hid hR
  have hql := hr.1.lt
  have hvl := Lib.hid (fun hl => hr.2.1.lt hl)
  have HVL : Hid (s.l ≠ [] → ∀ b, v.ownBlock = some b → b < w.heap.size) := by intro hl; exact hvl.out hl
  have HNX := Lib.hid (fun W sk (hR : Rr W q v sk) (hk : Keep [q] w W) => refnext_c W q v cv sk LL hL hwt (hc.keep hk (fun b hb hm => hcq b hb (by simpa using hm))) hR)
  have HIN := Lib.hid (fun sk => next_in LL hL sk)
  have hS0 : Hid (UnY w q v s (.slice none 0 0) [] w) := ⟨hr, OwnI.nil w, Keep.refl _ w, by simp [Value.ownBlock]⟩
  clear hr hvl hR hc hcq hL hwt
  go_enter Tryz.func43, Tryz.ntmps43
  go_wp2_with fail
  go_loopw [8] (fun al wr => ∃ (M : List Int) (sk : RS) (F : Nat) (a : Option Addr) (c : Nat), al = .slice a M.length c ∧ Hid (UnY w q v sk (.slice a M.length c) M wr) ∧ Hid (ls17 LL N F M sk = R) ∧ N + 1 ≤ F + M.length ∧ M.length ≤ N ∧ Hid (sk.l = s.l)) (fun al _ => match al with | .slice _ n _ => N - n | _ => 0)
  case atStart => exact ⟨[], s, N + 1, none, 0, rfl, hS0, HR, by simp, by simp, rfl⟩
  case round =>
    clear hS0
    obtain ⟨M, sk, F1, a, c, rfl, HS, HRk, hF, hM, hl⟩ := hrel
    obtain ⟨m, hm⟩ : ∃ m, M.length = m := ⟨_, rfl⟩
    by_cases hlt : m < N
    · obtain ⟨F, rfl⟩ : ∃ F, F1 = F + 1 := ⟨F1 - 1, by omega⟩
      have t0 : decide (m < N) = true := by simpa using hlt
      obtain ⟨⟨y, er, s2⟩, hnx⟩ : ∃ x, sk.next LL = x := ⟨_, rfl⟩
      have hcall := HNX.out wr sk HS.out.rd HS.out.keep
      have hi := HIN.out sk
      have hl2 : Hid (s2.l = s.l) := by unfold Hid; have := next_l17 sk LL; rw [hnx] at this; rw [← hl.out]; exact this
      rw [hnx] at hcall hi
      have HCALL := Lib.hid hcall
      have HNK := Lib.hid hnx
      have HM := Lib.hid hm
      have HLT : Hid (m < N) := hlt
      clear hcall hnx
      rw [hm] at HS ⊢ hF hM
      clear hm
      go_wp2_with fail
      refine HCALL.out.mono ?_; rintro e w2 ⟨rfl, hr2, hk2⟩
      have K2 : Keep [q] w w2 := HS.out.keep.trans hk2 (fun b hb => .inl hb)
      have hO2 := HS.out.own.keep hk2 (fun b hb hm => by have := HS.out.bb b hb; simp at hm; omega)
      have HS2 : Hid (UnY w q v s2 (.slice a m c) M w2) := ⟨hr2, hO2, K2, HS.out.bb⟩
      clear hr2 hk2 HS K2 hO2 HCALL
      by_cases he : er = 0
      · subst he
        obtain ⟨i, hi1, hi2⟩ := hi rfl
        subst hi2
        by_cases h17 : i = 17
        · subst h17
          have hb := (bits_lt17 s2).2.1
          have hof : often17 ((17 : Nat) : Int) s2 = (3 + (s2.bits 3).1, (s2.bits 3).2) := by unfold often17; rw [if_neg (by decide), if_pos (by decide)]
          have hl3 := bits_l17 s2 3
          have hcall := rbits_c w2 q v s2 3 HS2.out.rd
          obtain ⟨bn, hbn⟩ : ∃ bn, (s2.bits 3).1 = bn := ⟨_, rfl⟩
          obtain ⟨s3, hs3⟩ : ∃ s3, (s2.bits 3).2 = s3 := ⟨_, rfl⟩
          rw [hbn] at hb hof hcall
          rw [hs3] at hof hl3 hcall
          obtain ⟨og, hog⟩ : ∃ og, 3 + bn = og := ⟨_, rfl⟩
          rw [hog] at hof
          have hw1 : IntKind.i64.wrap (bn : Int) = (bn : Int) := by rw [IntKind.wrap_i64]; omega
          have hw2 : IntKind.i64.wrap (3 + (bn : Int)) = (og : Int) := by rw [IntKind.wrap_i64]; omega
          have hog2 : og ≤ 138 := by omega
          have HO1 : Hid (1 ≤ og) := by unfold Hid; omega
          have HOF := Lib.hid hof
          have HC3 := Lib.hid hcall
          have hl3' : Hid (s3.l = s.l) := by unfold Hid; rw [hl3]; exact hl2.out
          clear hb hof hcall hbn hs3 hog hl3 hi1
          go_wp2_with fail
          refine HC3.out.mono ?_; rintro e w3 ⟨rfl, hr3, hk3⟩
          have K3 : Keep [q] w w3 := HS2.out.keep.trans hk3 (fun b hb => .inl hb)
          have hO3 := HS2.out.own.keep hk3 (fun b hb hm => by have := HS2.out.bb b hb; simp at hm; omega)
          have HS3 : Hid (UnY w q v s3 (.slice a m c) M w3) := ⟨hr3, hO3, K3, HS2.out.bb⟩
          clear hr3 hk3 HS2 K3 hO3 HC3

          have hr3c := HS3.out.rd
          have c2 := hr3c.1.cell 2 _ rfl
          have hEr := hr3c.E
          clear hr3c
          by_cases hE : s3.E = 0
          · have herr : ((s3.err : Int) != 0) = false := by simp; omega
            have HE : Hid (s3.E = 0) := hE
            clear hE hEr
            have HC1 : Hid (¬ (((17 : Nat) : Int) = 16 ∧ M = [])) := by
              intro h
              have := h.1
              omega
            by_cases hf : N - m < og
            · have hRR := ls17_form (F := F) (by rw [HM.out]; exact HLT.out) HNK.out HOF.out HE.out HC1.out (by rw [HM.out]; exact hf)
              rw [HRk.out] at hRR
              have t8 : decide ((N : Int) - (m : Int) < (og : Int)) = true := decide_eq_true (by omega)
              have hw8 : IntKind.i64.wrap ((N : Int) - (m : Int)) = (N : Int) - (m : Int) := by rw [IntKind.wrap_i64]; omega
              have HRR := Lib.hid hRR
              clear hRR hf
              go_wp2_with fail
              go_ret2
              rw [HRR.out]
              exact ⟨_, rfl, OwnI.nil _, HS3.out.rd, HS3.out.keep, by simp [Value.ownBlock]⟩
            · have hRR := ls17_go (F := F) (by rw [HM.out]; exact HLT.out) HNK.out HOF.out HE.out HC1.out (by rw [HM.out]; exact hf)
              rw [HRk.out, what17_z17] at hRR
              have t8 : decide ((N : Int) - (m : Int) < (og : Int)) = false := decide_eq_false (by omega)
              have hw8 : IntKind.i64.wrap ((N : Int) - (m : Int)) = (N : Int) - (m : Int) := by rw [IntKind.wrap_i64]; omega
              have HRR := Lib.hid hRR
              have HOG : Hid (m + og ≤ N) := by unfold Hid; omega
              have HWF : Hid ((Lit.int .i64 0).wf = true) := Lib.hid (by decide)
              have HII := Lib.hid (fun (u : World) => Is.one17 u 0 HWF.out)
              clear hRR hf
              go_wp2_with fail
              go_loopw [8, 13] (fun al jv wr => ∃ (p : Nat) (a : Option Addr) (c : Nat), p ≤ og ∧ jv = .int .i64 p ∧ al = .slice a (m + p) c ∧ Hid (UnY w q v s3 (.slice a (m + p) c) (M ++ List.replicate p 0) wr)) (fun _ jv _ => og - (intOf jv).toNat)
              case atStart => exact ⟨0, a, c, by omega, rfl, rfl, by first | simpa using HS3 | simpa [UnY] using HS3⟩
              case round =>
                clear HS3
                obtain ⟨p, a4, c4, hp, rfl, rfl, HX⟩ := hrel
                by_cases hpx : p < og
                · have t9 : decide (p < og) = true := by simpa using hpx
                  have hs9 : IntKind.i64.wrap ((p : Int) + 1) = ((p + 1 : Nat) : Int) := by rw [IntKind.wrap_i64]; omega
                  have hle2 : (M ++ List.replicate p 0).length = m + p := by simp; exact HM.out
                  have hlen2 : (M ++ List.replicate p 0).length + 1 ≤ 17592186044416 := by rw [hle2]; have := HOG.out; omega
                  have HL2 := Lib.hid hlen2; have HLE := Lib.hid hle2
                  have HPX : Hid (p < og) := hpx
                  have hsn : Hid ((M ++ List.replicate p 0) ++ [0] = M ++ List.replicate (p + 1) 0) := by
                    unfold Hid; rw [List.append_assoc, ← List.replicate_succ']
                  have hO3 := Lib.hid (fun o => (HX.out.own.keep ((Keep.refl [] wr).alloc o) (by simp)))
                  have hR3 := Lib.hid (fun o => (HX.out.rd.keep ((Keep.refl [] wr).alloc o) (by simp) (by simp)))
                  have hK3 := Lib.hid (fun o => (HX.out.keep.trans ((Keep.refl [] wr).alloc o) (by simp)))
                  have hbb := Lib.hid HX.out.bb
                  clear hlen2 hle2 HX hpx
                  obtain ⟨MM, hMM⟩ : ∃ MM, M ++ List.replicate p 0 = MM := ⟨_, rfl⟩
                  rw [hMM] at hO3 HL2 HLE hsn
                  clear hMM
                  go_wp2_with (at_builtin; (refine wpList_appendI (.tmp 81) (.tmp 83) rfl rfl (.slice a4 (m + p) c4) MM rfl (hO3.out _) _ [0] rfl (HII.out _) HL2.out ?_); (intro v4 w4 ho4 hk4 hb4 hz4))
                  obtain ⟨a5, c5, rfl, hl5⟩ := ho4.is.sh
                  have e5 : (MM ++ [0]).length = m + (p + 1) := by simp; have := HLE.out; omega
                  rw [e5] at hb4 ho4
                  rw [hsn.out] at ho4
                  have := HPX.out
                  refine ⟨⟨p + 1, a5, c5, by omega, by simp, by rw [e5], ?_⟩, by simp [intOf]; omega⟩
                  refine ⟨(hR3.out _).keep hk4 (fun hm => ?_) ?_, ho4, (hK3.out _).trans hk4 (fun b hb => .inr (hbb.out b (by simpa using hb))), fun b hb => ?_⟩
                  · have := hbb.out q (by simpa using hm); omega
                  · intro hl b hb hm
                    have h1 := HVL.out (by rw [← hl3'.out]; exact hl) b hb
                    have h2 := hbb.out b (by simpa using hm)
                    omega
                  · rcases hb4 b hb with h | h
                    · exact hbb.out b h
                    · rw [h]; exact (hK3.out _).size
                · have t9 : decide (p < og) = false := by simpa using hpx
                  have hp2 : og = p := by omega
                  have HOG2 : Hid (m + p ≤ N) := by unfold Hid; have := HOG.out; omega
                  have HP1 : Hid (1 ≤ p) := by unfold Hid; have := HO1.out; omega
                  have hRR := HRR.out
                  rw [hp2] at hRR
                  have HRR2 := Lib.hid hRR
                  have hfl : Hid ((M ++ List.replicate p 0).length = m + p) := by unfold Hid; simp; exact HM.out
                  clear hpx hp2 hRR HRR
                  go_wp2_with fail
                  go_roundw
                  case rel => have := HOG2.out; have := HP1.out; have e9 := hfl.out; exact ⟨M ++ List.replicate p 0, s3, F, a4, c4, by rw [e9], by rw [e9]; exact HX.out, HRR2.out.symm, by rw [e9]; omega, by rw [e9]; omega, hl3'⟩
                  case measure => have := HOG2.out; have := HP1.out; simp; omega

          · have herr : ((s3.err : Int) != 0) = true := by simp; omega
            have hRR := ls17_err2 (F := F) (by rw [HM.out]; exact HLT.out) HNK.out HOF.out hE
            rw [HRk.out, hEr] at hRR
            have HRR := Lib.hid hRR
            clear hRR hE hEr
            go_wp2_with fail
            go_quiet (fail)
            go_wp2_with fail
            go_ret2
            rw [HRR.out]
            exact ⟨_, rfl, OwnI.nil _, HS3.out.rd.drewN _, HS3.out.keep.drewN _, by simp [Value.ownBlock]⟩
        · by_cases h18 : i = 18
          · subst h18
            have hb := (bits_lt17 s2).2.2
            have hof : often17 ((18 : Nat) : Int) s2 = (11 + (s2.bits 7).1, (s2.bits 7).2) := by unfold often17; rw [if_neg (by decide), if_neg (by decide), if_pos (by decide)]
            have hl3 := bits_l17 s2 7
            have hcall := rbits_c w2 q v s2 7 HS2.out.rd
            obtain ⟨bn, hbn⟩ : ∃ bn, (s2.bits 7).1 = bn := ⟨_, rfl⟩
            obtain ⟨s3, hs3⟩ : ∃ s3, (s2.bits 7).2 = s3 := ⟨_, rfl⟩
            rw [hbn] at hb hof hcall
            rw [hs3] at hof hl3 hcall
            obtain ⟨og, hog⟩ : ∃ og, 11 + bn = og := ⟨_, rfl⟩
            rw [hog] at hof
            have hw1 : IntKind.i64.wrap (bn : Int) = (bn : Int) := by rw [IntKind.wrap_i64]; omega
            have hw2 : IntKind.i64.wrap (11 + (bn : Int)) = (og : Int) := by rw [IntKind.wrap_i64]; omega
            have hog2 : og ≤ 138 := by omega
            have HO1 : Hid (1 ≤ og) := by unfold Hid; omega
            have HOF := Lib.hid hof
            have HC3 := Lib.hid hcall
            have hl3' : Hid (s3.l = s.l) := by unfold Hid; rw [hl3]; exact hl2.out
            clear hb hof hcall hbn hs3 hog hl3 hi1
            go_wp2_with fail
            refine HC3.out.mono ?_; rintro e w3 ⟨rfl, hr3, hk3⟩
            have K3 : Keep [q] w w3 := HS2.out.keep.trans hk3 (fun b hb => .inl hb)
            have hO3 := HS2.out.own.keep hk3 (fun b hb hm => by have := HS2.out.bb b hb; simp at hm; omega)
            have HS3 : Hid (UnY w q v s3 (.slice a m c) M w3) := ⟨hr3, hO3, K3, HS2.out.bb⟩
            clear hr3 hk3 HS2 K3 hO3 HC3

            have hr3c := HS3.out.rd
            have c2 := hr3c.1.cell 2 _ rfl
            have hEr := hr3c.E
            clear hr3c
            by_cases hE : s3.E = 0
            · have herr : ((s3.err : Int) != 0) = false := by simp; omega
              have HE : Hid (s3.E = 0) := hE
              clear hE hEr
              have HC1 : Hid (¬ (((18 : Nat) : Int) = 16 ∧ M = [])) := by
                intro h
                have := h.1
                omega
              by_cases hf : N - m < og
              · have hRR := ls17_form (F := F) (by rw [HM.out]; exact HLT.out) HNK.out HOF.out HE.out HC1.out (by rw [HM.out]; exact hf)
                rw [HRk.out] at hRR
                have t8 : decide ((N : Int) - (m : Int) < (og : Int)) = true := decide_eq_true (by omega)
                have hw8 : IntKind.i64.wrap ((N : Int) - (m : Int)) = (N : Int) - (m : Int) := by rw [IntKind.wrap_i64]; omega
                have HRR := Lib.hid hRR
                clear hRR hf
                go_wp2_with fail
                go_ret2
                rw [HRR.out]
                exact ⟨_, rfl, OwnI.nil _, HS3.out.rd, HS3.out.keep, by simp [Value.ownBlock]⟩
              · have hRR := ls17_go (F := F) (by rw [HM.out]; exact HLT.out) HNK.out HOF.out HE.out HC1.out (by rw [HM.out]; exact hf)
                rw [HRk.out, what17_z18] at hRR
                have t8 : decide ((N : Int) - (m : Int) < (og : Int)) = false := decide_eq_false (by omega)
                have hw8 : IntKind.i64.wrap ((N : Int) - (m : Int)) = (N : Int) - (m : Int) := by rw [IntKind.wrap_i64]; omega
                have HRR := Lib.hid hRR
                have HOG : Hid (m + og ≤ N) := by unfold Hid; omega
                have HWF : Hid ((Lit.int .i64 0).wf = true) := Lib.hid (by decide)
                have HII := Lib.hid (fun (u : World) => Is.one17 u 0 HWF.out)
                clear hRR hf
                go_wp2_with fail
                go_loopw [8, 13] (fun al jv wr => ∃ (p : Nat) (a : Option Addr) (c : Nat), p ≤ og ∧ jv = .int .i64 p ∧ al = .slice a (m + p) c ∧ Hid (UnY w q v s3 (.slice a (m + p) c) (M ++ List.replicate p 0) wr)) (fun _ jv _ => og - (intOf jv).toNat)
                case atStart => exact ⟨0, a, c, by omega, rfl, rfl, by first | simpa using HS3 | simpa [UnY] using HS3⟩
                case round =>
                  clear HS3
                  obtain ⟨p, a4, c4, hp, rfl, rfl, HX⟩ := hrel
                  by_cases hpx : p < og
                  · have t9 : decide (p < og) = true := by simpa using hpx
                    have hs9 : IntKind.i64.wrap ((p : Int) + 1) = ((p + 1 : Nat) : Int) := by rw [IntKind.wrap_i64]; omega
                    have hle2 : (M ++ List.replicate p 0).length = m + p := by simp; exact HM.out
                    have hlen2 : (M ++ List.replicate p 0).length + 1 ≤ 17592186044416 := by rw [hle2]; have := HOG.out; omega
                    have HL2 := Lib.hid hlen2; have HLE := Lib.hid hle2
                    have HPX : Hid (p < og) := hpx
                    have hsn : Hid ((M ++ List.replicate p 0) ++ [0] = M ++ List.replicate (p + 1) 0) := by
                      unfold Hid; rw [List.append_assoc, ← List.replicate_succ']
                    have hO3 := Lib.hid (fun o => (HX.out.own.keep ((Keep.refl [] wr).alloc o) (by simp)))
                    have hR3 := Lib.hid (fun o => (HX.out.rd.keep ((Keep.refl [] wr).alloc o) (by simp) (by simp)))
                    have hK3 := Lib.hid (fun o => (HX.out.keep.trans ((Keep.refl [] wr).alloc o) (by simp)))
                    have hbb := Lib.hid HX.out.bb
                    clear hlen2 hle2 HX hpx
                    obtain ⟨MM, hMM⟩ : ∃ MM, M ++ List.replicate p 0 = MM := ⟨_, rfl⟩
                    rw [hMM] at hO3 HL2 HLE hsn
                    clear hMM
                    go_wp2_with (at_builtin; (refine wpList_appendI (.tmp 81) (.tmp 83) rfl rfl (.slice a4 (m + p) c4) MM rfl (hO3.out _) _ [0] rfl (HII.out _) HL2.out ?_); (intro v4 w4 ho4 hk4 hb4 hz4))
                    obtain ⟨a5, c5, rfl, hl5⟩ := ho4.is.sh
                    have e5 : (MM ++ [0]).length = m + (p + 1) := by simp; have := HLE.out; omega
                    rw [e5] at hb4 ho4
                    rw [hsn.out] at ho4
                    have := HPX.out
                    refine ⟨⟨p + 1, a5, c5, by omega, by simp, by rw [e5], ?_⟩, by simp [intOf]; omega⟩
                    refine ⟨(hR3.out _).keep hk4 (fun hm => ?_) ?_, ho4, (hK3.out _).trans hk4 (fun b hb => .inr (hbb.out b (by simpa using hb))), fun b hb => ?_⟩
                    · have := hbb.out q (by simpa using hm); omega
                    · intro hl b hb hm
                      have h1 := HVL.out (by rw [← hl3'.out]; exact hl) b hb
                      have h2 := hbb.out b (by simpa using hm)
                      omega
                    · rcases hb4 b hb with h | h
                      · exact hbb.out b h
                      · rw [h]; exact (hK3.out _).size
                  · have t9 : decide (p < og) = false := by simpa using hpx
                    have hp2 : og = p := by omega
                    have HOG2 : Hid (m + p ≤ N) := by unfold Hid; have := HOG.out; omega
                    have HP1 : Hid (1 ≤ p) := by unfold Hid; have := HO1.out; omega
                    have hRR := HRR.out
                    rw [hp2] at hRR
                    have HRR2 := Lib.hid hRR
                    have hfl : Hid ((M ++ List.replicate p 0).length = m + p) := by unfold Hid; simp; exact HM.out
                    clear hpx hp2 hRR HRR
                    go_wp2_with fail
                    go_roundw
                    case rel => have := HOG2.out; have := HP1.out; have e9 := hfl.out; exact ⟨M ++ List.replicate p 0, s3, F, a4, c4, by rw [e9], by rw [e9]; exact HX.out, HRR2.out.symm, by rw [e9]; omega, by rw [e9]; omega, hl3'⟩
                    case measure => have := HOG2.out; have := HP1.out; simp; omega

            · have herr : ((s3.err : Int) != 0) = true := by simp; omega
              have hRR := ls17_err2 (F := F) (by rw [HM.out]; exact HLT.out) HNK.out HOF.out hE
              rw [HRk.out, hEr] at hRR
              have HRR := Lib.hid hRR
              clear hRR hE hEr
              go_wp2_with fail
              go_quiet (fail)
              go_wp2_with fail
              go_ret2
              rw [HRR.out]
              exact ⟨_, rfl, OwnI.nil _, HS3.out.rd.drewN _, HS3.out.keep.drewN _, by simp [Value.ownBlock]⟩
          · by_cases h16 : i = 16
            · subst h16
              have hb := (bits_lt17 s2).1
              have hof : often17 ((16 : Nat) : Int) s2 = (3 + (s2.bits 2).1, (s2.bits 2).2) := by unfold often17; rw [if_pos (by decide)]
              have hl3 := bits_l17 s2 2
              have hcall := rbits_c w2 q v s2 2 HS2.out.rd
              obtain ⟨bn, hbn⟩ : ∃ bn, (s2.bits 2).1 = bn := ⟨_, rfl⟩
              obtain ⟨s3, hs3⟩ : ∃ s3, (s2.bits 2).2 = s3 := ⟨_, rfl⟩
              rw [hbn] at hb hof hcall
              rw [hs3] at hof hl3 hcall
              obtain ⟨og, hog⟩ : ∃ og, 3 + bn = og := ⟨_, rfl⟩
              rw [hog] at hof
              have hw1 : IntKind.i64.wrap (bn : Int) = (bn : Int) := by rw [IntKind.wrap_i64]; omega
              have hw2 : IntKind.i64.wrap (3 + (bn : Int)) = (og : Int) := by rw [IntKind.wrap_i64]; omega
              have hog2 : og ≤ 138 := by omega
              have HO1 : Hid (1 ≤ og) := by unfold Hid; omega
              have HOF := Lib.hid hof
              have HC3 := Lib.hid hcall
              have hl3' : Hid (s3.l = s.l) := by unfold Hid; rw [hl3]; exact hl2.out
              clear hb hof hcall hbn hs3 hog hl3 hi1
              go_wp2_with fail
              refine HC3.out.mono ?_; rintro e w3 ⟨rfl, hr3, hk3⟩
              have K3 : Keep [q] w w3 := HS2.out.keep.trans hk3 (fun b hb => .inl hb)
              have hO3 := HS2.out.own.keep hk3 (fun b hb hm => by have := HS2.out.bb b hb; simp at hm; omega)
              have HS3 : Hid (UnY w q v s3 (.slice a m c) M w3) := ⟨hr3, hO3, K3, HS2.out.bb⟩
              clear hr3 hk3 HS2 K3 hO3 HC3

              have hr3c := HS3.out.rd
              have c2 := hr3c.1.cell 2 _ rfl
              have hEr := hr3c.E
              clear hr3c
              by_cases hE : s3.E = 0
              · have herr : ((s3.err : Int) != 0) = false := by simp; omega
                have HE : Hid (s3.E = 0) := hE
                clear hE hEr
                by_cases hM0 : M = []
                · have hRR := ls17_code (F := F) (by rw [HM.out]; exact HLT.out) HNK.out HOF.out HE.out ⟨rfl, hM0⟩
                  rw [HRk.out] at hRR
                  have HRR := Lib.hid hRR
                  have hm0 : m = 0 := by rw [← HM.out, hM0]; rfl
                  subst hm0
                  clear hRR
                  go_wp2_with fail
                  go_ret2
                  rw [HRR.out]
                  exact ⟨_, rfl, OwnI.nil _, HS3.out.rd, HS3.out.keep, by simp [Value.ownBlock]⟩

                have HC1 : Hid (¬ (((16 : Nat) : Int) = 16 ∧ M = [])) := fun h => hM0 h.2
                have hm1 : 1 ≤ m := by rw [← HM.out]; exact List.length_pos_iff.2 hM0
                have hmx : m - 1 < M.length := by rw [HM.out]; omega
                obtain ⟨z, hz⟩ : ∃ z, M[m - 1] = z := ⟨_, rfl⟩
                have hzd : M.getLastD 0 = z := by
                  rw [List.getLastD_eq_getLast?, List.getLast?_eq_getElem?, ← hz]
                  have e : M.length - 1 = m - 1 := by rw [HM.out]
                  rw [e, List.getElem?_eq_getElem hmx]; rfl
                have HZ := Lib.hid hzd
                have hiz := HS3.out.own.is
                rw [← HM.out] at hiz
                have hzwf : (Lit.int .i64 z).wf = true := by
                  obtain ⟨_, _, _, _, _, _, _, h6⟩ := hiz
                  exact h6 z (by rw [← hz]; exact List.getElem_mem hmx)
                have HZW := Lib.hid hzwf
                obtain ⟨b, off, cap', hv, e1⟩ := hiz.at (m - 1) hmx
                rw [hz] at e1
                simp only [Value.slice.injEq] at hv
                obtain ⟨rfl, -, rfl⟩ := hv
                have hmw : IntKind.i64.wrap ((m : Int) - 1) = ((m - 1 : Nat) : Int) := by rw [IntKind.wrap_i64]; omega
                have hmz : (m == 0) = false := by simp; omega
                have hmz' : ((m : Int) == 0) = false := by simp; omega
                have hmx2 : m - 1 < m := by omega
                clear hM0 hzd hiz hzwf hz hmx
                by_cases hf : N - m < og
                · have hRR := ls17_form (F := F) (by rw [HM.out]; exact HLT.out) HNK.out HOF.out HE.out HC1.out (by rw [HM.out]; exact hf)
                  rw [HRk.out] at hRR
                  have t8 : decide ((N : Int) - (m : Int) < (og : Int)) = true := decide_eq_true (by omega)
                  have hw8 : IntKind.i64.wrap ((N : Int) - (m : Int)) = (N : Int) - (m : Int) := by rw [IntKind.wrap_i64]; omega
                  have HRR := Lib.hid hRR
                  clear hRR hf
                  go_wp2_with fail
                  go_ret2
                  rw [HRR.out]
                  exact ⟨_, rfl, OwnI.nil _, HS3.out.rd, HS3.out.keep, by simp [Value.ownBlock]⟩
                · have hRR := ls17_go (F := F) (by rw [HM.out]; exact HLT.out) HNK.out HOF.out HE.out HC1.out (by rw [HM.out]; exact hf)
                  rw [HRk.out, what17_z16, HZ.out] at hRR
                  have t8 : decide ((N : Int) - (m : Int) < (og : Int)) = false := decide_eq_false (by omega)
                  have hw8 : IntKind.i64.wrap ((N : Int) - (m : Int)) = (N : Int) - (m : Int) := by rw [IntKind.wrap_i64]; omega
                  have HRR := Lib.hid hRR
                  have HOG : Hid (m + og ≤ N) := by unfold Hid; omega
                  have HWF : Hid ((Lit.int .i64 z).wf = true) := Lib.hid (HZW.out)
                  have HII := Lib.hid (fun (u : World) => Is.one17 u z HWF.out)
                  clear hRR hf
                  go_wp2_with fail
                  go_loopw [8, 13] (fun al jv wr => ∃ (p : Nat) (a : Option Addr) (c : Nat), p ≤ og ∧ jv = .int .i64 p ∧ al = .slice a (m + p) c ∧ Hid (UnY w q v s3 (.slice a (m + p) c) (M ++ List.replicate p z) wr)) (fun _ jv _ => og - (intOf jv).toNat)
                  case atStart => exact ⟨0, _, c, by omega, rfl, rfl, by first | simpa using HS3 | simpa [UnY] using HS3⟩
                  case round =>
                    clear HS3
                    obtain ⟨p, a4, c4, hp, rfl, rfl, HX⟩ := hrel
                    by_cases hpx : p < og
                    · have t9 : decide (p < og) = true := by simpa using hpx
                      have hs9 : IntKind.i64.wrap ((p : Int) + 1) = ((p + 1 : Nat) : Int) := by rw [IntKind.wrap_i64]; omega
                      have hle2 : (M ++ List.replicate p z).length = m + p := by simp; exact HM.out
                      have hlen2 : (M ++ List.replicate p z).length + 1 ≤ 17592186044416 := by rw [hle2]; have := HOG.out; omega
                      have HL2 := Lib.hid hlen2; have HLE := Lib.hid hle2
                      have HPX : Hid (p < og) := hpx
                      have hsn : Hid ((M ++ List.replicate p z) ++ [z] = M ++ List.replicate (p + 1) z) := by
                        unfold Hid; rw [List.append_assoc, ← List.replicate_succ']
                      have hO3 := Lib.hid (fun o => (HX.out.own.keep ((Keep.refl [] wr).alloc o) (by simp)))
                      have hR3 := Lib.hid (fun o => (HX.out.rd.keep ((Keep.refl [] wr).alloc o) (by simp) (by simp)))
                      have hK3 := Lib.hid (fun o => (HX.out.keep.trans ((Keep.refl [] wr).alloc o) (by simp)))
                      have hbb := Lib.hid HX.out.bb
                      clear hlen2 hle2 HX hpx
                      obtain ⟨MM, hMM⟩ : ∃ MM, M ++ List.replicate p z = MM := ⟨_, rfl⟩
                      rw [hMM] at hO3 HL2 HLE hsn
                      clear hMM
                      go_wp2_with (at_builtin; (refine wpList_appendI (.tmp 81) (.tmp 83) rfl rfl (.slice a4 (m + p) c4) MM rfl (hO3.out _) _ [z] rfl (HII.out _) HL2.out ?_); (intro v4 w4 ho4 hk4 hb4 hz4))
                      obtain ⟨a5, c5, rfl, hl5⟩ := ho4.is.sh
                      have e5 : (MM ++ [z]).length = m + (p + 1) := by simp; have := HLE.out; omega
                      rw [e5] at hb4 ho4
                      rw [hsn.out] at ho4
                      have := HPX.out
                      refine ⟨⟨p + 1, a5, c5, by omega, by simp, by rw [e5], ?_⟩, by simp [intOf]; omega⟩
                      refine ⟨(hR3.out _).keep hk4 (fun hm => ?_) ?_, ho4, (hK3.out _).trans hk4 (fun b hb => .inr (hbb.out b (by simpa using hb))), fun b hb => ?_⟩
                      · have := hbb.out q (by simpa using hm); omega
                      · intro hl b hb hm
                        have h1 := HVL.out (by rw [← hl3'.out]; exact hl) b hb
                        have h2 := hbb.out b (by simpa using hm)
                        omega
                      · rcases hb4 b hb with h | h
                        · exact hbb.out b h
                        · rw [h]; exact (hK3.out _).size
                    · have t9 : decide (p < og) = false := by simpa using hpx
                      have hp2 : og = p := by omega
                      have HOG2 : Hid (m + p ≤ N) := by unfold Hid; have := HOG.out; omega
                      have HP1 : Hid (1 ≤ p) := by unfold Hid; have := HO1.out; omega
                      have hRR := HRR.out
                      rw [hp2] at hRR
                      have HRR2 := Lib.hid hRR
                      have hfl : Hid ((M ++ List.replicate p z).length = m + p) := by unfold Hid; simp; exact HM.out
                      clear hpx hp2 hRR HRR
                      go_wp2_with fail
                      go_roundw
                      case rel => have := HOG2.out; have := HP1.out; have e9 := hfl.out; exact ⟨M ++ List.replicate p z, s3, F, a4, c4, by rw [e9], by rw [e9]; exact HX.out, HRR2.out.symm, by rw [e9]; omega, by rw [e9]; omega, hl3'⟩
                      case measure => have := HOG2.out; have := HP1.out; simp; omega

              · have herr : ((s3.err : Int) != 0) = true := by simp; omega
                have hRR := ls17_err2 (F := F) (by rw [HM.out]; exact HLT.out) HNK.out HOF.out hE
                rw [HRk.out, hEr] at hRR
                have HRR := Lib.hid hRR
                clear hRR hE hEr
                go_wp2_with fail
                go_quiet (fail)
                go_wp2_with fail
                go_ret2
                rw [HRR.out]
                exact ⟨_, rfl, OwnI.nil _, HS3.out.rd.drewN _, HS3.out.keep.drewN _, by simp [Value.ownBlock]⟩
            · have hof : often17 (i : Int) s2 = (1, s2) := by unfold often17; rw [if_neg (by omega), if_neg (by omega), if_neg (by omega)]
              have HOF := Lib.hid hof
              have hzi := what17_zi M i h16 h17 h18
              have HZI := Lib.hid hzi
              have hiwf : (Lit.int .i64 (i : Int)).wf = true := by simp [Lit.wf, IntKind.min, IntKind.max, IntKind.bits, IntKind.signed]; omega
              have HIW := Lib.hid hiwf
              have u1 : ((i : Int) == 16) = false := by simp; omega
              have u1' : (i == 16) = false := by simp; omega
              have u2 : ((i : Int) == 17) = false := by simp; omega
              have u2' : (i == 17) = false := by simp; omega
              have u3 : ((i : Int) == 18) = false := by simp; omega
              have u3' : (i == 18) = false := by simp; omega
              have HC1 : Hid (¬ ((i : Int) = 16 ∧ M = [])) := by intro h; have := h.1; omega
              have HS3 := HS2
              have hl3' := hl2
              have hf : ¬ N - m < 1 := by omega
              have HO1 : Hid (1 ≤ 1) := Nat.le_refl _
              have hr3c := HS3.out.rd
              have c2 := hr3c.1.cell 2 _ rfl
              have hEr := hr3c.E
              clear hr3c hof hzi hiwf h16 h17 h18 hi1 HS2
              by_cases hE : s2.E = 0
              · have herr : ((s2.err : Int) != 0) = false := by simp; omega
                have HE : Hid (s2.E = 0) := hE
                clear hE hEr
                have hRR := ls17_go (F := F) (by rw [HM.out]; exact HLT.out) HNK.out HOF.out HE.out HC1.out (by rw [HM.out]; exact hf)
                rw [HRk.out, HZI.out] at hRR
                have t8 : decide ((N : Int) - (m : Int) < (1 : Int)) = false := decide_eq_false (by omega)
                have hw8 : IntKind.i64.wrap ((N : Int) - (m : Int)) = (N : Int) - (m : Int) := by rw [IntKind.wrap_i64]; omega
                have HRR := Lib.hid hRR
                have HOG : Hid (m + 1 ≤ N) := by unfold Hid; omega
                have HWF : Hid ((Lit.int .i64 (i : Int)).wf = true) := Lib.hid (HIW.out)
                have HII := Lib.hid (fun (u : World) => Is.one17 u (i : Int) HWF.out)
                clear hRR hf
                go_wp2_with fail
                go_loopw [8, 13] (fun al jv wr => ∃ (p : Nat) (a : Option Addr) (c : Nat), p ≤ 1 ∧ jv = .int .i64 p ∧ al = .slice a (m + p) c ∧ Hid (UnY w q v s2 (.slice a (m + p) c) (M ++ List.replicate p (i : Int)) wr)) (fun _ jv _ => 1 - (intOf jv).toNat)
                case atStart => exact ⟨0, a, c, by omega, rfl, rfl, by first | simpa using HS3 | simpa [UnY] using HS3⟩
                case round =>
                  clear HS3
                  obtain ⟨p, a4, c4, hp, rfl, rfl, HX⟩ := hrel
                  by_cases hpx : p < 1
                  · have t9 : decide ((p : Int) < 1) = true := decide_eq_true (by omega)
                    have hs9 : IntKind.i64.wrap ((p : Int) + 1) = ((p + 1 : Nat) : Int) := by rw [IntKind.wrap_i64]; omega
                    have hle2 : (M ++ List.replicate p (i : Int)).length = m + p := by simp; exact HM.out
                    have hlen2 : (M ++ List.replicate p (i : Int)).length + 1 ≤ 17592186044416 := by rw [hle2]; have := HOG.out; omega
                    have HL2 := Lib.hid hlen2; have HLE := Lib.hid hle2
                    have HPX : Hid (p < 1) := hpx
                    have hsn : Hid ((M ++ List.replicate p (i : Int)) ++ [(i : Int)] = M ++ List.replicate (p + 1) (i : Int)) := by
                      unfold Hid; rw [List.append_assoc, ← List.replicate_succ']
                    have hO3 := Lib.hid (fun o => (HX.out.own.keep ((Keep.refl [] wr).alloc o) (by simp)))
                    have hR3 := Lib.hid (fun o => (HX.out.rd.keep ((Keep.refl [] wr).alloc o) (by simp) (by simp)))
                    have hK3 := Lib.hid (fun o => (HX.out.keep.trans ((Keep.refl [] wr).alloc o) (by simp)))
                    have hbb := Lib.hid HX.out.bb
                    clear hlen2 hle2 HX hpx
                    obtain ⟨MM, hMM⟩ : ∃ MM, M ++ List.replicate p (i : Int) = MM := ⟨_, rfl⟩
                    rw [hMM] at hO3 HL2 HLE hsn
                    clear hMM
                    go_wp2_with (at_builtin; (refine wpList_appendI (.tmp 81) (.tmp 83) rfl rfl (.slice a4 (m + p) c4) MM rfl (hO3.out _) _ [(i : Int)] rfl (HII.out _) HL2.out ?_); (intro v4 w4 ho4 hk4 hb4 hz4))
                    obtain ⟨a5, c5, rfl, hl5⟩ := ho4.is.sh
                    have e5 : (MM ++ [(i : Int)]).length = m + (p + 1) := by simp; have := HLE.out; omega
                    rw [e5] at hb4 ho4
                    rw [hsn.out] at ho4
                    have := HPX.out
                    refine ⟨⟨p + 1, a5, c5, by omega, by simp, by rw [e5], ?_⟩, by simp [intOf]; omega⟩
                    refine ⟨(hR3.out _).keep hk4 (fun hm => ?_) ?_, ho4, (hK3.out _).trans hk4 (fun b hb => .inr (hbb.out b (by simpa using hb))), fun b hb => ?_⟩
                    · have := hbb.out q (by simpa using hm); omega
                    · intro hl b hb hm
                      have h1 := HVL.out (by rw [← hl3'.out]; exact hl) b hb
                      have h2 := hbb.out b (by simpa using hm)
                      omega
                    · rcases hb4 b hb with h | h
                      · exact hbb.out b h
                      · rw [h]; exact (hK3.out _).size
                  · have t9 : decide ((p : Int) < 1) = false := decide_eq_false (by omega)
                    have hp2 : 1 = p := by omega
                    have HOG2 : Hid (m + p ≤ N) := by unfold Hid; have := HOG.out; omega
                    have HP1 : Hid (1 ≤ p) := by unfold Hid; have := HO1.out; omega
                    have hRR := HRR.out
                    rw [hp2] at hRR
                    have HRR2 := Lib.hid hRR
                    have hfl : Hid ((M ++ List.replicate p (i : Int)).length = m + p) := by unfold Hid; simp; exact HM.out
                    clear hpx hp2 hRR HRR
                    go_wp2_with fail
                    go_roundw
                    case rel => have := HOG2.out; have := HP1.out; have e9 := hfl.out; exact ⟨M ++ List.replicate p (i : Int), s2, F, a4, c4, by rw [e9], by rw [e9]; exact HX.out, HRR2.out.symm, by rw [e9]; omega, by rw [e9]; omega, hl3'⟩
                    case measure => have := HOG2.out; have := HP1.out; simp; omega

              · have herr : ((s2.err : Int) != 0) = true := by simp; omega
                have hRR := ls17_err2 (F := F) (by rw [HM.out]; exact HLT.out) HNK.out HOF.out hE
                rw [HRk.out, hEr] at hRR
                have HRR := Lib.hid hRR
                clear hRR hE hEr
                go_wp2_with fail
                go_quiet (fail)
                go_wp2_with fail
                go_ret2
                rw [HRR.out]
                exact ⟨_, rfl, OwnI.nil _, HS3.out.rd.drewN _, HS3.out.keep.drewN _, by simp [Value.ownBlock]⟩

      · have t1 : ((er : Int) == 0) = false := by simp; omega
        have t1' : ((er : Int) != 0) = true := by simp; omega
        have hRR := ls17_err (F := F) (by rw [HM.out]; exact HLT.out) HNK.out he
        rw [HRk.out] at hRR
        have HRR := Lib.hid hRR
        clear hRR hi he
        go_wp2_with fail
        go_ret2
        rw [HRR.out]
        exact ⟨_, rfl, OwnI.nil _, HS2.out.rd, HS2.out.keep, by simp [Value.ownBlock]⟩
    · have t0 : decide (m < N) = false := by simpa using hlt
      obtain ⟨F, rfl⟩ : ∃ F, F1 = F + 1 := ⟨F1 - 1, by omega⟩
      have hRR := ls17_end (LL := LL) (F := F) (sk := sk) (show N ≤ M.length by omega)
      rw [HRk.out] at hRR
      have HRR := Lib.hid hRR
      rw [hm] at HS ⊢ hF hM
      have HM := Lib.hid hm
      clear hm hRR hlt
      go_wp2_with fail
      go_ret2
      rw [HRR.out]
      exact ⟨_, rfl, HS.out.own, HS.out.rd, HS.out.keep, HS.out.bb⟩
end Go.Proofs.YtibkepjbblfkoaaGreatDoor
namespace Go.Proofs.YtibkepjbblfkoaaGreatDoor
set_option linter.unusedVariables false
set_option linter.unusedSimpArgs false
set_option maxRecDepth 100000
open Go.ChangeShapes Go.WideShapes Go.ChangeAt Go.RowKit

theorem Is.nil64 (w : World) : Is .i64 w (.slice none 0 0) [] := (OwnI.nil w).is
theorem bits_lt5 (s : RS) : (s.bits 5).1 < 32 := bits_lt15 s 5 (by decide)
theorem bits_lt4 (s : RS) : (s.bits 4).1 < 16 := bits_lt15 s 4 (by decide)
theorem bits_lt3 (s : RS) : (s.bits 3).1 < 8 := bits_lt15 s 3 (by decide)
theorem th17_len (s : RS) (k : Nat) : (th17 s k).1.length = 19 := by
  induction k with
  | zero => rfl
  | succ k ih => rw [th17]; simp [ih]
theorem th17_l (s : RS) (k : Nat) : (th17 s k).2.l = s.l := by
  induction k with
  | zero => rfl
  | succ k ih => rw [th17]; exact (bits_l17 _ 3).trans ih
theorem sliced0 (a : Option Addr) (j cap : Nat) : sliced a 0 j cap 1 = .slice a j cap := by
  unfold sliced
  cases a with
  | none => simp
  | some x => cases x with | mk b o f => cases f <;> simp [Addr.add]
/-- v[:y] -/
theorem Is.upto {w : World} {v : Value} {l : List Int} (h : Is .i64 w v l) (j : Nat) (y : Int) (hy : y = j) (hj : j ≤ l.length) :
    ∃ v', (∀ W, (Instr.slice 22 v none (some (.int .i64 y)) none).run Tryz.prog W = .ok v' W) ∧ Is .i64 w v' (l.take j) ∧ ∀ b, v'.ownBlock = some b → v.ownBlock = some b := by
  subst hy
  obtain ⟨a, cap, rfl, h1, h2, _⟩ := id h
  unfold maxLen at h2
  refine ⟨.slice a j cap, fun W => by rw [run_slice_h W _ _ _ _ under64.1 .i64 _ (by omega) (by omega), under64.2, size64]; show Result.ok (sliced a 0 ((j : Int)).toNat cap 1) W = _; rw [sliced0]; rfl, h.pre j hj, fun b hb => by cases a with
    | none => simp [Value.ownBlock] at hb
    | some x => simpa [Value.ownBlock] using hb⟩
set_option maxHeartbeats 8000000 in
theorem rread17_c (w : World) (q : Nat) (v : Value) (s : RS) (hr : Rr w q v s) (large : Bool) : Calls Tryz.prog 15 #[.pointer (some ⟨q, 0, none⟩), .bool large] w fun e w' => ∃ v1 v2, e = .returned (.tuple #[v1, v2, .int .i64 (rd17 s large).2.2.1]) ∧ Is .i64 w' v1 (rd17 s large).1 ∧ Is .i64 w' v2 (rd17 s large).2.1 ∧ Rr w' q v (rd17 s large).2.2.2 ∧ Keep [q] w w' := by
  obtain ⟨x1, s1, h1⟩ : ∃ x1 s1, s.bits 5 = (x1, s1) := ⟨_, _, rfl⟩
  obtain ⟨x2, s2, h2⟩ : ∃ x2 s2, s1.bits 5 = (x2, s2) := ⟨_, _, rfl⟩
  obtain ⟨x3, s3, h3⟩ : ∃ x3 s3, s2.bits 4 = (x3, s3) := ⟨_, _, rfl⟩
  obtain ⟨T, s4, h4⟩ : ∃ T s4, th17 s3 (x3 + 4) = (T, s4) := ⟨_, _, rfl⟩
  obtain ⟨al, er, s5, h5⟩ : ∃ al er s5, ls17 (Ln T) (x1 + 257 + (x2 + 1)) (x1 + 257 + (x2 + 1) + 1) [] s4 = (al, er, s5) := ⟨_, _, _, rfl⟩
  have hx1 : x1 < 32 := by have := bits_lt5 s; rw [h1] at this; exact this
  have hx2 : x2 < 32 := by have := bits_lt5 s1; rw [h2] at this; exact this
  have hx3 : x3 < 16 := by have := bits_lt4 s2; rw [h3] at this; exact this
  obtain ⟨k1, k2, k3⟩ := rd17_cases s large x1 s1 x2 s2 x3 s3 T s4 al er s5 h1 h2 h3 h4 h5
  have HB1 := Lib.hid (rbits_c w q v s 5 hr)
  have HB2 := Lib.hid (fun w1 (h : Rr w1 q v s1) => rbits_c w1 q v s1 5 h)
  have HB3 := Lib.hid (fun w1 (h : Rr w1 q v s2) => rbits_c w1 q v s2 4 h)
  rw [h1] at HB1; rw [h2] at HB2; rw [h3] at HB3
  dsimp only at HB1 HB2 HB3
  obtain ⟨R, hR⟩ : ∃ R, rd17 s large = R := ⟨_, rfl⟩
  rw [hR] at k1 k2 k3 ⊢
  have K1 := Lib.hid k1; have K2 := Lib.hid k2; have K3 := Lib.hid k3; have H4 := Lib.hid h4; have H5 := Lib.hid h5
  have hql : q < w.heap.size := hr.1.lt
  have HQ := Lib.hid hql
  have HVL : Hid (s.l ≠ [] → ∀ b, v.ownBlock = some b → b < w.heap.size) := fun hl b hb => hr.2.1.lt hl b hb
  have HL3 : Hid (s3.l = s.l) := by
    have a1 := bits_l17 s 5; have a2 := bits_l17 s1 5; have a3 := bits_l17 s2 4
    rw [h1] at a1; rw [h2] at a2; rw [h3] at a3
    exact (a3.trans a2).trans a1
  have w1 : IntKind.i64.wrap (x1 : Int) = x1 := by rw [IntKind.wrap_i64]; omega
  have w2 : IntKind.i64.wrap (x2 : Int) = x2 := by rw [IntKind.wrap_i64]; omega
  have w3 : IntKind.i64.wrap (x3 : Int) = x3 := by rw [IntKind.wrap_i64]; omega
  obtain ⟨a, ha⟩ : ∃ a, x1 + 257 = a := ⟨_, rfl⟩
  obtain ⟨b, hb⟩ : ∃ b, x2 + 1 = b := ⟨_, rfl⟩
  obtain ⟨n, hn⟩ : ∃ n, x3 + 4 = n := ⟨_, rfl⟩
  have w4 : IntKind.i64.wrap ((x1 : Int) + 257) = a := by rw [IntKind.wrap_i64]; omega
  have w5 : IntKind.i64.wrap ((x2 : Int) + 1) = b := by rw [IntKind.wrap_i64]; omega
  have w6 : IntKind.i64.wrap ((x3 : Int) + 4) = n := by rw [IntKind.wrap_i64]; omega
  have HAB : Hid (257 ≤ a ∧ a ≤ 288 ∧ 1 ≤ b ∧ b ≤ 32 ∧ n ≤ 19) := by unfold Hid; omega
  rw [ha, hb] at H5
  rw [hn] at H4
  rw [ha, hb] at K2 K3
  clear k1 k2 k3 h1 h2 h3 h4 h5 hR hx1 hx2 hx3 ha hb hn hr hql
  go_enter Tryz.func15, Tryz.ntmps15
  go_wp2_with fail
  refine HB1.out.mono ?_; rintro e wa ⟨rfl, hra, ka⟩
  go_wp2_with fail
  refine (HB2.out wa hra).mono ?_; rintro e wb ⟨rfl, hrb, kb⟩
  go_wp2_with fail
  refine (HB3.out wb hrb).mono ?_; rintro e wc ⟨rfl, hrc, kc⟩
  have HKC : Hid (Keep [q] w wc) := (ka.trans kb (fun _ h => .inl h)).trans kc (fun _ h => .inl h)
  have HRC := Lib.hid hrc
  have hE3 := hrc.E
  have c2 : wc.cell? ⟨q, 2, none⟩ = some (.int .i64 s3.err) := hrc.1.cell 2 _ rfl
  clear ka kb kc hra hrb HB1 HB2 HB3 hrc w1 w2
  obtain ⟨E3, hE3'⟩ : ∃ E3, s3.err = E3 := ⟨_, rfl⟩
  rw [hE3'] at c2 hE3
  rw [hE3] at K1 K2 K3
  clear hE3' hE3
  by_cases g3 : E3 = 0
  · subst g3
    obtain ⟨bz, hbz⟩ : ∃ bz, (decide (286 < (a : Int)) || (decide (30 < (b : Int)) && !large)) = bz := ⟨_, rfl⟩
    have HBZ := Lib.hid hbz
    clear hbz
    go_upto_region 6 with fail
    go_cut [47] (fun cv wx => cv = .bool bz ∧ wx = wc)
    case first =>
      go_wp2_with fail
      all_goals
        go_meet
        have hz := HBZ.out
        refine ⟨?_, rfl⟩
        rw [← hz]
        congr 1
        first
          | (have e : decide ((286 : Int) < a) = true := decide_eq_true (by omega); rw [e, Bool.true_or])
          | (have e : decide ((30 : Int) < b) = true := decide_eq_true (by omega); rw [e, Bool.true_and])
          | (have e : decide ((30 : Int) < b) = false := decide_eq_false (by omega); rw [e, Bool.false_and, Bool.or_false])
    case rest =>
    obtain ⟨rfl, hwc⟩ := hcut
    have h := hwc.symm
    subst h
    cases bz with
    | true =>
      have hz := HBZ.out
      have HR := Lib.hid (K2.out trivial (by simp only [Bool.or_eq_true, Bool.and_eq_true, decide_eq_true_eq, Bool.not_eq_true'] at hz; rcases hz with hz | ⟨hz, hl⟩; exact .inl (by omega); exact .inr ⟨by omega, hl⟩))
      clear hz K1 K2 K3
      go_wp2_with fail
      go_ret3
      rw [HR.out]
      exact ⟨_, _, rfl, Is.nil64 _, Is.nil64 _, HRC.out, HKC.out⟩
    | false =>
      have hz := HBZ.out
      have hk := K3.out trivial (by simp only [Bool.or_eq_false_iff, Bool.and_eq_false_iff, decide_eq_false_iff_not, Bool.not_eq_false'] at hz; cases large <;> simp_all <;> omega)
      have HK := Lib.hid hk
      clear hz hk K1 K2 K3
      have HM : (Instr.makeSlice 22 (.int .i64 19) (.int .i64 19)).run Tryz.prog wc = .ok (.slice (some ⟨wc.heap.size, 0, none⟩) 19 19) (wc.alloc (.cells (madeCells #[.int .i64 0] 19) 3)) := run_make_intsC wc 19 19 (Nat.le_refl _) (by decide)
      have hO := OwnI.made wc 19 (by decide)
      have hK := (Keep.refl [] wc).alloc (.cells (madeCells #[.int .i64 0] 19) 3)
      obtain ⟨g, hg⟩ : ∃ g, wc.heap.size = g := ⟨_, rfl⟩
      have hgl : w.heap.size ≤ g := by have := HKC.out.size; omega
      have HGL := Lib.hid hgl
      rw [hg] at HM hO
      obtain ⟨wd, hwd⟩ : ∃ wd, wc.alloc (.cells (madeCells #[.int .i64 0] 19) 3) = wd := ⟨_, rfl⟩
      have hds : g < wd.heap.size := by rw [← hwd, ← hg]; exact (Blk.new wc _ _).lt
      rw [hwd] at HM hO hK
      have HRD : Hid (Rr wd q v s3) := HRC.out.keep hK (by simp) (by simp)
      have HKD : Hid (Keep [q] w wd) := HKC.out.trans hK (by simp)
      have HO := Lib.hid hO
      have HOR := Lib.hid (rorder17_c wd)
      have HDS := Lib.hid hds
      clear hwd hO hK hg hgl HRC HKC hwc c2 hds
      go_wp2_with fail
      refine HOR.out.mono ?_; rintro e we ⟨qo, rfl, hIO, hqo, ke⟩
      have hgq : g < qo := by have := HDS.out; omega
      have HRE : Hid (Rr we q v s3) := HRD.out.keep ke (by simp) (by simp)
      have HKE : Hid (Keep [q] w we) := HKD.out.trans ke (by simp)
      have HOE : Hid (OwnI we (.slice (some ⟨g, 0, none⟩) 19 19) (List.replicate 19 0)) := HO.out.keep ke (by simp)
      have HIO := Lib.hid hIO
      have HGQ := Lib.hid hgq
      clear HRD HKD HO HOR HDS hIO hqo ke hgq HM
      go_wp2_with fail
      go_loopw [12] (fun iv wr => ∃ k : Nat, k ≤ n ∧ iv = .int .i64 k ∧ Hid (Rr wr q v (th17 s3 k).2) ∧ Hid (OwnI wr (.slice (some ⟨g, 0, none⟩) 19 19) (th17 s3 k).1) ∧ Hid (Is .i64 wr (.slice (some ⟨qo, 0, none⟩) 19 19) ordI) ∧ Hid (Keep [q] w wr)) (fun iv _ => n - (intOf iv).toNat)
      case atStart => exact ⟨0, Nat.zero_le _, rfl, HRE, HOE, HIO, HKE⟩
      case round =>
        clear HRE HOE HIO HKE
        obtain ⟨k, hk, rfl, HR, HO, HI, HKW⟩ := hrel
        have hn19 := HAB.out.2.2.2.2
        by_cases hlt : k < n
        · have hk19 : k < 19 := by omega
          obtain ⟨bb, off, cp, hv, c1⟩ := HI.out.at k (by exact hk19)
          simp only [Value.slice.injEq, Option.some.injEq, Addr.mk.injEq] at hv
          obtain ⟨⟨rfl, rfl, -⟩, -, rfl⟩ := hv
          obtain ⟨y, hy⟩ : ∃ y, ordD.getD k 0 = y := ⟨_, rfl⟩
          have hy19 : y < 19 := by rw [← hy]; exact (ordI_at ⟨k, hk19⟩).2
          have hc : ordI[k] = (y : Int) := by
            have := (ordI_at ⟨k, hk19⟩).1
            rw [List.getD_eq_getElem?_getD, List.getElem?_eq_getElem (by exact hk19)] at this
            rw [← hy]; exact this
          rw [hc] at c1
          have hth : th17 s3 (k + 1) = ((th17 s3 k).1.set y (((th17 s3 k).2.bits 3).1 : Int), ((th17 s3 k).2.bits 3).2) := by rw [th17, hy]
          have hx8 := bits_lt3 (th17 s3 k).2
          have HB := Lib.hid (fun wx (h : Rr wx q v (th17 s3 k).2) => rbits_c wx q v (th17 s3 k).2 3 h)
          obtain ⟨⟨Tk, sk⟩, htk⟩ : ∃ x, th17 s3 k = x := ⟨_, rfl⟩
          have hlen : Tk.length = 19 := by have := th17_len s3 k; rw [htk] at this; exact this
          rw [htk] at hth hx8 HB HR HO
          dsimp only at hth hx8 HB HR HO
          obtain ⟨⟨x, sn⟩, hbx⟩ : ∃ z, sk.bits 3 = z := ⟨_, rfl⟩
          rw [hbx] at hth hx8 HB
          dsimp only at hth hx8 HB
          have HTH := Lib.hid hth
          have HLEN := Lib.hid hlen
          have hwx : IntKind.i64.wrap (x : Int) = x := by rw [IntKind.wrap_i64]; omega
          have wfx : (Lit.int .i64 (x : Int)).wf = true := by simp [Lit.wf, IntKind.min, IntKind.max, IntKind.bits, IntKind.signed]; omega
          have WFX := Lib.hid wfx
          have hwk : IntKind.i64.wrap ((k : Int) + 1) = ((k + 1 : Nat) : Int) := by rw [IntKind.wrap_i64]; omega
          have hgy := HGL.out
          have hqg : q < g := by have := HQ.out; omega
          have HQG := Lib.hid hqg
          clear hy hc hth hbx htk hx8 hlen wfx hgy hqg hn19
          rw [Nat.zero_add] at c1
          go_wp2_with fail
          have HD : Hid (Rr wr.drew q v sk) := HR.out.keep (Keep.refl [] wr).drew (by simp) (by simp)
          have HDB := Lib.hid (HB.out _ HD.out)
          have KD : Keep [] wr wr.drew := (Keep.refl [] wr).drew
          have HCELL : ∀ wx, Keep [q] wr.drew wx → wx.cell? ⟨g, y, none⟩ = some (.int .i64 (zn Tk y)) ∧ wx.frozen? ⟨g, y, none⟩ = false ∧ wx.cell? ⟨qo, k, none⟩ = some (.int .i64 (y : Int)) := fun wx hk => by
            have ho := (HO.out.keep KD (by simp)).keep hk (fun b hb hm => by simp [Value.ownBlock] at hb hm; have := HQG.out; omega)
            exact ⟨ho.cell y (by rw [HLEN.out]; exact hy19), ho.free y, hk.cell (KD.cell c1 (by simp)) (by have := HQG.out; have := HGQ.out; simp; omega)⟩
          have HCE := Lib.hid HCELL
          have hy19i : (y : Int) < 19 := by omega
          have hk19i : (k : Int) < 19 := by omega
          clear HCELL
          go_region_with (first | (go_at_call 39; (refine HDB.out.mono ?_); (rintro e w2 ⟨rfl, hr2, k2⟩); (obtain ⟨d1, d2, d3⟩ := HCE.out w2 k2)))
          all_goals
            go_wp2_with fail
            have HFIN : Hid (Rr (w2.setCell ⟨g, y, none⟩ (.int .i64 x)) q v (th17 s3 (k + 1)).2 ∧ OwnI (w2.setCell ⟨g, y, none⟩ (.int .i64 x)) (.slice (some ⟨g, 0, none⟩) 19 19) (th17 s3 (k + 1)).1 ∧ Is .i64 (w2.setCell ⟨g, y, none⟩ (.int .i64 x)) (.slice (some ⟨qo, 0, none⟩) 19 19) ordI ∧ Keep [q] w (w2.setCell ⟨g, y, none⟩ (.int .i64 x))) := by
              have kg : Keep [g] w2 (w2.setCell ⟨g, y, none⟩ (.int .i64 x)) := (Keep.refl [g] w2).setCell (.inl (by simp)) _
              have hqg := HQG.out
              have hgq := HGQ.out
              have hgl := HGL.out
              have hsn : sn.l = s.l := by have := th17_l s3 (k + 1); rw [HTH.out] at this; exact this.trans HL3.out
              refine ⟨?_, ?_, ?_, ?_⟩
              · rw [HTH.out]
                exact hr2.keep kg (by simp; omega) (fun hl b hb => by have := HVL.out (by rw [← hsn]; exact hl) b hb; simp; omega)
              · rw [HTH.out]
                have ho := (HO.out.keep KD (by simp)).keep k2 (fun b hb hm => by simp [Value.ownBlock] at hb hm; omega)
                exact ho.store y x WFX.out
              · exact ((HI.out.keep KD (by simp)).keep k2 (fun b hb hm => by simp [Value.ownBlock] at hb hm; omega)).keep kg (fun b hb hm => by simp [Value.ownBlock] at hb hm; omega)
              · exact ((HKW.out.trans KD (by simp)).trans k2 (fun _ h => .inl h)).setCell (.inr hgl) _
            go_roundw
            case rel => exact ⟨k + 1, by omega, by first | rfl | simp, HFIN.out.1, HFIN.out.2.1, HFIN.out.2.2.1, HFIN.out.2.2.2⟩
            case measure => simp [intOf]; omega
        · obtain rfl : k = n := by omega
          have h4 := H4.out
          rw [h4] at HR HO
          have HR4 : Hid (Rr wr q v s4) := HR.out
          have HO4 : Hid (OwnI wr (.slice (some ⟨g, 0, none⟩) 19 19) T) := HO.out
          have hlen : T.length = 19 := by have := th17_len s3 k; rw [h4] at this; exact this
          have HLEN := Lib.hid hlen
          have hE4 := HR4.out.E
          have c2 : wr.cell? ⟨q, 2, none⟩ = some (.int .i64 s4.err) := HR4.out.1.cell 2 _ rfl
          obtain ⟨E4, hE4'⟩ : ∃ E4, s4.err = E4 := ⟨_, rfl⟩
          rw [hE4'] at c2 hE4
          rw [hE4] at HK
          clear h4 hlen hE4 hE4' HR HO HI hlt hn19 hk w3 w6
          by_cases g4 : E4 = 0
          · subst g4
            have HCH := Lib.hid (refcheck_c wr _ T HO4.out.is)
            by_cases gc : chk T = 1
            · obtain ⟨m1, m2⟩ := chk_one gc
              have hwe : werr T = 0 := by unfold werr; rw [gc]; rfl
              have HL16 : Hid (∀ x ∈ Ln T, x ≤ 16) := may_Ln m1
              have HWT : Hid (wt (Ln T) ≤ 65536) := by unfold Hid; omega
              have HWO := Lib.hid (fun wx (h : Is .i64 wx (.slice (some ⟨g, 0, none⟩) 19 19) T) => refwords_ok wx _ T h hwe)
              have hk := (HK.out.2 rfl).2 gc
              have HK2 := Lib.hid hk
              rw [gc] at HCH
              clear gc m1 m2 hwe hk HK
              go_wp2_with fail
              refine HCH.out.mono ?_; rintro e w5 ⟨rfl, n5, rfl⟩
              have HW := Lib.hid (HWO.out (wr.drewN n5) (HO4.out.is.keep ((Keep.refl [] wr).drewN n5) (by simp)))
              have HR5 : Hid (Rr (wr.drewN n5) q v s4) := HR4.out.drewN n5
              have HK5 : Hid (Keep [q] w (wr.drewN n5)) := HKW.out.drewN n5
              clear HCH HWO HR4 HKW HO4 c2
              generalize wr.drewN n5 = w5 at *
              go_wp2_with fail
              refine HW.out.mono ?_; rintro e w6 ⟨vw, rfl, hcd, k6, hbw⟩
              have HR6 : Hid (Rr w6 q v s4) := HR5.out.keep k6 (by simp) (by simp)
              have HK6 : Hid (Keep [q] w w6) := HK5.out.trans k6 (by simp)
              obtain ⟨a1, a2, a3, a4, a5⟩ := HAB.out
              have hll := rlists17_c w6 q v vw s4 (Ln T) (a + b) HL16.out HWT.out (by rw [Ln_length, HLEN.out]; decide) (by omega) hcd (fun x hx => by have := hbw x hx; have := HK5.out.size; have := HQ.out; omega) HR6.out
              rw [H5.out] at hll
              dsimp only at hll
              have hal : Hid (er = 0 → al.length = a + b) := fun h0 => by have := ls17_len (Ln T) (a + b) (a + b + 1) [] s4 (by simp) (by rw [H5.out]; exact h0); rw [H5.out] at this; exact this
              obtain ⟨ab, hab⟩ : ∃ ab, a + b = ab := ⟨_, rfl⟩
              rw [hab] at hll
              have hw9 : IntKind.i64.wrap ((a : Int) + (b : Int)) = (ab : Int) := by rw [IntKind.wrap_i64]; omega
              have HLL := Lib.hid hll
              have HABB := Lib.hid hab
              clear hll hab HW HR5 HK5 hcd k6 hbw HR6 a1 a2 a3 a4 a5
              go_wp2_with fail
              refine HLL.out.mono ?_; rintro e w7 ⟨va, rfl, hoa, hr7, k7, hb7⟩
              have HR7 := Lib.hid hr7
              have HK7 : Hid (Keep [q] w w7) := HK6.out.trans k7 (fun _ h => .inl h)
              have HI7 := Lib.hid hoa.is
              clear HLL hoa hr7 k7 hb7 HK6
              by_cases ge : er = 0
              · subst ge
                have halen := hal.out rfl
                have HR2 := Lib.hid (HK2.out.2 rfl)
                clear HK2
                obtain ⟨v1, e1, i1, -⟩ := HI7.out.upto a (a : Int) rfl (by omega)
                obtain ⟨v2, e2, i2, -⟩ := HI7.out.from a (a : Int) rfl (by omega)
                have HI1 := Lib.hid i1; have HI2 := Lib.hid i2
                have HRI := Lib.hid (rright17_c w7.drew v1 v2 _ _ large (HI1.out.keep (Keep.refl [] w7).drew (by simp)) (HI2.out.keep (Keep.refl [] w7).drew (by simp)))
                obtain ⟨bz2, hbz2⟩ : ∃ z, right17 (al.take a) (al.drop a) large = z := ⟨_, rfl⟩
                rw [hbz2] at HRI HR2
                clear i1 i2 hbz2 halen hal
                have HKD : Hid (Keep [] w7 w7.drew) := (Keep.refl [] w7).drew
                go_wp2_with fail
                go_still_tail 7, (by kernel_rfl)
                change wpList _ _ _ _ _ w7.drew
                generalize w7.drew = wz at *
                go_wp2_with fail
                refine HRI.out.mono ?_; rintro e w8 ⟨rfl, n8, rfl⟩
                have hkz : Keep [] w7 (wz.drewN n8) := HKD.out.drewN n8
                have HR8 : Hid (Rr (wz.drewN n8) q v s5) := HR7.out.keep hkz (by simp) (by simp)
                have HK8 : Hid (Keep [q] w (wz.drewN n8)) := HK7.out.trans hkz (by simp)
                have HI18 : Hid (Is .i64 (wz.drewN n8) v1 (al.take a)) := HI1.out.keep hkz (by simp)
                have HI28 : Hid (Is .i64 (wz.drewN n8) v2 (al.drop a)) := HI2.out.keep hkz (by simp)
                clear HRI HR7 HK7 HI1 HI2 HI7 hkz HKD
                generalize wz.drewN n8 = w8 at *
                cases bz2 with
                | true =>
                  have HR3 : Hid (R = (al.take a, al.drop a, 0, s5)) := by have := HR2.out; rw [if_neg (by simp)] at this; exact this
                  clear HR2
                  go_wp2_with fail
                  go_quiet (fail)
                  go_wp2_with fail
                  go_ret3
                  rw [HR3.out]
                  exact ⟨_, _, rfl, HI18.out.keep ((Keep.refl [] w8).drewN _) (by simp), HI28.out.keep ((Keep.refl [] w8).drewN _) (by simp), HR8.out.drewN _, HK8.out.drewN _⟩
                | false =>
                  have HR3 : Hid (R = ([], [], 6, s5)) := by have := HR2.out; rw [if_pos rfl] at this; exact this
                  clear HR2
                  go_wp2_with fail
                  go_ret3
                  rw [HR3.out]
                  exact ⟨_, _, rfl, Is.nil64 _, Is.nil64 _, HR8.out, HK8.out⟩
              · have t7 : ((er : Int) != 0) = true := by simp; omega
                have HR2 := Lib.hid (HK2.out.1 ge)
                clear HK2 ge hal
                go_wp2_with fail
                go_ret3
                rw [HR2.out]
                exact ⟨_, _, rfl, Is.nil64 _, Is.nil64 _, HR7.out, HK7.out⟩
            · have HR2 := Lib.hid ((HK.out.2 rfl).1 gc)
              have tc : ((chk T : Int) != 1) = true := by simp; omega
              obtain ⟨ck, hck⟩ : ∃ ck, chk T = ck := ⟨_, rfl⟩
              rw [hck] at HCH tc
              clear HK gc hck
              go_wp2_with fail
              refine HCH.out.mono ?_; rintro e w5 ⟨rfl, n5, rfl⟩
              have HR5 : Hid (Rr (wr.drewN n5) q v s4) := HR4.out.drewN n5
              have HK5 : Hid (Keep [q] w (wr.drewN n5)) := HKW.out.drewN n5
              clear HCH HR4 HKW HO4 c2
              generalize wr.drewN n5 = w5 at *
              go_wp2_with fail
              go_ret3
              rw [HR2.out]
              exact ⟨_, _, rfl, Is.nil64 _, Is.nil64 _, HR5.out, HK5.out⟩
          · have t4 : ((E4 : Int) != 0) = true := by simp; omega
            have HR2 := Lib.hid (HK.out.1 g4)
            clear HK g4
            go_wp2_with fail
            go_quiet (fail)
            go_wp2_with fail
            go_ret3
            rw [HR2.out]
            exact ⟨_, _, rfl, Is.nil64 _, Is.nil64 _, HR4.out.drewN _, HKW.out.drewN _⟩
  · have t1 : ((E3 : Int) != 0) = true := by simp; omega
    have HR := Lib.hid (K1.out g3)
    clear K1 K2 K3 g3
    go_wp2_with fail
    go_quiet (fail)
    go_wp2_with fail
    go_ret3
    rw [HR.out]
    exact ⟨_, _, rfl, Is.nil64 _, Is.nil64 _, HRC.out.drewN _, HKC.out.drewN _⟩
end Go.Proofs.YtibkepjbblfkoaaGreatDoor
namespace Go.Proofs.YtibkepjbblfkoaaGreatDoor
set_option linter.unusedVariables false
set_option linter.unusedSimpArgs false
open Go.ChangeShapes Go.WideShapes Go.ChangeAt Go.RowKit

theorem bits_l15 (r : RS) (n : Int) : (r.bits n).2.l = r.l := by
  unfold RS.bits RS.fail
  repeat' split
  all_goals rfl
def Ob.rr (q : Nat) (v : Value) (s : RS) : Ob := Ob.box q #[v, .int .i64 s.pos, .int .i64 s.err] 38
/-- a reader of these bytes of the old memory -/
def Fr (W : World) (v : Value) (l : List UInt8) (s : RS) : Prop := Bs W v l ∧ s.l = l ∧ s.ok ∧ s.made = true
theorem Fr.E {W : World} {v : Value} {l : List UInt8} {s : RS} (h : Fr W v l s) : s.E = s.err := by simp [RS.E, h.2.2.2]
theorem St.rr {W w : World} {Ps : List Ob} (h : St W w Ps) (i : Nat) {q : Nat} {v : Value} {s : RS} {l : List UInt8} (hi : Ps[i]? = some (Ob.rr q v s)) (hf : Fr W v l s) : Rr w q v s := by
  obtain ⟨h1, h2, h3, h4⟩ := hf
  subst h2
  have := h.own i hi
  exact ⟨h.blk i hi, h1.keep h.kp (by simp), h3, h4, fun hl b hb => by have := h1.lt hl b hb; omega⟩
theorem St.setRr {W w w' : World} {Ps : List Ob} (h : St W w Ps) (i : Nat) {q : Nat} {v : Value} {s s' : RS} {l : List UInt8} (hi : Ps[i]? = some (Ob.rr q v s)) (hf : Fr W v l s) (hr : Rr w' q v s') (hk : Keep [q] w w') (hl : s'.l = s.l) : St W w' (Ps.set i (Ob.rr q v s')) ∧ Fr W v l s' := by
  obtain ⟨bs, ⟨rfl, h1⟩, h2, h3⟩ := h.focus i hi
  exact ⟨h3 w' (Ob.rr q v s') [q] ⟨rfl, hr.1⟩ hk (fun b hb => .inl hb), hf.1, hl.trans hf.2.1, hr.2.2.1, hr.2.2.2.1⟩
theorem st_rbits {W w : World} {Ps : List Ob} (h : St W w Ps) (i : Nat) {q : Nat} {v : Value} {s : RS} {l : List UInt8} (hi : Ps[i]? = some (Ob.rr q v s)) (hf : Fr W v l s) (n : Int) : Calls Tryz.prog 39 #[.pointer (some ⟨q, 0, none⟩), .int .i64 n] w fun e w' =>
    e = .returned (.int .u32 (s.bits n).1) ∧ St W w' (Ps.set i (Ob.rr q v (s.bits n).2)) ∧ Fr W v l (s.bits n).2 := by
  refine (rbits_c w q v s n (h.rr i hi hf)).mono ?_
  rintro e w' ⟨he, hr, hk⟩
  exact ⟨he, h.setRr i hi hf hr hk (bits_l15 s n)⟩
theorem st_rleft {W w : World} {Ps : List Ob} (h : St W w Ps) (i : Nat) {q : Nat} {v : Value} {s : RS} {l : List UInt8} (hi : Ps[i]? = some (Ob.rr q v s)) (hf : Fr W v l s) : Calls Tryz.prog 59 #[.pointer (some ⟨q, 0, none⟩)] w fun e w' => e = .returned (.int .i64 s.left) ∧ ∃ n, w' = w.drewN n :=
  rleft_c w q v s (h.rr i hi hf)
/-- the reader's cells -/
theorem St.rrCell {W w : World} {Ps : List Ob} (h : St W w Ps) (i : Nat) {q : Nat} {v : Value} {s : RS} (hi : Ps[i]? = some (Ob.rr q v s)) : w.cell? ⟨q, 2, none⟩ = some (.int .i64 s.err) := (h.blk i hi).cell 2 _ rfl
def Ob.cds (v : Value) (L : List Nat) : Ob where
  P w bs := bs = v.ownBlock.toList ∧ Cds6 w v L ∧ ∀ b, v.ownBlock = some b → b < w.heap.size
  keep := fun ⟨h1, h2, h3⟩ k hb => ⟨h1, Sts.keep h2 k (fun b hb' => hb b (by rw [h1]; simp [hb'])), fun b hb' => by have := h3 b hb'; have := k.size; omega⟩
  lt := fun {w bs} ⟨h1, h2, h3⟩ b hb => by subst h1; exact h3 b (by simpa using hb)
theorem Cds6.lt {w : World} {v : Value} {L : List Nat} (h : Cds6 w v L) (h0 : L ≠ [] ∨ v = .slice none 0 0) : ∀ b, v.ownBlock = some b → b < w.heap.size := by
  intro b hb
  rcases h0 with h0 | h0
  · have hl : 0 < L.length := by cases L; exact absurd rfl h0; simp
    obtain ⟨b', off, cap, rfl, c1, _⟩ := h.at 0 hl
    have : b' = b := by simpa [Value.ownBlock] using hb
    subst this
    exact World.block_lt_of_cell? w _ c1
  · subst h0; simp [Value.ownBlock] at hb
theorem St.cds {W w : World} {Ps : List Ob} (h : St W w Ps) (i : Nat) {v : Value} {L : List Nat} (hi : Ps[i]? = some (Ob.cds v L)) : Cds6 w v L ∧ ∀ b, v.ownBlock = some b → W.heap.size ≤ b := by
  obtain ⟨bs, ⟨rfl, h1, _⟩, h2⟩ := h.get i hi; exact ⟨h1, fun b hb => h2 b (by simpa using hb)⟩
end Go.Proofs.YtibkepjbblfkoaaGreatDoor
namespace Go.Proofs.YtibkepjbblfkoaaGreatDoor
set_option linter.unusedVariables false
set_option linter.unusedSimpArgs false
open Go.ChangeShapes Go.WideShapes Go.ChangeAt Go.RowKit

theorem toBits_b8 (l : List UInt8) : toBits l = b8 l := by
  induction l with
  | nil => rfl
  | cons x l ih => rw [b8_cons, ← ih]; rfl
theorem b8_length (l : List UInt8) : (b8 l).length = 8 * l.length := by rw [← toBits_b8, toBits_length]
theorem pad8_same (bs : List Bool) (h : bs.length % 8 = 0) : pad8 bs = bs := by
  unfold pad8; rw [h]; simp
end Go.Proofs.YtibkepjbblfkoaaGreatDoor
namespace Go.Proofs.YtibkepjbblfkoaaGreatDoor
set_option linter.unusedVariables false
set_option linter.unusedSimpArgs false
set_option maxRecDepth 100000
open Go.ChangeShapes Go.WideShapes Go.ChangeAt Go.RowKit

/-- a slice of numbers that isn't empty -/
def Ob.is (v : Value) (l : List Int) : Ob where
  P w bs := bs = v.ownBlock.toList ∧ Is .i64 w v l ∧ l ≠ []
  keep := fun ⟨h1, h2, h3⟩ k hb => ⟨h1, h2.keep k (fun b hb' => hb b (by rw [h1]; simp [hb'])), h3⟩
  lt := fun {w bs} ⟨h1, h2, h3⟩ b hb => by
    subst h1
    obtain ⟨bb, off, cp, hv, hc⟩ := h2.at 0 (List.length_pos_iff.2 h3)
    rw [hv] at hb
    simp [Value.ownBlock] at hb
    subst hb
    exact World.block_lt_of_cell? w _ hc
/-- a row of numbers of one's own -/
def Ob.rowI (v : Value) (l : List Int) : Ob where
  P w bs := bs = v.ownBlock.toList ∧ OwnI w v l
  keep := fun ⟨h1, h2⟩ k hb => ⟨h1, h2.keep k (fun b hb' => hb b (by rw [h1]; simp [hb']))⟩
  lt := fun {w bs} ⟨h1, h2⟩ b hb => by subst h1; exact h2.lt b (by simpa using hb)
theorem St.is {W w : World} {Ps : List Ob} (h : St W w Ps) (i : Nat) {v : Value} {l : List Int} (hi : Ps[i]? = some (Ob.is v l)) : Is .i64 w v l := by
  obtain ⟨bs, ⟨_, h1, _⟩, _⟩ := h.get i hi; exact h1
theorem St.rowI {W w : World} {Ps : List Ob} (h : St W w Ps) (i : Nat) {v : Value} {l : List Int} (hi : Ps[i]? = some (Ob.rowI v l)) : OwnI w v l := by
  obtain ⟨bs, ⟨_, h1⟩, _⟩ := h.get i hi; exact h1
theorem St.setRowI {W w : World} {Ps : List Ob} (h : St W w Ps) (i : Nat) {g n cap : Nat} {l : List Int} (hi : Ps[i]? = some (Ob.rowI (.slice (some ⟨g, 0, none⟩) n cap) l)) (j : Nat) (x : Int) (hx : (Lit.int .i64 x).wf = true) : St W (w.setCell ⟨g, j, none⟩ (.int .i64 x)) (Ps.set i (Ob.rowI (.slice (some ⟨g, 0, none⟩) n cap) (l.set j x))) := by
  obtain ⟨bs, ⟨rfl, h1⟩, h2, h3⟩ := h.focus i hi
  exact h3 _ _ [g] ⟨rfl, h1.store j x hx⟩ ((Keep.refl _ w).setCell (.inl (by simp [Value.ownBlock])) _) (fun b hb => .inl (by simpa [Value.ownBlock] using hb))
theorem hd3_succ (T : List Int) (n : Nat) : hd3 T (n + 1) = hd3 T n ++ bitsOf (T.getD (ordD.getD n 0) 0).toNat 3 := by
  unfold hd3; rw [List.range_succ, List.flatMap_append]; simp
theorem set3_skip (T : List Int) (k y : Nat) (hy : y < 19) (hk : ordD.getD k 0 = y) (h0 : T.getD y 0 = 0) : set3 T (k + 1) = set3 T k := by
  rw [set3, hk, h0]
  apply List.ext_getElem?
  intro j
  by_cases e : y = j
  · subst e
    rw [List.getElem?_set_self (by rw [set3_len]; exact hy)]
    have := set3_at T k y hy
    rw [h0] at this
    have h2 : (set3 T k).getD y 0 = 0 := by rw [this]; split <;> rfl
    rw [List.getD_eq_getElem?_getD, List.getElem?_eq_getElem (by rw [set3_len]; exact hy)] at h2
    rw [List.getElem?_eq_getElem (by rw [set3_len]; exact hy)]
    exact congrArg some h2.symm
  · rw [List.getElem?_set_ne e]
theorem plT_at (y : Nat) (h : y < 19) : plT.getD y 0 = if y < 16 then 4 else 0 := by
  have : ∀ y : Fin 19, plT.getD y.val 0 = if y.val < 16 then 4 else 0 := by decide
  exact this ⟨y, h⟩
theorem plT_werr : werr plT = 0 := by decide +kernel
/-- words of a canonical code -/
def Ob.cds4 (v : Value) (L : List Nat) : Ob where
  P w bs := bs = v.ownBlock.toList ∧ Cds w v L ∧ L ≠ []
  keep := fun ⟨h1, h2, h3⟩ k hb => ⟨h1, h2.keep k (fun b hb' => hb b (by rw [h1]; simp [hb'])), h3⟩
  lt := fun {w bs} ⟨h1, h2, h3⟩ b hb => by
    subst h1
    obtain ⟨bb, off, cp, hv, hc, _⟩ := h2.at 0 (List.length_pos_iff.2 h3)
    rw [hv] at hb
    simp [Value.ownBlock] at hb
    subst hb
    exact World.block_lt_of_cell? w _ hc
theorem St.cds4 {W w : World} {Ps : List Ob} (h : St W w Ps) (i : Nat) {v : Value} {L : List Nat} (hi : Ps[i]? = some (Ob.cds4 v L)) : Cds w v L := by
  obtain ⟨bs, ⟨_, h1, _⟩, _⟩ := h.get i hi; exact h1
/-- a length's plain word -/
def pl17 (z : Int) : List Bool := bitsOf (code (Ln plT) z.toNat) 4
theorem pl17_len (l : List Int) : (l.flatMap pl17).length = 4 * l.length := by
  induction l with
  | nil => rfl
  | cons z l ih => rw [List.flatMap_cons, List.length_append, ih, pl17, bitsOf_length, List.length_cons]; omega
theorem pl17_take (l : List Int) (k : Nat) (h : k < l.length) : (l.take (k + 1)).flatMap pl17 = (l.take k).flatMap pl17 ++ pl17 l[k] := by
  rw [List.take_succ_eq_append_getElem h, List.flatMap_append]; simp
theorem wb17_plain (lit dist : List Int) (a1 : ∀ z ∈ lit, 0 ≤ z ∧ z ≤ 15) (a2 : ∀ z ∈ dist, 0 ≤ z ∧ z ≤ 15) :
    wb17 lit.length dist.length 19 plT (plTs lit ++ plTs dist) = ((((bitsOf (lit.length - 257) 5 ++ bitsOf (dist.length - 1) 5) ++ bitsOf 15 4) ++ hd3 plT 19) ++ lit.flatMap pl17) ++ dist.flatMap pl17 := by
  have e1 := plTs_bits lit a1
  have e2 := plTs_bits dist a2
  unfold wb17
  rw [List.flatMap_append, e1, e2, ← List.append_assoc]
  rfl
/-- any length's plain word -/
def plg (z : Int) : List Bool := pl17 (clz z)
theorem plg_len (l : List Int) : (l.flatMap plg).length = 4 * l.length := by
  have := pl17_len (l.map clz)
  rw [List.flatMap_map, List.length_map] at this; exact this
theorem plg_take (l : List Int) (k : Nat) (h : k < l.length) : (l.take (k + 1)).flatMap plg = (l.take k).flatMap plg ++ plg l[k] := by
  rw [List.take_succ_eq_append_getElem h, List.flatMap_append]; simp
theorem wb17_plain_g (lit dist : List Int) :
    wb17 lit.length dist.length 19 plT (plTs (lit.map clz) ++ plTs (dist.map clz)) = ((((bitsOf (lit.length - 257) 5 ++ bitsOf (dist.length - 1) 5) ++ bitsOf 15 4) ++ hd3 plT 19) ++ lit.flatMap plg) ++ dist.flatMap plg := by
  have := wb17_plain (lit.map clz) (dist.map clz) (clz_in lit) (clz_in dist)
  rw [List.length_map, List.length_map, List.flatMap_map, List.flatMap_map] at this; exact this
end Go.Proofs.YtibkepjbblfkoaaGreatDoor
namespace Go.Proofs.YtibkepjbblfkoaaGreatDoor
set_option maxRecDepth 100000
set_option linter.unusedVariables false
set_option linter.unusedSimpArgs false
open Go.ChangeShapes Go.WideShapes Go.ChangeAt Go.RowKit

/-- an array by lengths -/
def BL (f : Nat → Nat) : Array Value := ((List.range 17).map fun n => Value.int .i64 (f n)).toArray
theorem BL_size (f : Nat → Nat) : (BL f).size = 17 := by simp [BL]
theorem BL_get (f : Nat → Nat) (n : Nat) (h : n < 17) : (BL f)[n]? = some (.int .i64 (f n)) := by
  simp [BL, List.getElem?_range h]
theorem BL_eq {cs : Array Value} {f : Nat → Nat} (hs : cs.size = 17) (h : ∀ n, n < 17 → cs[n]? = some (.int .i64 (f n))) : cs = BL f := by
  apply Array.ext_getElem?
  intro i
  by_cases hi : i < 17
  · rw [h i hi, BL_get f i hi]
  · rw [Array.getElem?_eq_none (by omega), Array.getElem?_eq_none (by rw [BL_size]; omega)]
theorem BL_set (f : Nat → Nat) (n : Nat) (y : Nat) (h : n < 17) : (BL f).setIfInBounds n (.int .i64 y) = BL fun i => if i = n then y else f i := by
  refine BL_eq (by simp [BL_size]) fun i hi => ?_
  rw [Array.getElem?_setIfInBounds, BL_size]
  by_cases e : n = i
  · subst e; simp [h]
  · rw [if_neg e, BL_get f i hi, if_neg (fun h => e h.symm)]
theorem BL_one (f : Nat → Nat) : ∀ v ∈ (BL f).toList, v.oneCell' = true := by
  intro v hv
  simp only [BL, List.mem_map] at hv
  obtain ⟨n, _, rfl⟩ := hv
  rfl
theorem BL_zero : BL (fun _ => 0) = Array.replicate 17 (.int .i64 0) := rfl
theorem lenInfo : (Tryz.prog.info? 91).map (fun i => (i.zero, i.size)) = some (some (.agg (Array.replicate 17 (.int .i64 0))), 17) := by kernel_rfl
theorem lenSize : (Tryz.prog.info? 91).map (·.size) = some 17 := by kernel_rfl
theorem wpList_loadL {ops : Array Oper} {rest : List Oper} {o : Oper} {a : Act} {w : World} {Q : Exit → Act → World → Prop} (hgd : o.guard = none) (x : Operand) (ho : o.op = .load 91 x)
    (g : Nat) (hx : a.eval x = .pointer (some ⟨g, 0, none⟩)) (f : Nat → Nat) (hb : Blk w g (BL f) 91)
    (h : wpList Tryz.prog ops Q rest (a.put o.dst (.agg (BL f))) w) : wpList Tryz.prog ops Q (o :: rest) a w :=
  wpList_load_row hgd 91 x ho g hx _ _ _ _ hb Tryz.underlying91 rfl (by rw [BL_size]; exact lenSize) h
theorem wpList_storeL {ops : Array Oper} {rest : List Oper} {o : Oper} {a : Act} {w : World} {Q : Exit → Act → World → Prop} (hgd : o.guard = none) (x y : Operand) (ho : o.op = .store 91 x y)
    (g : Nat) (f : Nat → Nat) (hx : a.eval x = .pointer (some ⟨g, 0, none⟩)) (hy : a.eval y = .agg (BL f)) (t : TypeId) (old : Array Value) (hb : Blk w g old t) (hold : old.size = 17)
    (h : wpList Tryz.prog ops Q rest (a.put o.dst undef) (w.setRow g (BL f))) : wpList Tryz.prog ops Q (o :: rest) a w :=
  wpList_store_row hgd 91 x y ho g _ hx hy t old hb (by rw [BL_size]; exact lenSize) (by rw [hold, BL_size]) (Array.all_eq_true_iff_forall_mem.2 fun v hv => BL_one f v (by simpa using hv)) h
theorem results_cellL {fn : Func} {p : Tmp} (h : fn.results = #[.cell p 91]) (tmps : Array Value) {w : World} {g : Nat} {f : Nat → Nat} (hp : tmps.getD p undef = .pointer (some ⟨g, 0, none⟩)) (hb : Blk w g (BL f) 91) :
    (results fn tmps).run Tryz.prog w = .ok (.agg (BL f)) w :=
  results_cellA h tmps hp hb _ Tryz.underlying91 rfl (by rw [BL_size]; exact lenSize)
/-- how many words have each length -/
def cnt (L : List Nat) (n : Nat) : Nat := if n = 0 then 0 else L.count n
/-- how many words are shorter -/
def stt (L : List Nat) : Nat → Nat
  | 0 => 0
  | n + 1 => stt L n + cnt L n
theorem cnt_le (L : List Nat) (n : Nat) : cnt L n ≤ L.length := by unfold cnt; split; omega; exact List.count_le_length
theorem stt_le (L : List Nat) (n : Nat) : stt L n ≤ n * L.length := by
  induction n with
  | zero => simp [stt]
  | succ n ih => have := cnt_le L n; rw [stt, Nat.add_mul]; omega
theorem canmaybe_c (w : World) (v : Value) (zs : List Int) (h : Is .i64 w v zs) : Calls Tryz.prog 51 #[v] w fun e w' => e = .returned (.bool (mayB zs)) ∧ ∃ n, w' = w.drewN n := by
  have hl := h.len
  have HI := Lib.hid (fun i hi => h.at i hi)
  obtain ⟨a, cap, rfl, _, _⟩ := h.shape
  by_cases hbig : 4096 < zs.length
  · have hb : mayB zs = false := by rw [Bool.eq_false_iff]; intro hm; have := (may_iff zs).1 hm; omega
    rw [hb]
    clear hb h
    go_enter Tryz.func51, Tryz.ntmps51
    go_wp2
    go_ret
    exact ⟨rfl, 0, rfl⟩
  clear h
  go_enter Tryz.func51, Tryz.ntmps51
  go_wp2_with fail
  go_loopw [10] (fun i wr => ∃ k : Nat, k ≤ zs.length ∧ i = .int .i64 k ∧ Hid (∀ j (hj : j < zs.length), j < k → 0 ≤ zs[j] ∧ zs[j] ≤ 16) ∧ ∃ n, wr = w.drewN n) (fun i _ => zs.length - (intOf i).toNat)
  case atStart => exact ⟨0, by omega, rfl, fun j _ hj => by omega, 0, rfl⟩
  case round =>
    obtain ⟨k, hk, rfl, HR, n, rfl⟩ := hrel
    by_cases hlt : k < zs.length
    · obtain ⟨b, off, cap', hv, e1⟩ := HI.out k hlt
      simp only [Value.slice.injEq] at hv
      obtain ⟨rfl, hvv, rfl⟩ := hv
      clear hvv
      by_cases hbad : zs[k] < 0 ∨ 16 < zs[k]
      · have hc := Lib.hid (bad_at k hlt hbad)
        generalize zs[k] = z at e1 hbad
        by_cases hneg : z < 0
        · clear hbad
          go_wp2_with fail
          go_ret
          exact ⟨by rw [hc.out]; rfl, _, rfl⟩
        · have : 16 < z := by omega
          clear hbad
          go_wp2_with fail
          go_ret
          exact ⟨by rw [hc.out]; rfl, _, rfl⟩
      · have HR2 : Hid (∀ j (hj : j < zs.length), j < k + 1 → 0 ≤ zs[j] ∧ zs[j] ≤ 16) := by
          intro j hj hjk
          by_cases e : j = k
          · subst e; omega
          · exact HR.out j hj (by omega)
        generalize zs[k] = z at e1 hbad
        have h1 : 0 ≤ z := by omega
        have h2 : z ≤ 16 := by omega
        clear hbad HR
        go_wp2_with fail
        go_roundw
        case rel => exact ⟨k + 1, by omega, by go_num, HR2, _, rfl⟩
        case measure => simp [intOf]; omega
    · obtain rfl : k = zs.length := by omega
      have hm : mayB zs = true := (may_iff zs).2 ⟨by omega, fun z hz => by
        obtain ⟨j, hj, rfl⟩ := List.getElem_of_mem hz
        exact HR.out j hj hj⟩
      have HM := Lib.hid hm
      clear hm HR
      go_wp2_with fail
      go_ret
      exact ⟨by rw [HM.out]; rfl, _, rfl⟩

theorem acc_le (zs : List Int) (hm : mayB zs = true) (n : Nat) (hn : n ≤ 16) : acc (Ln zs) n ≤ 4096 * 32768 := by
  have h1 := acc_mono (Ln zs) n 16 hn
  rw [acc16 _ (may_Ln hm)] at h1
  have := wt_le zs 4096 ((may_iff zs).1 hm).1
  omega
theorem fst_le (zs : List Int) (hm : mayB zs = true) (n : Nat) (hn : n ≤ 16) : fst (Ln zs) n ≤ 4096 * 32768 := by
  cases n with
  | zero => simp [fst]
  | succ n =>
    have h1 := fst_acc (Ln zs) n (by omega)
    have h2 := acc_le zs hm n (by omega)
    have h3 : 0 < 2 ^ (16 - (n + 1)) := Nat.pow_pos (by decide)
    have := Nat.le_mul_of_pos_right (fst (Ln zs) (n + 1)) h3
    omega
set_option maxHeartbeats 2000000 in
theorem counts_c (w : World) (v : Value) (zs : List Int) (h : Is .i64 w v zs) (hm : mayB zs = true) : Calls Tryz.prog 47 #[v] w fun e w' => e = .returned (.agg (BL (cnt (Ln zs)))) ∧ Keep [] w w' := by
  have hz := (zero_of_info (P := Tryz.prog) lenInfo).1
  have hsz := (zero_of_info (P := Tryz.prog) lenInfo).2
  rw [← BL_zero] at hz
  have hl := ((may_iff zs).1 hm).1
  have HM := Lib.hid (may_get hm)
  have KA : Keep [] w ((w.alloc (.cells (BL fun _ => 0) 91)).alloc (.cells (BL fun _ => 0) 91)) := ((Keep.refl [] w).alloc _).alloc _
  have HI := Lib.hid (fun i hi => h.at i hi)
  obtain ⟨a, cap, rfl, _, _⟩ := h.shape
  have hb0 : Blk ((w.alloc (.cells (BL fun _ => 0) 91)).alloc (.cells (BL fun _ => 0) 91)) w.heap.size (BL fun _ => 0) 91 := (Blk.new w _ _).alloc _
  have hb1 : Blk ((w.alloc (.cells (BL fun _ => 0) 91)).alloc (.cells (BL fun _ => 0) 91)) (w.heap.size + 1) (BL fun _ => 0) 91 := by
    have := Blk.new (w.alloc (.cells (BL fun _ => 0) 91)) (BL fun _ => 0) 91
    simpa using this
  clear h
  generalize hZ : BL (fun _ => 0) = Z at hz hb0 hb1 KA HI
  have HZ := Lib.hid hZ
  have HS := Lib.hid hsz
  clear hZ hsz
  go_enter Tryz.func47, Tryz.ntmps47
  go_wp2_with fail
  go_loopw [8] (fun i wr => ∃ k : Nat, k ≤ zs.length ∧ i = .int .i64 k ∧ Blk wr (w.heap.size + 1) (BL fun n => ((Ln zs).take k).count n) 91 ∧ Blk wr w.heap.size Z 91 ∧ Keep [] w wr) (fun i _ => zs.length - (intOf i).toNat)
  case atStart => exact ⟨0, by omega, rfl, by simpa [HZ.out] using hb1, hb0, KA⟩
  case round =>
    obtain ⟨k, hk, rfl, h1, h0, KK⟩ := hrel
    by_cases hlt : k < zs.length
    · obtain ⟨b, off, cap', hv, e1⟩ := HI.out k hlt
      simp only [Value.slice.injEq] at hv
      obtain ⟨rfl, hvv, rfl⟩ := hv
      obtain ⟨hz1, hz2⟩ := HM.out k hlt
      have hsn : (Ln zs).take (k + 1) = (Ln zs).take k ++ [len (Ln zs) k] := by
        have hk2 : k < (Ln zs).length := by rw [Ln_length]; exact hlt
        rw [List.take_succ_eq_append_getElem hk2, len_get _ _ hk2]
      rw [hz1] at e1
      have e2 := KK.cellW e1
      have c1 := h1.cell (len (Ln zs) k) _ (BL_get _ _ (by omega))
      have f1 := h1.free (len (Ln zs) k)
      have hcl : ((Ln zs).take k).count (len (Ln zs) k) ≤ k := Nat.le_trans List.count_le_length (by rw [List.length_take]; omega)
      have hs1 := h1.set (len (Ln zs) k) (.int .i64 (((Ln zs).take k).count (len (Ln zs) k) + 1 : Nat))
      rw [BL_set _ _ _ (by omega)] at hs1
      have he : (BL fun i => if i = len (Ln zs) k then ((Ln zs).take k).count (len (Ln zs) k) + 1 else ((Ln zs).take k).count i) = BL fun n => ((Ln zs).take (k + 1)).count n := by
        congr 1; funext i
        rw [hsn, List.count_append]
        by_cases e : i = len (Ln zs) k
        · subst e; simp
        · rw [if_neg e]; simp [List.count_cons, Ne.symm e]
      rw [he] at hs1
      have h0' : Blk (wr.setCell ⟨w.heap.size + 1, len (Ln zs) k, none⟩ (.int .i64 (((Ln zs).take k).count (len (Ln zs) k) + 1 : Nat))) w.heap.size Z 91 := h0.other (by simp) _
      have KK' : Keep [] w (wr.setCell ⟨w.heap.size + 1, len (Ln zs) k, none⟩ (.int .i64 (((Ln zs).take k).count (len (Ln zs) k) + 1 : Nat))) := KK.setCell (.inr (by simp)) _
      generalize ((Ln zs).take k).count (len (Ln zs) k) = cc at c1 hcl hs1 h0' KK'
      generalize len (Ln zs) k = z at *
      clear hvv hz1 hsn he e1
      go_wp2_with fail
      go_roundw
      case rel => exact ⟨k + 1, by omega, by go_num, hs1, h0', KK'⟩
      case measure => simp [intOf]; omega
    · obtain rfl : k = zs.length := by omega
      rw [List.take_of_length_le (by rw [Ln_length]; omega)] at h1
      have f1 := h1.free 0
      have c1 := h1.cell 0 _ (BL_get _ _ (by omega))
      have hs1 := h1.set 0 (.int .i64 (0 : Nat))
      rw [BL_set _ _ _ (by omega)] at hs1
      have h0' : Blk (wr.setCell ⟨w.heap.size + 1, 0, none⟩ (.int .i64 (0 : Nat))) w.heap.size Z 91 := h0.other (by simp) _
      have KK' : Keep [] w (wr.setCell ⟨w.heap.size + 1, 0, none⟩ (.int .i64 (0 : Nat))) := KK.setCell (.inr (by simp)) _
      have he : (BL fun i => if i = 0 then 0 else (Ln zs).count i) = BL (cnt (Ln zs)) := rfl
      rw [he] at hs1
      have hb2 := h0'.setRow (BL (cnt (Ln zs)))
      have K2 : Keep [] w ((wr.setCell ⟨w.heap.size + 1, 0, none⟩ (.int .i64 (0 : Nat))).setRow w.heap.size (BL (cnt (Ln zs)))) := KK'.trans (Keep.setRow _) (by simp)
      have hz17 : Z.size = 17 := by rw [← HZ.out, BL_size]
      clear hb0 hb1 KA h1 h0 KK KK' HI he
      go_wp2_with (first | refine wpList_loadL rfl _ rfl _ rfl _ hs1 ?_ | refine wpList_storeL rfl _ _ rfl _ _ rfl rfl _ _ h0' hz17 ?_)
      refine bodyPost_ret (results_cellL rfl _ rfl hb2) rfl ?_
      exact ⟨rfl, K2⟩
set_option maxHeartbeats 2000000 in
theorem weight_c (w : World) (L : List Nat) (hb : ∀ n, n ≤ 16 → acc L n ≤ 4096 * 32768) (hL : L.length ≤ 4096) : Calls Tryz.prog 52 #[.agg (BL (cnt L))] w fun e w' => e = .returned (.int .i64 (acc L 16)) ∧ Keep [] w w' := by
  have HB := Blk.new w (BL (cnt L)) 91
  have KA : Keep [] w (w.alloc (.cells (BL (cnt L)) 91)) := (Keep.refl [] w).alloc _
  have HC := Lib.hid (cnt_le L)
  have HA := Lib.hid hb
  go_enter Tryz.func52, Tryz.ntmps52
  go_wp2_with (refine wpList_loadL rfl _ rfl _ rfl _ HB ?_)
  generalize w.alloc (.cells (BL (cnt L)) 91) = wA at HB KA ⊢
  have HI := Lib.hid (fun (w : World) (k : Nat) (hk : k < 17) => run_index_arr (P := Tryz.prog) w 91 3 17 .i64 _ _ .i64 k _ Tryz.underlying91 Tryz.underlying3 rfl rfl hk (BL_get (cnt L) k hk))
  go_loopw [3, 7] (fun x i wr => ∃ k y : Nat, k ≤ 17 ∧ i = .int .i64 k ∧ x = .int .i64 y ∧ y ≤ 4096 * 32768 ∧ Hid (y = acc L (k - 1)) ∧ ∃ n, wr = wA.drewN n) (fun _ i _ => 17 - (intOf i).toNat)
  case atStart => exact ⟨0, 0, by omega, rfl, rfl, by omega, rfl, 0, rfl⟩
  case round =>
    obtain ⟨k, y, hk, rfl, rfl, hy, HY, n, rfl⟩ := hrel
    by_cases hlt : k < 17
    · have hi := HI.out (wA.drewN n) k hlt
      have hc := HC.out k
      have hn : acc L k = y + cnt L k * 2 ^ (16 - k) := by
        rw [HY.out]
        cases k with
        | zero => simp [acc, cnt]
        | succ k => rw [acc, Nat.add_sub_cancel]; simp [cnt]
      have hn2 := HA.out k (by omega)
      rw [hn] at hn2
      have hs : ((16 : Int) - k).toNat = 16 - k := by omega
      generalize hq : cnt L k * 2 ^ (16 - k) = q at hn hn2
      generalize cnt L k = c at hi hc hq
      go_wp2_with fail
      have e : wrap64 ((c : Int) * 2 ^ (16 - k)) = (q : Int) := by
        rw [show (c : Int) * 2 ^ (16 - k) = (q : Int) by rw [← hq]; simp]
        unfold wrap64; omega
      rw [e, IntWalk.wrap64_in _ (by omega)]
      refine ⟨⟨k + 1, y + q, by omega, by go_num, by go_num, hn2, by rw [Nat.add_sub_cancel]; exact hn.symm, n, rfl⟩, ?_⟩
      simp [intOf]; omega
    · obtain rfl : k = 17 := by omega
      go_wp2_with fail
      go_ret
      exact ⟨by rw [HY.out]; rfl, KA.drewN n⟩
theorem upto1 (f : Nat → Nat) (h : f 0 = 0) : (fun n => if n < 1 then f n else 0) = fun _ => 0 := by
  funext n
  by_cases e : n = 0
  · subst e; simp [h]
  · rw [if_neg (by omega)]
theorem uptoS (f : Nat → Nat) (m : Nat) : (fun i => if i = m then f m else if i < m then f i else 0) = fun n => if n < m + 1 then f n else 0 := by
  funext n
  by_cases e : n = m
  · subst e; simp
  · rw [if_neg e]
    by_cases e2 : n < m
    · rw [if_pos e2, if_pos (by omega)]
    · rw [if_neg e2, if_neg (by omega)]
theorem upto17 (f : Nat → Nat) : BL (fun n => if n < 17 then f n else 0) = BL f := by
  refine BL_eq (BL_size _) fun n hn => ?_
  rw [BL_get _ _ hn, if_pos hn]
set_option maxHeartbeats 2000000 in
theorem firsts_c (w : World) (L : List Nat) (hb : ∀ n, n ≤ 16 → fst L n ≤ 4096 * 32768) (hL : L.length ≤ 4096) : Calls Tryz.prog 48 #[.agg (BL (cnt L))] w fun e w' => e = .returned (.agg (BL (fst L))) ∧ Keep [] w w' := by
  have hz := (zero_of_info (P := Tryz.prog) lenInfo).1
  rw [← BL_zero] at hz
  have HB := Blk.new w (BL (cnt L)) 91
  have KA : Keep [] w (w.alloc (.cells (BL (cnt L)) 91)) := (Keep.refl [] w).alloc _
  have HC := Lib.hid (cnt_le L)
  have HA := Lib.hid hb
  generalize hZ : BL (fun _ => 0) = Z at hz
  have HZ := Lib.hid hZ
  clear hZ
  go_enter Tryz.func48, Tryz.ntmps48
  go_wp2_with fail
  have hb0 : Blk (((w.alloc (.cells (BL (cnt L)) 91)).alloc (.cells Z 91)).alloc (.cells Z 91)) w.heap.size (BL (cnt L)) 91 := (HB.alloc _).alloc _
  have hb1 : Blk (((w.alloc (.cells (BL (cnt L)) 91)).alloc (.cells Z 91)).alloc (.cells Z 91)) (w.heap.size + 1) Z 91 := by
    have := (Blk.new (w.alloc (.cells (BL (cnt L)) 91)) Z 91).alloc (.cells Z 91)
    simpa using this
  have hb2 : Blk (((w.alloc (.cells (BL (cnt L)) 91)).alloc (.cells Z 91)).alloc (.cells Z 91)) (w.heap.size + 1 + 1) Z 91 := by
    have := Blk.new ((w.alloc (.cells (BL (cnt L)) 91)).alloc (.cells Z 91)) Z 91
    simpa using this
  have KB := (KA.alloc (.cells Z 91)).alloc (.cells Z 91)
  have hz17 : Z.size = 17 := by rw [← HZ.out, BL_size]
  generalize ((w.alloc (.cells (BL (cnt L)) 91)).alloc (.cells Z 91)).alloc (.cells Z 91) = wA at hb0 hb1 hb2 KB ⊢
  clear HB KA
  go_loopw [4] (fun i wr => ∃ k : Nat, 1 ≤ k ∧ k ≤ 17 ∧ i = .int .i64 k ∧ Blk wr w.heap.size (BL (cnt L)) 91 ∧ Blk wr (w.heap.size + 1) Z 91 ∧ Blk wr (w.heap.size + 1 + 1) (BL fun n => if n < k then fst L n else 0) 91 ∧ Keep [] w wr) (fun i _ => 17 - (intOf i).toNat)
  case atStart => exact ⟨1, by omega, by omega, rfl, hb0, hb1, by
    rw [← HZ.out] at hb2
    rw [upto1 (fst L) rfl]; exact hb2, KB⟩
  case round =>
    obtain ⟨k, hk1, hk, rfl, h0, h1, h2, KK⟩ := hrel
    by_cases hlt : k < 17
    · obtain ⟨m, rfl⟩ : ∃ m, k = m + 1 := ⟨k - 1, by omega⟩
      have c1 := h2.cell m _ (BL_get _ _ (by omega))
      rw [if_pos (by omega)] at c1
      have c2 := h0.cell m _ (BL_get _ _ (by omega))
      have hc := HC.out m
      have hn : fst L (m + 1) = 2 * (fst L m + cnt L m) := by rw [fst]; congr 1
      have hn2 := HA.out (m + 1) (by omega)
      rw [hn] at hn2
      have hd0 := h0.drewN 1
      have hd1 := h1.drewN 1
      have hd2 := h2.drewN 1
      have KD := KK.drewN 1
      clear h0 h1 h2 KK
      have HF : Hid (fst L (m + 1) = 2 * (fst L m + cnt L m)) := hn
      clear hn
      generalize hcc : cnt L m = c at c2 hc hn2 HF
      generalize haa : fst L m = a at c1 hn2 HF
      go_wp2_with fail
      have hm0 : (0 : Int) ≤ m + 1 := by omega
      have hm17 : (m : Int) < 17 := by omega
      have hw1 : IntKind.i64.wrap (m : Int) = m := by rw [IntKind.wrap_i64]; omega
      have hw2 : IntKind.i64.wrap ((a : Int) + c) = a + c := by rw [IntKind.wrap_i64]; omega
      have hw3 : IntKind.i64.wrap (((a : Int) + c) * 2) = 2 * (a + c) := by rw [IntKind.wrap_i64]; omega
      go_still_tail 12, (by kernel_rfl)
      change wpList _ _ _ _ _ (wr.drewN 1)
      generalize wr.drewN 1 = w2 at hd0 hd1 hd2 KD ⊢
      have f1 := hd2.free (m + 1)
      have c3 := hd2.cell (m + 1) _ (BL_get _ _ (by omega))
      have hs2 := hd2.set (m + 1) (.int .i64 (fst L (m + 1) : Nat))
      rw [BL_set _ _ _ (by omega), uptoS (fst L), HF.out] at hs2
      have hs1 := hd1.other (p := ⟨w.heap.size + 1 + 1, m + 1, none⟩) (by simp) (.int .i64 (2 * (a + c) : Nat))
      have hs0 := hd0.other (p := ⟨w.heap.size + 1 + 1, m + 1, none⟩) (by simp; omega) (.int .i64 (2 * (a + c) : Nat))
      have KS : Keep [] w (w2.setCell ⟨w.heap.size + 1 + 1, m + 1, none⟩ (.int .i64 (2 * (a + c) : Nat))) := KD.setCell (.inr (by simp; omega)) _
      clear hd0 hd1 hd2 KD hcc haa
      go_wp2_with fail
      go_roundw
      case rel => exact ⟨m + 2, by omega, by omega, by go_num, hs0, hs1, hs2, KS⟩
      case measure => simp [intOf]; omega
    · obtain rfl : k = 17 := by omega
      rw [upto17] at h2
      have hb3 := h1.setRow (BL (fst L))
      have K2 : Keep [] w (wr.setRow (w.heap.size + 1) (BL (fst L))) := KK.trans (Keep.setRow _) (by simp)
      go_wp2_with (first | refine wpList_loadL rfl _ rfl _ rfl _ h2 ?_ | refine wpList_storeL rfl _ _ rfl _ _ rfl rfl _ _ h1 hz17 ?_)
      refine bodyPost_ret (results_cellL rfl _ rfl hb3) rfl ?_
      exact ⟨rfl, K2⟩
set_option maxHeartbeats 2000000 in
theorem starts_c (w : World) (L : List Nat) (hL : L.length ≤ 4096) : Calls Tryz.prog 75 #[.agg (BL (cnt L))] w fun e w' => e = .returned (.agg (BL (stt L))) ∧ Keep [] w w' := by
  have hz := (zero_of_info (P := Tryz.prog) lenInfo).1
  rw [← BL_zero] at hz
  have HB := Blk.new w (BL (cnt L)) 91
  have KA : Keep [] w (w.alloc (.cells (BL (cnt L)) 91)) := (Keep.refl [] w).alloc _
  have HC := Lib.hid (cnt_le L)
  have HA := Lib.hid (stt_le L)
  generalize hZ : BL (fun _ => 0) = Z at hz
  have HZ := Lib.hid hZ
  clear hZ
  go_enter Tryz.func75, Tryz.ntmps75
  go_wp2_with fail
  have hb0 : Blk (((w.alloc (.cells (BL (cnt L)) 91)).alloc (.cells Z 91)).alloc (.cells Z 91)) w.heap.size (BL (cnt L)) 91 := (HB.alloc _).alloc _
  have hb1 : Blk (((w.alloc (.cells (BL (cnt L)) 91)).alloc (.cells Z 91)).alloc (.cells Z 91)) (w.heap.size + 1) Z 91 := by
    have := (Blk.new (w.alloc (.cells (BL (cnt L)) 91)) Z 91).alloc (.cells Z 91)
    simpa using this
  have hb2 : Blk (((w.alloc (.cells (BL (cnt L)) 91)).alloc (.cells Z 91)).alloc (.cells Z 91)) (w.heap.size + 1 + 1) Z 91 := by
    have := Blk.new ((w.alloc (.cells (BL (cnt L)) 91)).alloc (.cells Z 91)) Z 91
    simpa using this
  have KB := (KA.alloc (.cells Z 91)).alloc (.cells Z 91)
  have hz17 : Z.size = 17 := by rw [← HZ.out, BL_size]
  generalize ((w.alloc (.cells (BL (cnt L)) 91)).alloc (.cells Z 91)).alloc (.cells Z 91) = wA at hb0 hb1 hb2 KB ⊢
  clear HB KA
  go_loopw [4] (fun i wr => ∃ k : Nat, 1 ≤ k ∧ k ≤ 17 ∧ i = .int .i64 k ∧ Blk wr w.heap.size (BL (cnt L)) 91 ∧ Blk wr (w.heap.size + 1) Z 91 ∧ Blk wr (w.heap.size + 1 + 1) (BL fun n => if n < k then stt L n else 0) 91 ∧ Keep [] w wr) (fun i _ => 17 - (intOf i).toNat)
  case atStart => exact ⟨1, by omega, by omega, rfl, hb0, hb1, by
    rw [← HZ.out] at hb2
    rw [upto1 (stt L) rfl]; exact hb2, KB⟩
  case round =>
    obtain ⟨k, hk1, hk, rfl, h0, h1, h2, KK⟩ := hrel
    by_cases hlt : k < 17
    · obtain ⟨m, rfl⟩ : ∃ m, k = m + 1 := ⟨k - 1, by omega⟩
      have c1 := h2.cell m _ (BL_get _ _ (by omega))
      rw [if_pos (by omega)] at c1
      have c2 := h0.cell m _ (BL_get _ _ (by omega))
      have hc := HC.out m
      have hn : stt L (m + 1) = stt L m + cnt L m := by rw [stt]
      have hn2 : stt L (m + 1) ≤ 17 * 4096 := by have := HA.out (m + 1); have := Nat.mul_le_mul (show m + 1 ≤ 17 by omega) hL; omega
      rw [hn] at hn2
      have hd0 := h0.drewN 1
      have hd1 := h1.drewN 1
      have hd2 := h2.drewN 1
      have KD := KK.drewN 1
      clear h0 h1 h2 KK
      have HF : Hid (stt L (m + 1) = stt L m + cnt L m) := hn
      clear hn
      generalize hcc : cnt L m = c at c2 hc hn2 HF
      generalize haa : stt L m = a at c1 hn2 HF
      go_wp2_with fail
      have hm0 : (0 : Int) ≤ m + 1 := by omega
      have hm17 : (m : Int) < 17 := by omega
      have hw1 : IntKind.i64.wrap (m : Int) = m := by rw [IntKind.wrap_i64]; omega
      have hw2 : IntKind.i64.wrap ((a : Int) + c) = a + c := by rw [IntKind.wrap_i64]; omega
      go_still_tail 11, (by kernel_rfl)
      change wpList _ _ _ _ _ (wr.drewN 1)
      generalize wr.drewN 1 = w2 at hd0 hd1 hd2 KD ⊢
      have f1 := hd2.free (m + 1)
      have c3 := hd2.cell (m + 1) _ (BL_get _ _ (by omega))
      have hs2 := hd2.set (m + 1) (.int .i64 (stt L (m + 1) : Nat))
      rw [BL_set _ _ _ (by omega), uptoS (stt L), HF.out] at hs2
      have hs1 := hd1.other (p := ⟨w.heap.size + 1 + 1, m + 1, none⟩) (by simp) (.int .i64 (a + c : Nat))
      have hs0 := hd0.other (p := ⟨w.heap.size + 1 + 1, m + 1, none⟩) (by simp; omega) (.int .i64 (a + c : Nat))
      have KS : Keep [] w (w2.setCell ⟨w.heap.size + 1 + 1, m + 1, none⟩ (.int .i64 (a + c : Nat))) := KD.setCell (.inr (by simp; omega)) _
      clear hd0 hd1 hd2 KD hcc haa
      go_wp2_with fail
      go_roundw
      case rel => exact ⟨m + 2, by omega, by omega, by go_num, hs0, hs1, hs2, KS⟩
      case measure => simp [intOf]; omega
    · obtain rfl : k = 17 := by omega
      rw [upto17] at h2
      have hb3 := h1.setRow (BL (stt L))
      have K2 : Keep [] w (wr.setRow (w.heap.size + 1) (BL (stt L))) := KK.trans (Keep.setRow _) (by simp)
      go_wp2_with (first | refine wpList_loadL rfl _ rfl _ rfl _ h2 ?_ | refine wpList_storeL rfl _ _ rfl _ _ rfl rfl _ _ h1 hz17 ?_)
      refine bodyPost_ret (results_cellL rfl _ rfl hb3) rfl ?_
      exact ⟨rfl, K2⟩
theorem longest_cnt (L : List Nat) (hL : ∀ x ∈ L, x ≤ 16) (n : Nat) (h : ∀ m, n < m → m ≤ 16 → cnt L m = 0) : longest L ≤ n := by
  refine longest_le L n fun x hx => ?_
  rcases Nat.lt_or_ge n x with h1 | h1
  · have h2 := h x h1 (hL x hx)
    unfold cnt at h2
    rw [if_neg (by omega)] at h2
    have := List.count_pos_iff.2 hx
    omega
  · exact h1
theorem longest_ge_cnt (L : List Nat) (n : Nat) (h : cnt L n ≠ 0) : n ≤ longest L := by
  unfold cnt at h
  by_cases h0 : n = 0
  · omega
  · rw [if_neg h0] at h
    have hm : n ∈ L := List.count_pos_iff.1 (by omega)
    obtain ⟨i, hi, e⟩ := List.getElem_of_mem hm
    have := longest_ge L i
    rw [len_get L i hi, e] at this
    exact this
set_option maxHeartbeats 2000000 in
theorem blongest_c (w : World) (L : List Nat) (hL : ∀ x ∈ L, x ≤ 16) : Calls Tryz.prog 74 #[.agg (BL (cnt L))] w fun e w' => e = .returned (.int .i64 (longest L)) ∧ Keep [] w w' := by
  have HB := Blk.new w (BL (cnt L)) 91
  have KA : Keep [] w (w.alloc (.cells (BL (cnt L)) 91)) := (Keep.refl [] w).alloc _
  have HL := Lib.hid (longest_cnt L hL)
  have HG := Lib.hid (longest_ge_cnt L)
  clear hL
  go_enter Tryz.func74, Tryz.ntmps74
  go_wp2_with fail
  generalize w.alloc (.cells (BL (cnt L)) 91) = wA at HB KA ⊢
  go_loopw [3] (fun i wr => ∃ k : Nat, k ≤ 16 ∧ i = .int .i64 k ∧ Hid (∀ m, k < m → m ≤ 16 → cnt L m = 0) ∧ ∃ n, wr = wA.drewN n) (fun i _ => (intOf i).toNat)
  case atStart => exact ⟨16, by omega, rfl, fun m h1 h2 => by omega, 0, rfl⟩
  case round =>
    obtain ⟨k, hk, rfl, HR, n, rfl⟩ := hrel
    by_cases h0 : k = 0
    · subst h0
      have HF := Lib.hid (Nat.le_zero.1 (HL.out 0 HR.out))
      go_wp2_with fail
      go_ret
      exact ⟨by rw [HF.out]; rfl, KA.drewN n⟩
    · have c1 := (HB.drewN n).cell k _ (BL_get _ _ (by omega))
      have hkp : (0 : Int) < k := by omega
      have hk17 : (k : Int) < 17 := by omega
      have h00 : (0 : Int) ≤ k := by omega
      by_cases hc : cnt L k = 0
      · have HR2 : Hid (∀ m, k - 1 < m → m ≤ 16 → cnt L m = 0) := by
          intro m h1 h2
          by_cases e : m = k
          · subst e; exact hc
          · exact HR.out m (by omega) h2
        rw [hc] at c1
        clear hc HR
        go_wp2_with fail
        go_roundw
        case rel => exact ⟨k - 1, by omega, by go_num, HR2, n, rfl⟩
        case measure => simp [intOf]; omega
      · have HF : Hid (longest L = k) := by
          have h1 := HL.out k HR.out
          have h2 := HG.out k hc
          unfold Hid; omega
        have hb : (((cnt L k : Nat) : Int) == 0) = false := by simp; omega
        generalize cnt L k = c at c1 hb
        clear hc
        go_wp2_with fail
        go_ret
        exact ⟨by rw [HF.out]; rfl, KA.drewN n⟩
end Go.Proofs.YtibkepjbblfkoaaGreatDoor
