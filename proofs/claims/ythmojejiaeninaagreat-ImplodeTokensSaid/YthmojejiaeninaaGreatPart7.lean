/- Texts put together: RefCan RefSf RefSf2 RefSf3 RefSf4 ExpMath ExpMath2 Sf1 SfPk StRef RefExp1 StRw RefExp2 RefExp3 RefExp4 -/
import Derived.Test.YthmojejiaeninaaGreatPart3
import Derived.Test.YthmojejiaeninaaGreatPart5
import Derived.Test.YthmojejiaeninaaGreatPart2
import Derived.Test.YthmojejiaeninaaGreatPart6
import Derived.Test.YthmojejiaeninaaGreatPart8
import Derived.Deep.RegionLaw
import Derived.Test.YthmojejiaeninaaGreatPart4
import Derived.Test.YthmojejiaeninaaGreatPart1
namespace Go.Proofs.YthmojejiaeninaaGreat
set_option linter.unusedVariables false
set_option linter.unusedSimpArgs false
open Go.ChangeShapes Go.WideShapes Go.ChangeAt Go.RowKit

theorem Is.shape {k : IntKind} {w : World} {v : Value} {zs : List Int} (h : Is k w v zs) : ∃ a cap, v = .slice a zs.length cap ∧ zs.length ≤ cap ∧ cap ≤ maxLen := by
  obtain ⟨a, cap, rfl, h1, h2, _⟩ := h
  exact ⟨a, cap, rfl, h1, h2⟩
theorem Is.len {k : IntKind} {w : World} {v : Value} {zs : List Int} (h : Is k w v zs) : zs.length ≤ 9223372036854775807 := by
  obtain ⟨a, cap, _, h1, h2⟩ := h.shape
  unfold maxLen at h2; omega
theorem Is.drewN {k : IntKind} {w : World} {v : Value} {zs : List Int} (h : Is k w v zs) (n : Nat) : Is k (w.drewN n) v zs := h.keep ((Keep.refl [] w).drewN _) (by simp)
/-- lengths as numbers -/
def Ln (zs : List Int) : List Nat := zs.map Int.toNat
theorem Ln_length (zs : List Int) : (Ln zs).length = zs.length := by simp [Ln]
theorem Ln_take (zs : List Int) (i : Nat) : Ln (zs.take i) = (Ln zs).take i := by simp [Ln, List.map_take]
def mayB (zs : List Int) : Bool := decide (zs.length ≤ 4096) && zs.all fun z => decide (0 ≤ z) && decide (z ≤ 16)
theorem may_iff (zs : List Int) : mayB zs = true ↔ zs.length ≤ 4096 ∧ ∀ z ∈ zs, 0 ≤ z ∧ z ≤ 16 := by simp [mayB]
theorem may_Ln {zs : List Int} (h : mayB zs = true) : ∀ x ∈ Ln zs, x ≤ 16 := by
  intro x hx
  simp only [Ln, List.mem_map] at hx
  obtain ⟨z, hz, rfl⟩ := hx
  have := ((may_iff zs).1 h).2 z hz
  omega
theorem may_get {zs : List Int} (h : mayB zs = true) (i : Nat) (hi : i < zs.length) : zs[i] = ((len (Ln zs) i : Nat) : Int) ∧ len (Ln zs) i ≤ 16 := by
  have h1 := ((may_iff zs).1 h).2 zs[i] (List.getElem_mem hi)
  have h2 : len (Ln zs) i = zs[i].toNat := by rw [len_get _ _ (by rw [Ln_length]; exact hi)]; simp [Ln]
  omega
def chk (zs : List Int) : Nat := if mayB zs = false then 5 else if wt (Ln zs) = 0 then 4 else if 65536 < wt (Ln zs) then 2 else if wt (Ln zs) < 65536 then 3 else 1
theorem chk_bad {zs : List Int} (h : mayB zs = false) : chk zs = 5 := by simp [chk, h]
theorem bad_at {zs : List Int} (i : Nat) (hi : i < zs.length) (h : zs[i] < 0 ∨ 16 < zs[i]) : mayB zs = false := by
  rw [Bool.eq_false_iff]
  intro hm
  have := ((may_iff zs).1 hm).2 zs[i] (List.getElem_mem hi)
  omega
theorem half_step (k z : Nat) (h : k < z) (hz : z ≤ 16) : 2 ^ (16 - k) / 2 = 2 ^ (16 - (k + 1)) := by
  rw [show 16 - k = (16 - (k + 1)) + 1 by omega, Nat.pow_succ]; simp
theorem wt_take (zs : List Int) (i : Nat) (hi : i < zs.length) : wt (Ln (zs.take (i + 1))) = wt (Ln (zs.take i)) + wt1 zs[i].toNat := by
  rw [List.take_succ_eq_append_getElem hi, Ln, List.map_append, wt, List.map_append, List.sum_append]
  simp [wt, Ln]
theorem wt_le (zs : List Int) (n : Nat) (h : zs.length ≤ n) : wt (Ln zs) ≤ n * 32768 := by
  induction zs generalizing n with
  | nil => simp [wt, Ln]
  | cons z zs ih =>
    obtain ⟨m, rfl⟩ : ∃ m, n = m + 1 := ⟨n - 1, by simp at h; omega⟩
    have := ih m (by simpa using h)
    have h1 : wt1 z.toNat ≤ 32768 := by
      unfold wt1; split
      · omega
      · exact Nat.le_trans (Nat.pow_le_pow_right (by decide) (show 16 - z.toNat ≤ 15 by omega)) (by decide)
    simp only [Ln, wt, List.map_cons, List.sum_cons] at *
    omega
/-- v is the row of the words of L -/
def Cds (w : World) (v : Value) (L : List Nat) : Prop := Sts w v L.length 2 fun i j => if j = 0 then .int .u32 (code L i) else .int .i64 (len L i)
def werr (zs : List Int) : Nat := if chk zs = 5 then 2 else if chk zs = 2 then 6 else 0
theorem werr_ok {zs : List Int} (h : werr zs = 0) : mayB zs = true ∧ wt (Ln zs) ≤ 65536 := by
  unfold werr at h
  by_cases h5 : chk zs = 5
  · rw [if_pos h5] at h; omega
  by_cases h2 : chk zs = 2
  · rw [if_neg h5, if_pos h2] at h; omega
  unfold chk at h5 h2
  cases hm : mayB zs with
  | false => rw [hm] at h5; simp at h5
  | true =>
    rw [hm] at h5 h2
    refine ⟨rfl, ?_⟩
    by_cases h0 : wt (Ln zs) = 0
    · omega
    · rw [if_neg (by simp), if_neg h0] at h2
      by_cases h3 : 65536 < wt (Ln zs)
      · rw [if_pos h3] at h2; simp at h2
      · omega
/-- how much of the row is given out ahead of symbol i of n bits -/
def upTo (L : List Nat) (n i : Nat) : Nat := acc L (n - 1) + (L.take i).count n * 2 ^ (16 - n)
theorem upTo_lo (L : List Nat) (n i : Nat) (h : len L i = n) : upTo L n i = lo L i := by subst h; rfl
theorem upTo_le (L : List Nat) (n i : Nat) (h1 : 0 < n) (h : n ≤ 16) (hL : ∀ x ∈ L, x ≤ 16) : upTo L n i ≤ wt L := by
  obtain ⟨m, rfl⟩ : ∃ m, n = m + 1 := ⟨n - 1, by omega⟩
  have h2 := acc_mono L (m + 1) 16 h
  rw [acc16 L hL, acc] at h2
  have h3 : (L.take i).count (m + 1) ≤ L.count (m + 1) := List.Sublist.count_le _ (List.take_sublist _ _)
  have := Nat.mul_le_mul_right (2 ^ (16 - (m + 1))) h3
  unfold upTo
  rw [Nat.add_sub_cancel]
  omega
theorem upTo_skip (L : List Nat) (n i : Nat) (hi : i < L.length) (h : len L i ≠ n) : upTo L n (i + 1) = upTo L n i := by
  unfold upTo
  rw [List.take_succ_eq_append_getElem hi, List.count_append, ← len_get L i hi]
  simp [List.count_cons, h]
theorem upTo_take (L : List Nat) (n i : Nat) (hi : i < L.length) (h : len L i = n) : upTo L n (i + 1) = upTo L n i + 2 ^ (16 - n) := by
  unfold upTo
  rw [List.take_succ_eq_append_getElem hi, List.count_append, ← len_get L i hi, h]
  simp [Nat.add_mul]; omega
theorem upTo_next (L : List Nat) (n : Nat) (h : 0 < n) : upTo L n L.length = upTo L (n + 1) 0 := by
  obtain ⟨m, rfl⟩ : ∃ m, n = m + 1 := ⟨n - 1, by omega⟩
  unfold upTo
  simp [acc]
/-- has the word of symbol j been given out? -/
def dn (L : List Nat) (n i j : Nat) : Bool := decide (0 < len L j) && (decide (len L j < n) || (decide (len L j = n) && decide (j < i)))
/-- the row's cells -/
def CsAt (cs : Array Value) (L : List Nat) (n i : Nat) : Prop := ∀ j, j < L.length → cs[j * 2]? = some (.int .u32 (if dn L n i j then (code L j : Int) else 0)) ∧ cs[j * 2 + 1]? = some (.int .i64 (if dn L n i j then (len L j : Int) else 0))
theorem dn_skip (L : List Nat) (n i j : Nat) (h : len L i ≠ n) : dn L n (i + 1) j = dn L n i j := by
  unfold dn
  by_cases e : j = i
  · subst e; simp [h]
  · rw [show decide (j < i + 1) = decide (j < i) by simp; omega]
theorem dn_take (L : List Nat) (n i j : Nat) (h : len L i = n) (h0 : 0 < n) : dn L n (i + 1) j = if j = i then true else dn L n i j := by
  unfold dn
  by_cases e : j = i
  · subst e; simp [h, h0]
  · rw [if_neg e, show decide (j < i + 1) = decide (j < i) by simp; omega]
theorem dn_next (L : List Nat) (n j : Nat) (hj : j < L.length) : dn L n L.length j = dn L (n + 1) 0 j := by
  unfold dn
  rw [show decide (j < L.length) = true by simpa using hj, Bool.and_true, show decide (j < 0) = false by simp, Bool.and_false, Bool.or_false]
  congr 1
  by_cases e : len L j = n
  · simp [e]
  · rw [show decide (len L j = n) = false by simpa using e, Bool.or_false]
    by_cases e2 : len L j < n
    · simp [e2]; omega
    · simp [e2]; omega
theorem dn_all (L : List Nat) (j : Nat) (hL : ∀ x ∈ L, x ≤ 16) : dn L 17 0 j = decide (0 < len L j) := by
  have : len L j < 17 := by have := longest_ge L j; have := longest_le L 16 hL; omega
  simp [dn, this]
theorem CsAt.skip {cs : Array Value} {L : List Nat} {n i : Nat} (h : CsAt cs L n i) (hn : len L i ≠ n) : CsAt cs L n (i + 1) := by
  intro j hj; rw [dn_skip L n i j hn]; exact h j hj
theorem CsAt.next {cs : Array Value} {L : List Nat} {n : Nat} (h : CsAt cs L n L.length) : CsAt cs L (n + 1) 0 := by
  intro j hj; rw [← dn_next L n j hj]; exact h j hj
theorem CsAt.take {cs : Array Value} {L : List Nat} {n i : Nat} (h : CsAt cs L n i) (hs : cs.size = L.length * 2) (hi : i < L.length) (hn : len L i = n) (h0 : 0 < n) :
    CsAt ((cs.setIfInBounds (i * 2) (.int .u32 (code L i))).setIfInBounds (i * 2 + 1) (.int .i64 n)) L n (i + 1) := by
  intro j hj
  rw [dn_take L n i j hn h0]
  simp only [Array.getElem?_setIfInBounds, Array.size_setIfInBounds]
  by_cases e : j = i
  · subst e
    simp [hn, hs]
    omega
  · have a1 : ¬ i * 2 + 1 = j * 2 := by omega
    have a2 : ¬ i * 2 = j * 2 := by omega
    have a3 : ¬ i * 2 + 1 = j * 2 + 1 := by omega
    have a4 : ¬ i * 2 = j * 2 + 1 := by omega
    simp only [if_neg e, if_neg a1, if_neg a2, if_neg a3, if_neg a4]
    exact h j hj
theorem CsAt.cds {w : World} {b : Nat} {cs : Array Value} {L : List Nat} (hb : Blk w b cs 82) (h : CsAt cs L 17 0) (hL : ∀ x ∈ L, x ≤ 16) (hm : L.length ≤ maxLen) : Cds w (.slice (some ⟨b, 0, none⟩) L.length L.length) L := by
  refine ⟨_, _, rfl, Nat.le_refl _, hm, by simp, ?_⟩
  intro x hx i hi j hj
  obtain rfl : _ = x := Option.some.inj hx
  have h1 := h i hi
  rw [dn_all L i hL] at h1
  have e : ∀ m, ((⟨b, 0, none⟩ : Addr).add m) = ⟨b, m, none⟩ := fun m => by cases m <;> simp [Addr.add]
  rw [e]
  obtain rfl | rfl : j = 0 ∨ j = 1 := by omega
  · have h2 := hb.cell (i * 2) _ h1.1
    rw [Nat.add_zero, h2]
    by_cases h0 : 0 < len L i
    · simp [h0]
    · have : len L i = 0 := by omega
      simp [this, code, tr]
  · have h2 := hb.cell (i * 2 + 1) _ h1.2
    rw [h2]
    by_cases h0 : 0 < len L i
    · simp [h0]
    · have : len L i = 0 := by omega
      simp [this]
theorem infoCode : (Tryz.prog.info? 82).map (fun i => (i.zero.map (·.cells), i.size, i.bytes)) = some (some #[.int .u32 0, .int .i64 0], 2, 16) := by kernel_rfl
theorem run_make_codes (w : World) (n : Nat) (hn : n ≤ 4096) : (Instr.makeSlice 55 (.int .i64 (n : Int)) (.int .i64 (n : Int))).run Tryz.prog w = .ok (.slice (some ⟨w.heap.size, 0, none⟩) n n) (w.alloc (.cells (madeCells #[.int .u32 0, .int .i64 0] (n * 2)) 82)) := by
  obtain ⟨i, hi, hzz⟩ := Option.map_eq_some_iff.1 infoCode
  simp only [Prod.mk.injEq] at hzz
  obtain ⟨hz, hs, hb⟩ := hzz
  obtain ⟨z, hz, hzc⟩ := Option.map_eq_some_iff.1 hz
  have := run_make (P := Tryz.prog) (w := w) 55 82 i z Tryz.underlying55 hi hz .i64 .i64 n n (by omega) (by omega) (by rw [hb]; omega) (by omega)
  rw [this, hzc, hs]
  simp
theorem CsAt.made (L : List Nat) : CsAt (madeCells #[.int .u32 0, .int .i64 0] (L.length * 2)) L 1 0 := by
  intro j hj
  have hd : dn L 1 0 j = false := by simp [dn]; omega
  rw [hd]
  unfold madeCells
  have e1 : j * 2 % 2 = 0 := by omega
  have e2 : (j * 2 + 1) % 2 = 1 := by omega
  constructor
  · rw [Array.getElem?_map, Array.getElem?_range, if_pos (by omega)]; simp
  · rw [Array.getElem?_map, Array.getElem?_range, if_pos (by omega)]; simp [e2]
end Go.Proofs.YthmojejiaeninaaGreat
namespace Go.Proofs.YthmojejiaeninaaGreat
set_option linter.unusedVariables false
set_option linter.unusedSimpArgs false
open Go.ChangeShapes Go.WideShapes Go.ChangeAt Go.RowKit

theorem sftwo_c (w : World) (n : Nat) (hn : n ≤ 32) : Calls Tryz.prog 74 #[.int .i64 n] w fun e w' => e = .returned (.int .i64 (2 ^ n : Nat)) ∧ ∃ n, w' = w.drewN n := by
  go_enter Tryz.func74, Tryz.ntmps74
  go_wp2_with fail
  go_loopw [3, 4] (fun x i wr => ∃ (k y : Nat), k ≤ n ∧ i = .int .i64 k ∧ x = .int .i64 y ∧ y ≤ 4294967296 ∧ Hid (y = 2 ^ k) ∧ ∃ m, wr = w.drewN m) (fun _ i _ => n - (intOf i).toNat)
  case atStart => exact ⟨0, 1, by omega, rfl, rfl, by omega, rfl, 0, rfl⟩
  case round =>
    obtain ⟨k, y, hk, rfl, rfl, hy, HY, m, rfl⟩ := hrel
    by_cases hlt : k < n
    · have h2 : Hid (y * 2 = 2 ^ (k + 1)) := by unfold Hid; rw [HY.out, Nat.pow_succ]
      have h3 : y * 2 ≤ 4294967296 := by rw [h2.out]; exact Nat.pow_le_pow_right (n := 2) (j := 32) (by decide) (by omega)
      go_wp2_with fail
      go_roundw
      case rel => exact ⟨k + 1, y * 2, by omega, by go_num, by go_num, h3, h2, _, rfl⟩
      case measure => simp [intOf]; omega
    · obtain rfl : k = n := by omega
      go_wp2_with fail
      go_ret
      exact ⟨by rw [HY.out]; rfl, _, rfl⟩
def mayS (zs : List Int) : Bool := decide (0 < zs.length) && (decide (zs.length ≤ 256) && zs.all fun z => decide (1 ≤ z) && decide (z ≤ 16))
theorem mayS_iff (zs : List Int) : mayS zs = true ↔ 0 < zs.length ∧ zs.length ≤ 256 ∧ ∀ z ∈ zs, 1 ≤ z ∧ z ≤ 16 := by simp [mayS]
theorem mayS_get {zs : List Int} (h : mayS zs = true) (i : Nat) (hi : i < zs.length) : zs[i] = ((len (Ln zs) i : Nat) : Int) ∧ 1 ≤ len (Ln zs) i ∧ len (Ln zs) i ≤ 16 := by
  have h1 := ((mayS_iff zs).1 h).2.2 zs[i] (List.getElem_mem hi)
  have h2 : len (Ln zs) i = zs[i].toNat := by rw [len_get _ _ (by rw [Ln_length]; exact hi)]; simp [Ln]
  omega
theorem bad_S {zs : List Int} (i : Nat) (hi : i < zs.length) (h : zs[i] < 1 ∨ 16 < zs[i]) : mayS zs = false := by
  rw [Bool.eq_false_iff]
  intro hm
  have := ((mayS_iff zs).1 hm).2.2 zs[i] (List.getElem_mem hi)
  omega
set_option maxHeartbeats 1000000 in
theorem sfmay_c (w : World) (v : Value) (zs : List Int) (h : Is .i64 w v zs) : Calls Tryz.prog 71 #[v] w fun e w' => e = .returned (.bool (mayS zs)) ∧ ∃ n, w' = w.drewN n := by
  have HI := Lib.hid (fun i hi => h.at i hi)
  have HM := Lib.hid (mayS_iff zs)
  obtain ⟨a, cap, rfl, hl⟩ := h.sh
  clear h
  go_enter Tryz.func71, Tryz.ntmps71
  go_wp2_with fail
  go_loopw [3] (fun i wr => ∃ j : Nat, j ≤ zs.length ∧ i = .int .i64 j ∧ Hid (∀ i (hi : i < zs.length), i < j → 1 ≤ zs[i] ∧ zs[i] ≤ 16) ∧ ∃ m, wr = w.drewN m) (fun i _ => zs.length - (intOf i).toNat)
  case atStart => exact ⟨0, by omega, rfl, fun i _ hi => by omega, 0, rfl⟩
  case round =>
    obtain ⟨j, hj, rfl, HR, m2, rfl⟩ := hrel
    by_cases hltj : j < zs.length
    · obtain ⟨b, off, cap', hv, e1⟩ := HI.out j hltj
      simp only [Value.slice.injEq] at hv
      obtain ⟨rfl, h2, rfl⟩ := hv
      clear h2
      by_cases hbad : zs[j] < 1 ∨ 16 < zs[j]
      · have hf := Lib.hid (bad_S j hltj hbad)
        generalize zs[j] = z at e1 hbad
        by_cases hneg : z < 1
        · clear hbad
          go_wp2_with fail
          go_ret
          exact ⟨by rw [hf.out]; rfl, _, rfl⟩
        · have : 16 < z := by omega
          clear hbad
          go_wp2_with fail
          go_ret
          exact ⟨by rw [hf.out]; rfl, _, rfl⟩
      · have HR2 : Hid (∀ i (hi : i < zs.length), i < j + 1 → 1 ≤ zs[i] ∧ zs[i] ≤ 16) := by
          intro i hi hij
          by_cases e : i = j
          · subst e; omega
          · exact HR.out i hi (by omega)
        have hz1 : ¬ zs[j] < 1 := by omega
        have hz2 : ¬ 16 < zs[j] := by omega
        generalize zs[j] = z at e1 hz1 hz2
        clear hbad
        go_wp2_with fail
        go_roundw
        case rel => exact ⟨j + 1, by omega, by go_num, HR2, _, rfl⟩
        case measure => simp [intOf]; omega
    · obtain rfl : j = zs.length := by omega
      have hall : ∀ z ∈ zs, 1 ≤ z ∧ z ≤ 16 := fun z hz => by
        obtain ⟨i, hi, rfl⟩ := List.getElem_of_mem hz
        exact HR.out i hi hi
      by_cases h0 : 0 < zs.length
      · by_cases h1 : zs.length ≤ 256
        · have hf := Lib.hid (HM.out.2 ⟨h0, h1, hall⟩)
          have d1 : decide ((zs.length : Int) ≤ 256) = true := by simp; omega
          clear HR hall
          go_wp2_with fail
          go_ret
          exact ⟨by rw [hf.out]; rfl, _, rfl⟩
        · have hf : Hid (mayS zs = false) := by unfold Hid; rw [Bool.eq_false_iff]; intro hm; have := (HM.out.1 hm).2.1; omega
          have d1 : decide ((zs.length : Int) ≤ 256) = false := by simp; omega
          clear HR hall
          go_wp2_with fail
          go_ret
          exact ⟨by rw [hf.out]; rfl, _, rfl⟩
      · have hf : Hid (mayS zs = false) := by unfold Hid; rw [Bool.eq_false_iff]; intro hm; have := (HM.out.1 hm).1; omega
        have hz : zs.length = 0 := by omega
        have d0 : decide ((0 : Int) < zs.length) = false := by rw [decide_eq_false_iff_not]; omega
        have d0' : decide (0 < zs.length) = false := by rw [decide_eq_false_iff_not]; omega
        clear HR hall h0 hj hz
        go_wp2_with fail
        go_ret
        exact ⟨by rw [hf.out]; rfl, _, rfl⟩
def schk (zs : List Int) : Nat := if mayS zs = false then 2 else if tot16 (Ln zs) = 65536 then 0 else 6
set_option maxRecDepth 100000 in
set_option maxHeartbeats 1000000 in
theorem sfcheck_c (w : World) (v : Value) (zs : List Int) (h : Is .i64 w v zs) : Calls Tryz.prog 73 #[v] w fun e w' => e = .returned (.int .i64 (schk zs)) ∧ ∃ n, w' = w.drewN n := by
  have HMY := Lib.hid (sfmay_c w v zs h)
  have HI := Lib.hid (fun i hi => h.at i hi)
  obtain ⟨a, cap, rfl, hl⟩ := h.sh
  clear h
  by_cases hm : mayS zs = true
  · have HG := Lib.hid (fun i hi => mayS_get hm i hi)
    have hlen := ((mayS_iff zs).1 hm).2.1
    have hs : Hid (schk zs = if tot16 (Ln zs) = 65536 then 0 else 6) := by unfold Hid schk; rw [hm]; rfl
    rw [hm] at HMY
    have hN := Ln_length zs
    have hT : Hid (tot16 (Ln zs) = sm (wd16 (Ln zs)) zs.length) := by unfold Hid tot16; rw [hN]
    clear hm
    generalize Ln zs = L at *
    clear hN
    have HTW := Lib.hid (fun w' n (hn : n ≤ 16) => sftwo_c w' n (by omega))
    go_enter Tryz.func73, Tryz.ntmps73
    go_wp2_with fail
    refine HMY.out.mono ?_; rintro e w1 ⟨rfl, m1, rfl⟩
    go_wp2_with fail
    go_loopw [3, 4] (fun x i wr => ∃ (k y : Nat), k ≤ zs.length ∧ i = .int .i64 k ∧ x = .int .i64 y ∧ y ≤ k * 65536 ∧ Hid (y = sm (wd16 L) k) ∧ ∃ n, wr = w.drewN n) (fun _ i _ => zs.length - (intOf i).toNat)
    case atStart => exact ⟨0, 0, by omega, rfl, rfl, by omega, rfl, _, rfl⟩
    case round =>
      obtain ⟨k, y, hk, rfl, rfl, hy, HY, n, rfl⟩ := hrel
      by_cases hlt : k < zs.length
      · obtain ⟨b, off, cap', hv, e1⟩ := HI.out k hlt
        simp only [Value.slice.injEq] at hv
        obtain ⟨rfl, h2, rfl⟩ := hv
        clear h2
        obtain ⟨g1, g2, g3⟩ := HG.out k hlt
        rw [g1] at e1
        clear g1
        have hS : Hid (y + 2 ^ (16 - len L k) = sm (wd16 L) (k + 1)) := by unfold Hid; rw [sm, HY.out]; rfl
        have hp : 2 ^ (16 - len L k) ≤ 65536 := Nat.pow_le_pow_right (n := 2) (j := 16) (by decide) (by omega)
        have hsub : IntKind.i64.wrap (16 - ((len L k : Nat) : Int)) = ((16 - len L k : Nat) : Int) := by rw [IntKind.wrap_i64]; omega
        have hsub2 : (16 - ((len L k : Nat) : Int)) = ((16 - len L k : Nat) : Int) := by omega
        have HT2 := Lib.hid (fun w' => HTW.out w' (16 - len L k) (by omega))
        generalize 16 - len L k = z at *
        generalize 2 ^ z = q at *
        generalize len L k = lk at *
        go_wp2_with fail
        refine (HT2.out _).mono ?_; rintro e w2 ⟨rfl, m2, rfl⟩
        go_wp2_with fail
        go_roundw
        case rel => exact ⟨k + 1, y + q, by omega, by go_num, by go_num, by omega, hS, _, rfl⟩
        case measure => simp [intOf]; omega
      · obtain rfl : k = zs.length := by omega
        rw [← HY.out] at hT
        by_cases he : y = 65536
        · rw [hT.out, if_pos he] at hs
          subst he
          clear hT HY
          go_wp2_with fail
          go_ret
          exact ⟨by rw [hs.out]; rfl, _, rfl⟩
        · rw [hT.out, if_neg he] at hs
          have hb : ((y : Int) != 65536) = true := by simp; omega
          have hb2 : ((y : Int) == 65536) = false := by simp; omega
          clear hT HY he hy
          go_wp2_with fail
          go_ret
          exact ⟨by rw [hs.out]; rfl, _, rfl⟩
  · have hf : mayS zs = false := by simpa using hm
    have hs : Hid (schk zs = 2) := by unfold Hid schk; rw [hf]; rfl
    rw [hf] at HMY
    clear hm hf
    go_enter Tryz.func73, Tryz.ntmps73
    go_wp2_with fail
    refine HMY.out.mono ?_; rintro e w1 ⟨rfl, m1, rfl⟩
    go_wp2_with fail
    go_ret
    exact ⟨by rw [hs.out]; rfl, _, rfl⟩
end Go.Proofs.YthmojejiaeninaaGreat
namespace Go.Proofs.YthmojejiaeninaaGreat
set_option linter.unusedVariables false
set_option linter.unusedSimpArgs false
open Go.ChangeShapes Go.WideShapes Go.ChangeAt Go.RowKit

theorem turn_code6 (x n : Nat) (h : n ≤ 16) : turn x (n : Int) = tr n x 0 := by
  unfold turn
  rw [show (max 0 (min (n : Int) 32)).toNat = n by omega]
/-- v is the row of the words of L -/
def Cds6 (w : World) (v : Value) (L : List Nat) : Prop := Sts w v L.length 2 fun i j => if j = 0 then .int .u32 (scode L i) else .int .i64 (len L i)
theorem schk_ok {zs : List Int} (h : schk zs = 0) : mayS zs = true ∧ tot16 (Ln zs) = 65536 := by
  unfold schk at h
  cases hm : mayS zs with
  | false => rw [hm] at h; simp at h
  | true =>
    rw [hm, if_neg (by simp)] at h
    by_cases e : tot16 (Ln zs) = 65536
    · exact ⟨rfl, e⟩
    · rw [if_neg e] at h; omega
set_option maxRecDepth 100000 in
set_option maxHeartbeats 2000000 in
theorem sfwords_ok (w : World) (v : Value) (zs : List Int) (h : Is .i64 w v zs) (h0 : schk zs = 0) : Calls Tryz.prog 35 #[v] w fun e w' => ∃ v', e = .returned (.tuple #[v', .int .i64 0]) ∧ Cds6 w' v' (Ln zs) ∧ Keep [] w w' ∧ ∀ b, v'.ownBlock = some b → w.heap.size ≤ b := by
  obtain ⟨hm, htot⟩ := schk_ok h0
  have hlen : zs.length ≤ 256 := ((mayS_iff zs).1 hm).2.1
  have HG : Hid (∀ w' (k : Keep [] w w') i (hi : i < zs.length), 1 ≤ len (Ln zs) i ∧ len (Ln zs) i ≤ 16 ∧ ∃ b off cap, v = .slice (some ⟨b, off, none⟩) zs.length cap ∧ w'.cell? ⟨b, off + i, none⟩ = some (.int .i64 (len (Ln zs) i : Nat))) := by
    intro w' k i hi
    obtain ⟨g1, g2, g3⟩ := mayS_get hm i hi
    refine ⟨g2, g3, ?_⟩
    rw [← g1]
    exact (h.keep k (by simp)).at i hi
  have HC := Lib.hid (sfcheck_c w v zs h)
  rw [h0] at HC
  have hN := Ln_length zs
  have h16 : ∀ k, k < (Ln zs).length → len (Ln zs) k ≤ 16 := fun k hk => (mayS_get hm k (by omega)).2.2
  obtain ⟨a, cap, rfl, _⟩ := h.sh
  generalize Ln zs = L at *
  have HAT : Hid (∀ i, i < zs.length → ah L i ≤ 65536) := fun i hi => by have := ah_top L i (by omega); omega
  have HAH : Hid (∀ i, ah L i = sm (fun k => if ahd L i k then wd16 L k else 0) zs.length) := fun i => by unfold ah; rw [hN]
  have HAS : Hid (∀ i k, k ≤ zs.length → sm (fun k => if ahd L i k then wd16 L k else 0) k ≤ ah L i) := fun i k hk => by
    unfold ah; exact sm_mono _ _ _ (by omega)
  have HN := Lib.hid hN
  clear h hm h0 htot hN h16
  go_enter Tryz.func35, Tryz.ntmps35
  go_wp2_with fail
  refine HC.out.mono ?_; rintro e w1 ⟨rfl, m1, rfl⟩
  go_wp2_with fail
  go_loopw [5, 6] (fun x i wr => ∃ (i' : Nat) (aw : Option Addr) (cw : Nat), i' ≤ zs.length ∧ i = .int .i64 i' ∧ x = .slice aw i' cw ∧ OwnC wr (.slice aw i' cw) (scode L) (len L) i' ∧ Keep [] w wr ∧ Hid (∀ b, (Value.slice aw i' cw).ownBlock = some b → w.heap.size ≤ b)) (fun _ i _ => zs.length - (intOf i).toNat)
  case atStart => exact ⟨0, none, 0, by omega, rfl, rfl, OwnC.nil _ _ _, (Keep.refl _ _).drewN _, fun b hb => by simp [Value.ownBlock] at hb⟩
  case round =>
    obtain ⟨i, aw, cw, hi, rfl, rfl, hO, hK, hB⟩ := hrel
    by_cases hlt : i < zs.length
    · have hai := HAT.out i hlt
      go_wp2_with fail
      go_loopw [7, 8] (fun x j w2 => ∃ (k y n : Nat), k ≤ zs.length ∧ j = .int .i64 k ∧ x = .int .i64 y ∧ y ≤ 65536 ∧ Hid (y = sm (fun k => if ahd L i k then wd16 L k else 0) k) ∧ w2 = wr.drewN n) (fun _ j _ => zs.length - (intOf j).toNat)
      case atStart => exact ⟨0, 0, 0, by omega, rfl, rfl, by omega, rfl, rfl⟩
      case round =>
        obtain ⟨k, y, n, hk, rfl, rfl, hy, HY, rfl⟩ := hrel
        by_cases hltk : k < zs.length
        · obtain ⟨gi1, gi2, b, off, cap', hv, ei⟩ := HG.out _ hK i hlt
          simp only [Value.slice.injEq] at hv
          obtain ⟨h1, h2, rfl⟩ := hv
          clear h2
          subst h1
          obtain ⟨gk1, gk2, b', off', cap'', hv, ek⟩ := HG.out _ hK k hltk
          simp only [Value.slice.injEq] at hv
          obtain ⟨h1, h2, rfl⟩ := hv
          clear h2
          injection h1 with h1
          injection h1 with h1 h2 _
          subst h1 h2
          have hstep : Hid (sm (fun k => if ahd L i k then wd16 L k else 0) (k + 1) = y + if ahd L i k then wd16 L k else 0) := by unfold Hid; rw [sm, HY.out]
          have hbd := HAS.out i (k + 1) (by omega)
          rw [hstep.out] at hbd
          have hiff := Lib.hid (ahd_iff L i k)
          have hwd : wd16 L k = 2 ^ (16 - len L k) := rfl
          rw [hwd] at hstep hbd
          have HT2 := Lib.hid (fun w' => sftwo_c w' (16 - len L k) (by omega))
          have hsub2 : (16 - ((len L k : Nat) : Int)) = ((16 - len L k : Nat) : Int) := by omega
          generalize 2 ^ (16 - len L k) = q at *
          generalize 16 - len L k = z at *
          generalize len L k = lk at *
          generalize len L i = li at *
          by_cases c1 : li < lk
          · have ha : ahd L i k = true := hiff.out.2 (.inl c1)
            rw [ha, if_pos rfl] at hstep hbd
            have d1 : decide (li < lk) = true := by simpa using c1
            clear ha hiff hwd
            go_wp2_with fail
            go_quiet (fail)
            go_wp2_with fail
            refine (HT2.out _).mono ?_; rintro e w3 ⟨rfl, m3, rfl⟩
            go_wp2_with fail
            go_roundw
            case rel => exact ⟨k + 1, y + q, _, by omega, by go_num, by go_num, by omega, by unfold Hid; rw [hstep.out], rfl⟩
            case measure => simp [intOf]; omega
          · have d1 : decide (li < lk) = false := by rw [decide_eq_false_iff_not]; exact c1
            by_cases c2 : lk = li
            · have d2 : ((lk : Int) == li) = true := by simp; omega
              by_cases c3 : i < k
              · have ha : ahd L i k = true := hiff.out.2 (.inr ⟨c2, c3⟩)
                rw [ha, if_pos rfl] at hstep hbd
                have d3 : decide (i < k) = true := by simpa using c3
                clear ha hiff hwd c2
                go_wp2_with fail
                go_quiet (fail)
                go_wp2_with fail
                refine (HT2.out _).mono ?_; rintro e w3 ⟨rfl, m3, rfl⟩
                go_wp2_with fail
                go_roundw
                case rel => exact ⟨k + 1, y + q, _, by omega, by go_num, by go_num, by omega, by unfold Hid; rw [hstep.out], rfl⟩
                case measure => simp [intOf]; omega
              · have ha : ahd L i k = false := by rw [Bool.eq_false_iff]; intro hh; have := hiff.out.1 hh; omega
                rw [ha, if_neg (by simp)] at hstep
                have d3 : decide (i < k) = false := by rw [decide_eq_false_iff_not]; exact c3
                clear ha hiff hwd c2 hbd
                go_wp2_with fail
                go_quiet (fail)
                go_wp2_with fail
                go_roundw
                case rel => exact ⟨k + 1, y, _, by omega, by go_num, rfl, hy, by unfold Hid; rw [hstep.out]; rfl, rfl⟩
                case measure => simp [intOf]; omega
            · have ha : ahd L i k = false := by rw [Bool.eq_false_iff]; intro hh; have := hiff.out.1 hh; omega
              rw [ha, if_neg (by simp)] at hstep
              have d2 : ((lk : Int) == li) = false := by simp; omega
              clear ha hiff hwd hbd
              go_wp2_with fail
              go_quiet (fail)
              go_wp2_with fail
              go_roundw
              case rel => exact ⟨k + 1, y, _, by omega, by go_num, rfl, hy, by unfold Hid; rw [hstep.out]; rfl, rfl⟩
              case measure => simp [intOf]; omega
        · obtain rfl : k = zs.length := by omega
          rw [← HAH.out i] at HY
          obtain ⟨gi1, gi2, b, off, cap', hv, ei⟩ := HG.out _ hK i hlt
          simp only [Value.slice.injEq] at hv
          obtain ⟨h1, h2, rfl⟩ := hv
          clear h2
          subst h1
          have hwd : wd16 L i = 2 ^ (16 - len L i) := rfl
          have hsw : Hid (sw L i = y / 2 ^ (16 - len L i)) := by unfold Hid sw; rw [hwd, HY.out]
          have hcode : Hid (scode L i = tr (len L i) (y / 2 ^ (16 - len L i)) 0) := by unfold Hid scode; rw [hsw.out]
          have HT2 := Lib.hid (fun w' => sftwo_c w' (16 - len L i) (by omega))
          have hsub2 : (16 - ((len L i : Nat) : Int)) = ((16 - len L i : Nat) : Int) := by omega
          have hq : 0 < 2 ^ (16 - len L i) := Nat.pow_pos (by decide)
          have hO2 := hO.keep ((Keep.refl [] wr).drewN n) (by simp)
          have hK2 := hK.drewN n
          have ei := ((Keep.refl [] wr).drewN n).cellW ei
          have HLI := Lib.hid (show len L i = len L i from rfl)
          generalize hli : len L i = li at *
          have HLE := Lib.hid hli
          generalize 16 - li = z at *
          have hdiv : (y : Int) / ((2 ^ z : Nat) : Int) = ((y / 2 ^ z : Nat) : Int) := by simp
          have hdle : y / 2 ^ z ≤ 65536 := Nat.le_trans (Nat.div_le_self _ _) hy
          have HTU := Lib.hid (fun w4 => turnref_c (y / 2 ^ z) (li : Int) w4 (by omega))
          rw [turn_code6 _ li gi2, ← hcode.out] at HTU
          generalize 2 ^ z = q at *
          generalize y / q = dv at *
          generalize wr.drewN n = w4 at hO2 hK2 ei ⊢
          clear hcode hsw hO hK hwd HY HAH HAS HAT HC HLI hli
          go_wp2_with fail
          refine (HT2.out _).mono ?_; rintro e w5 ⟨rfl, m5, rfl⟩
          have hO3 := hO2.keep ((Keep.refl [] w4).drewN m5) (by simp)
          have hK3 := hK2.drewN m5
          have ei3 := ((Keep.refl [] w4).drewN m5).cellW ei
          generalize w4.drewN m5 = w6 at hO3 hK3 ei3 ⊢
          have eiA : ∀ o, (w6.alloc o).cell? ⟨b, off + i, none⟩ = some (.int .i64 (li : Int)) := fun o => ((Keep.refl [] w6).alloc o).cellW ei3
          clear hO2 hK2 ei HT2
          go_wp2_with fail
          go_region_law (first
            | ((refine step_appendC (.tmp 69) (.tmp 81) rfl rfl (.slice aw i cw) (scode L) (len L) i rfl (hO3.keep (S := []) (by repeat (first | exact Keep.refl _ _ | refine Keep.alloc ?_ _ | refine Keep.drew ?_)) (by simp)) w6.heap.size rfl (by rw [HLE.out]; exact Blk.new _ _ _) (by omega) ?_); (intro v7 w7 ho7 hk7 hb7))
            | (go_simp; go_at_call 75; (refine (HTU.out _).mono ?_); (rintro e w' ⟨rfl, rfl⟩)))
          all_goals
            have K7 : Keep [] w w7 := by
              refine Keep.trans (hK3.trans (S' := []) ?_ (by simp)) hk7 ?_
              · repeat (first | exact Keep.refl _ _ | refine Keep.alloc ?_ _ | refine Keep.drew ?_)
              · intro b hb; right; exact hB.out b (by simpa using hb)
            have B7 : Hid (∀ b, v7.ownBlock = some b → w.heap.size ≤ b) := by
              intro b hb
              rcases hb7 b hb with h | h
              · exact hB.out b h
              · have := hK3.size; subst h; simp; omega
            obtain ⟨a7, c7, rfl, _⟩ := ho7.sts
            clear hO3 hK3 hk7 hb7 ei3 eiA
            go_wp2_with fail
            go_roundw
            case rel => exact ⟨i + 1, a7, c7, by omega, by go_num, rfl, ho7, K7, B7⟩
            case measure => simp [intOf]; omega
    · obtain rfl : i = zs.length := by omega
      have hs := hO.sts
      go_wp2_with fail
      go_ret2
      exact ⟨_, rfl, by unfold Cds6; rw [HN.out]; exact hs, hK, hB.out⟩
theorem sfwords_err (w : World) (v : Value) (zs : List Int) (h : Is .i64 w v zs) (h0 : schk zs ≠ 0) : Calls Tryz.prog 35 #[v] w fun e w' => e = .returned (.tuple #[.slice none 0 0, .int .i64 (schk zs)]) ∧ Keep [] w w' := by
  have HC := Lib.hid (sfcheck_c w v zs h)
  obtain ⟨a, cap, rfl, _⟩ := h.sh
  have hb : (((schk zs : Nat) : Int) != 0) = true := by simp; omega
  generalize schk zs = ck at *
  clear h
  go_enter Tryz.func35, Tryz.ntmps35
  go_wp2_with fail
  refine HC.out.mono ?_; rintro e w1 ⟨rfl, m1, rfl⟩
  go_wp2_with fail
  go_ret2
  exact ⟨rfl, (Keep.refl _ _).drewN _⟩
/-- lengths whose words are asked for: none where there is an error -/
def Ls (zs : List Int) : List Nat := if schk zs = 0 then Ln zs else []
theorem Cds6.nix (w : World) : Cds6 w (.slice none 0 0) [] := ⟨none, 0, rfl, by simp, by simp, fun _ => rfl, fun x hx => nomatch hx⟩
theorem sfwords_c (w : World) (v : Value) (zs : List Int) (h : Is .i64 w v zs) : Calls Tryz.prog 35 #[v] w fun e w' => ∃ v', e = .returned (.tuple #[v', .int .i64 (schk zs)]) ∧ Cds6 w' v' (Ls zs) ∧ Keep [] w w' ∧ (∀ b, v'.ownBlock = some b → w.heap.size ≤ b) ∧ (schk zs ≠ 0 → v' = .slice none 0 0) := by
  unfold Ls
  by_cases h0 : schk zs = 0
  · rw [if_pos h0]
    refine (sfwords_ok w v zs h h0).mono ?_
    rintro e w' ⟨v', rfl, a, b, c⟩
    exact ⟨v', by rw [h0]; rfl, a, b, c, fun h => absurd h0 h⟩
  · rw [if_neg h0]
    refine (sfwords_err w v zs h h0).mono ?_
    rintro e w' ⟨rfl, a⟩
    exact ⟨_, rfl, Cds6.nix _, a, by simp [Value.ownBlock], fun _ => rfl⟩
end Go.Proofs.YthmojejiaeninaaGreat
namespace Go.Proofs.YthmojejiaeninaaGreat
set_option linter.unusedVariables false
set_option linter.unusedSimpArgs false
open Go.ChangeShapes Go.WideShapes Go.ChangeAt Go.RowKit

theorem Cds6.at {w : World} {v : Value} {L : List Nat} (h : Cds6 w v L) (i : Nat) (hi : i < L.length) : ∃ b off cap, v = .slice (some ⟨b, off, none⟩) L.length cap ∧ w.cell? ⟨b, off + i * 2, none⟩ = some (.int .u32 (scode L i)) ∧ w.cell? ⟨b, off + i * 2 + 1, none⟩ = some (.int .i64 (len L i)) := by
  rcases Sts.cases (by decide) h with ⟨h0, _⟩ | ⟨_, b, off, cap, rfl, _, _, _, hc⟩
  · omega
  · exact ⟨b, off, cap, rfl, hc i hi 0 (by omega), hc i hi 1 (by omega)⟩
theorem Cds6.shape {w : World} {v : Value} {L : List Nat} (h : Cds6 w v L) : ∃ a cap, v = .slice a L.length cap ∧ L.length ≤ 9223372036854775807 := by
  obtain ⟨a, cap, rfl, h1, h2, _⟩ := h
  unfold maxLen at h2
  exact ⟨a, cap, rfl, by omega⟩
/-- the symbol whose word stands first -/
def spick (L : List Nat) (y : Nat) : Nat := ((List.range L.length).find? fun i => decide (y / wd16 L i = sw L i)).getD 0
/-- what reading a word bit by bit answers -/
def RS.nextS (L : List Nat) (s : RS) : Int × Nat × RS :=
  if s.E ≠ 0 then (-1, s.E, s) else
  let i := spick L (tr 16 (num s.l s.pos 16) 0)
  if len L i ≤ s.left then ((i : Int), 0, { s with pos := s.pos + len L i }) else (-1, 3, { s with pos := s.pos + s.left, err := 3 })
theorem spick_hit (L : List Nat) (y : Nat) (h16 : ∀ k, k < L.length → len L k ≤ 16) (hf : tot16 L = 65536) (hy : y < 65536) : shit L y (spick L y) := by
  obtain ⟨i, hi⟩ := shit_full L y h16 hf hy
  unfold spick
  rcases hp : (List.range L.length).find? (fun i => decide (y / wd16 L i = sw L i)) with _ | k
  · have := List.find?_eq_none.1 hp i (by simpa using hi.1)
    simp [hi.2] at this
  · have h1 := List.find?_some hp
    have h2 := List.mem_of_find?_eq_some hp
    exact ⟨by simpa using h2, by simpa using h1⟩
/-- word j of n bits stands first just where it is the one -/
theorem spick_bits (L : List Nat) (x n j : Nat) (h16 : ∀ k, k < L.length → len L k ≤ 16) (hf : tot16 L = 65536) (hj : j < L.length) (hn : len L j = n) : x % 2 ^ n = scode L j ↔ j = spick L (tr 16 x 0) := by
  subst hn
  rw [shit_bits L x j hj h16 hf]
  have hs := spick_hit L (tr 16 x 0) h16 hf (tr16_lt x)
  exact ⟨fun h => shit_unique L _ _ _ h16 hf h hs, fun h => h ▸ hs⟩
theorem nextS_err (L : List Nat) (s : RS) (h : s.E ≠ 0) : s.nextS L = (-1, s.E, s) := by unfold RS.nextS; rw [if_pos h]
theorem bits1_short (s : RS) (n : Nat) (hE : s.E = 0) (hn : n = s.left) : ({ s with pos := s.pos + n } : RS).bits 1 = (0, { s with pos := s.pos + n, err := 3 }) := by
  have e : ({ s with pos := s.pos + n } : RS).E = 0 := hE
  have e1 : s.left = 8 * s.l.length - s.pos := by unfold RS.left; rw [if_pos hE]
  have e2 : ({ s with pos := s.pos + n } : RS).left = 0 := by unfold RS.left; rw [if_pos e]; simp only; omega
  unfold RS.bits
  rw [if_neg (by omega), if_neg (by omega), if_pos (by rw [e2]; omega)]
  unfold RS.fail; rw [if_pos e]
theorem bits1_ok (s : RS) (n : Nat) (hE : s.E = 0) (hn : n < s.left) : ({ s with pos := s.pos + n } : RS).bits 1 = (num s.l (s.pos + n) 1, { s with pos := s.pos + (n + 1) }) := by
  have e : ({ s with pos := s.pos + n } : RS).E = 0 := hE
  have e1 : s.left = 8 * s.l.length - s.pos := by unfold RS.left; rw [if_pos hE]
  have e2 : ({ s with pos := s.pos + n } : RS).left = s.left - n := by unfold RS.left; rw [if_pos e, if_pos hE]; simp only; omega
  unfold RS.bits
  rw [if_neg (by omega), if_neg (by omega), if_neg (by rw [e2]; omega)]
  rfl
set_option maxRecDepth 100000 in
set_option maxHeartbeats 2000000 in
theorem sfnext_c (w : World) (q : Nat) (v cv : Value) (s : RS) (L : List Nat) (h16 : ∀ k, k < L.length → len L k ≤ 16) (h1 : ∀ k, k < L.length → 1 ≤ len L k) (hf : tot16 L = 65536) (hc : Cds6 w cv L) (hcq : ∀ b, cv.ownBlock = some b → b ≠ q) (h : Rr w q v s) : Calls Tryz.prog 83 #[cv, .pointer (some ⟨q, 0, none⟩)] w fun e w' => e = .returned (.tuple #[.int .i64 (s.nextS L).1, .int .i64 (s.nextS L).2.1]) ∧ Rr w' q v (s.nextS L).2.2 ∧ Keep [q] w w' := by
  by_cases hE : s.E = 0
  · have hs := spick_hit L (tr 16 (num s.l s.pos 16) 0) h16 hf (tr16_lt _)
    have hSB := fun n j => spick_bits L (num s.l s.pos 16) n j h16 hf
    have hnx : s.nextS L = if len L (spick L (tr 16 (num s.l s.pos 16) 0)) ≤ s.left then (((spick L (tr 16 (num s.l s.pos 16) 0) : Nat) : Int), 0, { s with pos := s.pos + len L (spick L (tr 16 (num s.l s.pos 16) 0)) }) else (-1, 3, { s with pos := s.pos + s.left, err := 3 }) := by
      unfold RS.nextS; rw [if_neg (by omega)]
    generalize spick L (tr 16 (num s.l s.pos 16) 0) = i at *
    have hi := hs.1
    have hli := h16 i hi
    have hli1 := h1 i hi
    have HNX := Lib.hid hnx
    have HSB := Lib.hid (fun n (hn : n ≤ 16) j (hj : j < L.length) (hl : len L j = n) => (by rw [← num_mod s.l s.pos 16 n hn]; exact hSB n j hj hl : num s.l s.pos n = scode L j ↔ j = i))
    have HCA := Lib.hid (fun w' (k : Keep [q] w w') j hj => Cds6.at (Sts.keep hc k (by simpa using hcq)) j hj)
    obtain ⟨a, cap, rfl, _⟩ := hc.shape
    have HL16 := Lib.hid h16
    clear hnx hSB hs hc hcq h16 h1 hf
    go_enter Tryz.func83, Tryz.ntmps83
    go_wp2_with fail
    go_loopw [6, 7] (fun b m wr => ∃ n : Nat, n < len L i ∧ n ≤ s.left ∧ m = .int .i64 ((n : Int) + 1) ∧ b = .int .u32 (num s.l s.pos n : Nat) ∧ Rr wr q v { s with pos := s.pos + n } ∧ Keep [q] w wr) (fun _ m _ => 17 - (intOf m).toNat)
    case atStart => exact ⟨0, by omega, by omega, rfl, rfl, h, Keep.refl _ _⟩
    case round =>
      obtain ⟨n, hn, hnl, rfl, rfl, hq, hK⟩ := hrel
      have HBC := Lib.hid (rbits_c wr q v { s with pos := s.pos + n } 1 hq)
      by_cases hleft : n < s.left
      · rw [bits1_ok s n hE hleft] at HBC
        have hnb := num_add s.l s.pos n 1
        have hb1 := num_lt s.l (s.pos + n) 1
        have hbn := num_lt s.l s.pos n
        clear hq
        go_wp2_with fail
        refine HBC.out.mono ?_; rintro e w2 ⟨rfl, hq2, k2⟩
        have K2 := hK.trans k2 (by simp)
        have c2 := hq2.1.cell 2 _ rfl
        have herr : ((s.err : Int) != 0) = false := by have := hq2.E; have : s.E = s.err := this; simp; omega
        clear HBC hK k2
        go_wp2_with fail
        have hnx16 : num s.l s.pos (n + 1) < 65536 := Nat.lt_of_lt_of_le (num_lt s.l s.pos (n + 1)) (Nat.pow_le_pow_right (n := 2) (j := 16) (by decide) (by omega))
        have hnn16 : num s.l s.pos n < 65536 := Nat.lt_of_lt_of_le hbn (Nat.pow_le_pow_right (n := 2) (j := 16) (by decide) (by omega))
        have HNB := Lib.hid hnb
        have HSN := Lib.hid (HSB.out (n + 1) (by omega))
        generalize num s.l (s.pos + n) 1 = bit at *
        generalize hnx2 : num s.l s.pos (n + 1) = nx at *
        have HNE := Lib.hid hnx2
        clear hnx2
        generalize num s.l s.pos n = nb at *
        have hb2 : bit ≤ 1 := by omega
        clear hnb hb1 hbn
        go_loopw [8, 9] (fun b k w3 => ∃ (j x : Nat), j ≤ n ∧ k = .int .i64 ((j : Int) + 1) ∧ b = .int .u32 x ∧ x ≤ 65536 ∧ Hid (x = 2 ^ j * bit) ∧ ∃ m, w3 = w2.drewN m) (fun _ k _ => n + 1 - (intOf k).toNat)
        case atStart => exact ⟨0, bit, by omega, rfl, rfl, by omega, by simp [Hid], 0, rfl⟩
        case round =>
          obtain ⟨j, x, hj, rfl, rfl, hx, HX, m3, rfl⟩ := hrel
          by_cases hjn : j < n
          · have hx2 : Hid (x * 2 = 2 ^ (j + 1) * bit) := by unfold Hid; rw [HX.out, Nat.pow_succ, Nat.mul_right_comm]
            have hx3 : x * 2 ≤ 65536 := by
              rw [hx2.out]
              have h1 : 2 ^ (j + 1) ≤ 2 ^ 16 := Nat.pow_le_pow_right (by decide) (by omega)
              have h2 := Nat.mul_le_mul h1 hb2
              omega
            go_wp2_with fail
            go_roundw
            case rel => exact ⟨j + 1, x * 2, by omega, by go_num, by go_num, hx3, hx2, _, rfl⟩
            case measure => simp [intOf]; omega
          · obtain rfl : j = n := by omega
            have hsum : (nb : Int) + x = (nx : Nat) := by have h1 := HNB.out; have h2 := HX.out; omega
            clear HX HNB
            go_wp2_with fail
            go_loopw [10] (fun k w3 => ∃ p : Nat, p ≤ L.length ∧ k = .int .i64 p ∧ Hid (∀ p', p' < p → ¬ (len L p' = j + 1 ∧ nx = scode L p')) ∧ ∃ m, w3 = w2.drewN m) (fun k _ => L.length - (intOf k).toNat)
            case atStart => exact ⟨0, by omega, rfl, fun p' hp => by omega, _, rfl⟩
            case round =>
              obtain ⟨p, hp, rfl, HR, m4, rfl⟩ := hrel
              by_cases hpl : p < L.length
              · obtain ⟨b, off, cap', hv, e0, e1⟩ := HCA.out _ K2 p hpl
                simp only [Value.slice.injEq] at hv
                obtain ⟨h1, h2, rfl⟩ := hv
                clear h2
                subst h1
                have HSP := Lib.hid (HSN.out p hpl)
                by_cases hl : len L p = j + 1
                · by_cases hcd : nx = scode L p
                  · have hpi : p = i := (HSP.out hl).1 hcd
                    subst hpi
                    have hres : Hid (s.nextS L = ((p : Int), 0, { s with pos := s.pos + (j + 1) })) := by unfold Hid; rw [HNX.out, if_pos (by omega), hl]
                    rw [hl] at e1
                    rw [← hcd] at e0
                    clear HR HSP HSN HSB HNX hl hcd
                    go_wp2_with fail
                    go_ret2
                    rw [hres.out]
                    exact ⟨rfl, hq2.drewN _, K2.drewN _⟩
                  · have hcd2 : (((scode L p : Nat) : Int) == (nx : Int)) = false := by
                      simp only [beq_eq_false_iff_ne, ne_eq]; intro e; exact hcd (Int.ofNat.inj e).symm
                    have HR2 : Hid (∀ p', p' < p + 1 → ¬ (len L p' = j + 1 ∧ nx = scode L p')) := by
                      intro p' hp'
                      by_cases e : p' = p
                      · subst e; exact fun h => hcd h.2
                      · exact HR.out p' (by omega)
                    rw [hl] at e1
                    generalize scode L p = cd at e0 hcd2
                    clear HR HSP hl hcd
                    go_wp2_with fail
                    go_roundw
                    case rel => exact ⟨p + 1, by omega, by go_num, HR2, _, rfl⟩
                    case measure => simp [intOf]; omega
                · have HR2 : Hid (∀ p', p' < p + 1 → ¬ (len L p' = j + 1 ∧ nx = scode L p')) := by
                    intro p' hp'
                    by_cases e : p' = p
                    · subst e; exact fun h => hl h.1
                    · exact HR.out p' (by omega)
                  have hl2 : (((len L p : Nat) : Int) == (j : Int) + 1) = false := by simp; omega
                  generalize scode L p = cd at e0
                  generalize len L p = lp at e1 hl2
                  clear HR HSP hl
                  go_wp2_with fail
                  go_roundw
                  case rel => exact ⟨p + 1, by omega, by go_num, HR2, _, rfl⟩
                  case measure => simp [intOf]; omega
              · obtain rfl : p = L.length := by omega
                have hlt : j + 1 < len L i := by
                  rcases Nat.lt_or_ge (j + 1) (len L i) with h | h
                  · exact h
                  · exfalso
                    have he : len L i = j + 1 := by omega
                    exact HR.out i hi ⟨he, (HSN.out i hi he).2 rfl⟩
                clear HR HSN
                go_wp2_with fail
                go_roundw
                case rel => exact ⟨j + 1, hlt, by omega, by go_num, by rw [HNE.out], hq2.drewN _, K2.drewN _⟩
                case measure => simp [intOf]; omega
      · have hnle : n = s.left := by omega
        rw [bits1_short s n hE hnle] at HBC
        have hgt : ¬ len L i ≤ s.left := by omega
        have HN2 := HNX.out
        rw [if_neg hgt] at HN2
        have HN3 := Lib.hid HN2
        clear HN2 HNX hq
        go_wp2_with fail
        refine HBC.out.mono ?_; rintro e w2 ⟨rfl, hq2, k2⟩
        have K2 := hK.trans k2 (by simp)
        have c2 := hq2.1.cell 2 _ rfl
        go_wp2_with fail
        go_quiet (fail)
        go_wp2_with fail
        go_ret2
        rw [HN3.out, ← hnle]
        exact ⟨rfl, hq2.drewN _, K2.drewN _⟩
  · have hne := Lib.hid (nextS_err L s hE)
    have hb : s.bits 1 = (0, s) := by
      unfold RS.bits
      rw [if_neg (by omega), if_pos hE, if_pos (by omega), RS.fail_fail _ _ hE]
    have HBC := Lib.hid (rbits_c w q v s 1 h)
    rw [hb] at HBC
    have hEe := Lib.hid h.E
    have herr : ((s.err : Int) != 0) = true := by have := h.E; simp; omega
    obtain ⟨a, cap, rfl, _⟩ := hc.shape
    clear hb hc hcq h hE h16 h1 hf
    go_enter Tryz.func83, Tryz.ntmps83
    go_wp2_with fail
    refine wp_loop_rounds 1 ?_
    rw [rounds_succ]
    go_wp2_with fail
    refine HBC.out.mono ?_; rintro e w2 ⟨rfl, hq2, k2⟩
    have c2 := hq2.1.cell 2 _ rfl
    go_wp2_with fail
    go_quiet (fail)
    go_wp2_with fail
    go_ret2
    rw [hne.out, hEe.out]
    exact ⟨rfl, hq2.drewN _, k2.drewN _⟩
end Go.Proofs.YthmojejiaeninaaGreat
namespace Go.Proofs.YthmojejiaeninaaGreat
set_option linter.unusedVariables false
set_option linter.unusedSimpArgs false
open Go.ChangeShapes Go.WideShapes Go.ChangeAt Go.RowKit

def perr (zs : List Int) : Nat := if mayS zs then 0 else 2
def packS (zs : List Int) : List UInt8 := if mayS zs then packL (Ln zs) else []
theorem OwnB.one (w : World) (x : UInt8) : OwnB (w.alloc (.cells #[.int .u8 (x.toNat)] 5)) (.slice (some ⟨w.heap.size, 0, none⟩) 1 1) [x] := by
  refine ⟨rfl, .inr ⟨w.heap.size, 1, #[.int .u8 (x.toNat)], rfl, Nat.zero_le _, heap_alloc_new w _, Nat.le_refl _, by decide, rfl, rfl⟩⟩
theorem OwnB.drewN {w : World} {v : Value} {l : List UInt8} (h : OwnB w v l) (n : Nat) : OwnB (w.drewN n) v l := h.keep ((Keep.refl [] w).drewN _) (by simp)
theorem drop_two (L : List Nat) (i : Nat) (h : i + 1 < L.length) : L.drop i = len L i :: len L (i + 1) :: L.drop (i + 2) := by
  rw [List.drop_eq_getElem_cons (by omega), List.drop_eq_getElem_cons h, len_get L i (by omega), len_get L (i + 1) h]
theorem drop_last (L : List Nat) (i : Nat) (h : i + 1 = L.length) : L.drop i = [len L i] := by
  rw [List.drop_eq_getElem_cons (by omega), len_get L i (by omega), List.drop_of_length_le (by omega)]
theorem drop_one (L : List Nat) (i : Nat) (h : i + 1 < L.length) : L.drop (i + 1) = len L (i + 1) :: L.drop (i + 2) := by
  rw [List.drop_eq_getElem_cons h, len_get L (i + 1) h]
set_option maxRecDepth 100000 in
set_option maxHeartbeats 2000000 in
theorem sfpack_c (w : World) (v : Value) (zs : List Int) (h : Is .i64 w v zs) : Calls Tryz.prog 33 #[v] w fun e w' => ∃ v', e = .returned (.tuple #[v', .int .i64 (perr zs)]) ∧ Bs w' v' (packS zs) ∧ Keep [] w w' ∧ (∀ b, v'.ownBlock = some b → w.heap.size ≤ b) := by
  have HMY := Lib.hid (sfmay_c w v zs h)
  cases hm : mayS zs with
  | false =>
    have HP : Hid (perr zs = 2 ∧ packS zs = []) := by unfold Hid perr packS; simp [hm]
    rw [hm] at HMY
    obtain ⟨a, cap, rfl, hl⟩ := h.sh
    clear hm h
    go_enter Tryz.func33, Tryz.ntmps33
    go_wp2_with fail
    refine HMY.out.mono ?_; rintro e w1 ⟨rfl, m1, rfl⟩
    go_wp2_with fail
    go_ret2
    exact ⟨_, by rw [HP.out.1]; rfl, by rw [HP.out.2]; exact Bs.nil _, (Keep.refl _ _).drewN _, by simp [Value.ownBlock]⟩
  | true =>
    have HP : Hid (perr zs = 0 ∧ packS zs = packL (Ln zs)) := by unfold Hid perr packS; simp [hm]
    rw [hm] at HMY
    have HG : Hid (∀ w' (k : Keep [] w w') i (hi : i < zs.length), 1 ≤ len (Ln zs) i ∧ len (Ln zs) i ≤ 16 ∧ ∃ b off cap, v = .slice (some ⟨b, off, none⟩) zs.length cap ∧ w'.cell? ⟨b, off + i, none⟩ = some (.int .i64 (len (Ln zs) i : Nat))) := by
      intro w' k i hi
      obtain ⟨g1, g2, g3⟩ := mayS_get hm i hi
      refine ⟨g2, g3, ?_⟩
      rw [← g1]
      exact (h.keep k (by simp)).at i hi
    have h256 := ((mayS_iff zs).1 hm).2.1
    have h1 := ((mayS_iff zs).1 hm).1
    have hN := Ln_length zs
    obtain ⟨a, cap, rfl, hl⟩ := h.sh
    generalize Ln zs = L at *
    have hpl := pk_len L 1
    have hpp : 0 < (pk 1 L).length := pk_pos L (by intro e; rw [e] at hN; simp at hN; omega) 1
    rw [hN] at hpl
    have HN := Lib.hid hN
    clear hm h hN
    go_enter Tryz.func33, Tryz.ntmps33
    go_wp2_with fail
    refine HMY.out.mono ?_; rintro e w1 ⟨rfl, m1, rfl⟩
    go_wp2_with fail
    go_loopw [4, 5, 6] (fun rv nv iv wr => ∃ (i n : Nat) (out : List UInt8) (aw : Option Addr) (cw : Nat), i ≤ zs.length ∧ 1 ≤ n ∧ n ≤ 16 ∧ iv = .int .i64 i ∧ nv = .int .i64 n ∧ rv = .slice aw out.length cw ∧ OwnB wr (.slice aw out.length cw) out ∧ Hid (out ++ pk n (L.drop i) = pk 1 L) ∧ Keep [] w wr ∧ Hid (∀ b, (Value.slice aw out.length cw).ownBlock = some b → w.heap.size ≤ b)) (fun _ _ iv _ => zs.length - (intOf iv).toNat)
    case atStart => exact ⟨0, 1, [], none, 0, by omega, by omega, by omega, rfl, rfl, rfl, OwnB.nil _, rfl, (Keep.refl _ _).drewN _, fun b hb => by simp [Value.ownBlock] at hb⟩
    case round =>
      obtain ⟨i, n, out, aw, cw, hi, hn1, hn2, rfl, rfl, rfl, hO, HE, hK, HB⟩ := hrel
      by_cases hlt : i < zs.length
      · obtain ⟨g1, g2, b, off, cap', hv, ei⟩ := HG.out _ hK i hlt
        simp only [Value.slice.injEq] at hv
        obtain ⟨hv1, hv2, rfl⟩ := hv
        clear hv2
        subst hv1
        have HB8 : Hid (((UInt8.ofNat ((n - 1) * 16 + len L i - 1)).toNat : Int) = ((n : Int) - 1) * 16 + len L i - 1) := by
          unfold Hid; rw [UInt8.toNat_ofNat', Nat.mod_eq_of_lt (by omega)]; omega
        have HX : Hid ((i + 1 < zs.length ∧ (len L (i + 1) = len L i ∧ n < 16) ∧ out ++ pk (n + 1) (L.drop (i + 1)) = pk 1 L) ∨
            (out ++ UInt8.ofNat ((n - 1) * 16 + len L i - 1) :: pk 1 (L.drop (i + 1)) = pk 1 L ∧ ¬ (i + 1 < zs.length ∧ len L (i + 1) = len L i ∧ n < 16))) := by
          have HE2 := HE.out
          by_cases hlt2 : i + 1 < zs.length
          · rw [drop_two L i (by rw [HN.out]; exact hlt2)] at HE2
            by_cases hc : len L (i + 1) = len L i ∧ n < 16
            · rw [pk_more n _ _ _ hc, ← drop_one L i (by rw [HN.out]; exact hlt2)] at HE2
              exact .inl ⟨hlt2, hc, HE2⟩
            · rw [pk_end n _ _ _ hc, ← drop_one L i (by rw [HN.out]; exact hlt2)] at HE2
              exact .inr ⟨HE2, fun h => hc h.2⟩
          · rw [drop_last L i (by rw [HN.out]; omega), pk_one] at HE2
            refine .inr ⟨?_, fun h => hlt2 h.1⟩
            rw [List.drop_of_length_le (by rw [HN.out]; omega)]; exact HE2
        clear HE
        rcases HX.out with ⟨hlt2, ⟨hyx, hn16⟩, HE2⟩ | ⟨HE2, hno⟩
        · obtain ⟨k1, k2, b', off', cap'', hv, ek⟩ := HG.out _ hK (i + 1) hlt2
          simp only [Value.slice.injEq] at hv
          obtain ⟨hv1, hv2, rfl⟩ := hv
          clear hv2
          injection hv1 with hv1
          injection hv1 with hv1 hv2 _
          subst hv1 hv2
          have HE3 := Lib.hid HE2
          have q1 : (((len L (i + 1) : Nat) : Int) == ((len L i : Nat) : Int)) = true := by simp; omega
          have q2 : decide ((n : Int) < 16) = true := by simp; omega
          have q0 : decide ((i : Int) + 1 < zs.length) = true := by simp; omega
          generalize len L (i + 1) = y at *
          generalize len L i = x at *
          clear HE2 HB8 HX hyx
          go_wp2_with fail
          go_quiet (fail)
          go_wp2_with fail
          go_roundw
          case rel => exact ⟨i + 1, n + 1, out, aw, cw, by omega, by omega, by omega, by go_num, by go_num, rfl, hO.drewN _, HE3, hK.drewN _, HB⟩
          case measure => simp [intOf]; omega
        · generalize hcc : UInt8.ofNat ((n - 1) * 16 + len L i - 1) = c at *
          have HE3 := Lib.hid HE2
          have hc256 := c.toNat_lt
          have hol : out.length ≤ zs.length := by
            have := congrArg List.length HE2
            simp at this; omega
          have D : Hid (decide ((i : Int) + 1 < zs.length) = false ∨ (i + 1 < zs.length ∧ decide ((i : Int) + 1 < zs.length) = true ∧ ∃ y : Nat, wr.cell? ⟨b, off + (i + 1), none⟩ = some (.int .i64 y) ∧
              (((y : Int) == ((len L i : Nat) : Int)) = false ∨ (((y : Int) == ((len L i : Nat) : Int)) = true ∧ decide ((n : Int) < 16) = false)))) := by
            by_cases hlt2 : i + 1 < zs.length
            · refine .inr ⟨hlt2, by simp; omega, len L (i + 1), ?_, ?_⟩
              · obtain ⟨k1, k2, b', off', cap'', hv, ek⟩ := HG.out _ hK (i + 1) hlt2
                simp only [Value.slice.injEq] at hv
                obtain ⟨hv1, hv2, rfl⟩ := hv
                injection hv1 with hv1
                injection hv1 with hv1 hv2 _
                subst hv1 hv2
                exact ek
              · by_cases hyx : len L (i + 1) = len L i
                · exact .inr ⟨by simp; omega, by simp; omega⟩
                · exact .inl (by simp; omega)
            · exact .inl (by simp; omega)
          generalize len L i = x at *
          clear HE2 HX hno hcc
          rcases D.out with q0 | ⟨hlt2, q0, y, ey, q1 | ⟨q1, q2⟩⟩
          all_goals
            clear D
            go_wp2_with fail
            go_quiet (fail)
            have e8 : (((n : Int) - 1) * 16 + x - 1) = c.toNat := HB8.out.symm
            have hO2 := (hO.drewN nq).keep ((Keep.refl [] (wr.drewN nq)).alloc (.cells #[.int .u8 (c.toNat)] 5)) (by simp)
            have hS := Bs.new1 (wr.drewN nq) c
            have hK2 := (hK.drewN nq).alloc (.cells #[.int .u8 (c.toNat)] 5)
            have hsz : (wr.drewN nq).heap.size = wr.heap.size := rfl
            go_wp2_with (at_builtin; (refine wpList_appendB (.tmp 39) (.tmp 50) rfl rfl (.slice aw out.length cw) out rfl hO2 _ [c] rfl hS (by simp; omega) ?_); (intro v3 w3 ho3 hk3 hb3 hz3))
            obtain ⟨a3, n3, c3, rfl⟩ := ho3.shape
            obtain rfl : n3 = (out ++ [c]).length := by obtain ⟨_, _, e, _⟩ := ho3.bs; simp only [Value.slice.injEq] at e; exact e.2.1
            have hk4 : Keep [] w w3 := hK2.trans hk3 (fun b hb => .inr (HB.out b (by simpa using hb)))
            have hb4 : Hid (∀ b, (Value.slice a3 (out ++ [c]).length c3).ownBlock = some b → w.heap.size ≤ b) := by
              intro b hb
              rcases hb3 b hb with h | h
              · exact HB.out b h
              · rw [h]; exact hK2.size
            have HE4 : Hid ((out ++ [c]) ++ pk 1 (L.drop (i + 1)) = pk 1 L) := by unfold Hid; rw [← HE3.out]; simp
            clear hO2 hS hK2 hsz hk3 hb3 hz3 hO hK HE3
            go_wp2_with fail
            go_roundw
            case rel => exact ⟨i + 1, 1, out ++ [c], a3, c3, by omega, by omega, by omega, by go_num, rfl, rfl, ho3, HE4, hk4, hb4⟩
            case measure => simp [intOf]; omega
      · obtain rfl : i = zs.length := by omega
        have HE2 := HE.out
        rw [List.drop_of_length_le (by rw [HN.out]; omega)] at HE2
        obtain rfl : out = pk 1 L := by rw [← HE2]; simp [pk]
        have HB8 : Hid (((UInt8.ofNat ((pk 1 L).length - 1)).toNat : Int) = ((pk 1 L).length : Int) - 1) := by
          unfold Hid; rw [UInt8.toNat_ofNat', Nat.mod_eq_of_lt (by omega)]; omega
        have HPK : Hid (packL L = [UInt8.ofNat ((pk 1 L).length - 1)] ++ pk 1 L) := rfl
        generalize UInt8.ofNat ((pk 1 L).length - 1) = c at *
        generalize pk 1 L = out at *
        have hc256 := c.toNat_lt
        have e8 : ((out.length : Int) - 1) = c.toNat := HB8.out.symm
        have hA := OwnB.one wr c
        have hS := hO.bs.keep ((Keep.refl [] wr).alloc (.cells #[.int .u8 (c.toNat)] 5)) (by simp)
        have hK2 := hK.alloc (.cells #[.int .u8 (c.toNat)] 5)
        have hsw := hK.size
        clear HE HE2 HG
        go_wp2_with (at_builtin; (refine wpList_appendB (.tmp 56) (.tmp 57) rfl rfl (.slice (some ⟨wr.heap.size, 0, none⟩) 1 1) [c] rfl hA (.slice aw out.length cw) out rfl hS (by simp; omega) ?_); (intro v3 w3 ho3 hk3 hb3 hz3))
        go_wp2_with fail
        go_ret2
        refine ⟨_, by rw [HP.out.1]; rfl, by rw [HP.out.2, HPK.out]; exact ho3.bs, hK2.trans hk3 (fun b hb => .inr (by simp [Value.ownBlock] at hb; omega)), fun b hb => ?_⟩
        rcases hb3 b hb with h | h
        · simp [Value.ownBlock] at h; omega
        · rw [h]; simp; omega
end Go.Proofs.YthmojejiaeninaaGreat
namespace Go.Proofs.YthmojejiaeninaaGreat
set_option linter.unusedVariables false
set_option linter.unusedSimpArgs false

/-- the parameters: the dictionary's size, the low bits, the least length -/
def win15 (large : Bool) : Nat := if large then 8192 else 4096
def low15 (large : Bool) : Nat := if large then 7 else 6
def least15 (trees : Bool) : Nat := if trees then 3 else 2
/-- a tree is read: what is wrong, its lengths, the reader -/
def tre (n : Int) (s : RS) : Nat × List Nat × RS :=
  if (s.unp n).2.1 ≠ 0 then ((s.unp n).2.1, [], (s.unp n).2.2) else (schk (s.unp n).1, Ls (s.unp n).1, (s.unp n).2.2)
/-- the bytes' tree, if there is one -/
def treB (trees : Bool) (s : RS) : Nat × List Nat × RS := if trees then tre 256 s else (0, [], s)
/-- the trees, one by one -/
structure T15 where
  e : Nat
  tb : List Nat
  tl : List Nat
  tf : List Nat
  s : RS
def opn15 (trees : Bool) (s : RS) : T15 :=
  if (treB trees s).1 ≠ 0 then ⟨(treB trees s).1, [], [], [], (treB trees s).2.2⟩
  else if (tre 64 (treB trees s).2.2).1 ≠ 0 then ⟨(tre 64 (treB trees s).2.2).1, [], [], [], (tre 64 (treB trees s).2.2).2.2⟩
  else ⟨(tre 64 (tre 64 (treB trees s).2.2).2.2).1, (treB trees s).2.1, (tre 64 (treB trees s).2.2).2.1, (tre 64 (tre 64 (treB trees s).2.2).2.2).2.1, (tre 64 (tre 64 (treB trees s).2.2).2.2).2.2⟩
/-- which byte is read -/
def byt15 (trees : Bool) (tb : List Nat) (s : RS) : Nat × Nat × RS :=
  if trees then ((s.nextS tb).1.toNat, (s.nextS tb).2.1, (s.nextS tb).2.2) else ((s.bits 8).1, (s.bits 8).2.E, (s.bits 8).2)
def lit15 (trees : Bool) (tb : List Nat) (s : RS) (o : HS) : Nat × HS × RS :=
  if (byt15 trees tb s).2.1 ≠ 0 then ((byt15 trees tb s).2.1, o, (byt15 trees tb s).2.2)
  else ((o.lit (UInt8.ofNat (byt15 trees tb s).1)).1, (o.lit (UInt8.ofNat (byt15 trees tb s).1)).2, (byt15 trees tb s).2.2)
/-- a length's word, and eight bits more if it is 63: the number, what is wrong, the reader -/
def len15 (tl : List Nat) (s : RS) : Nat × Nat × RS :=
  if (s.nextS tl).2.1 ≠ 0 then (0, (s.nextS tl).2.1, (s.nextS tl).2.2)
  else if (s.nextS tl).1 = 63 then (63 + ((s.nextS tl).2.2.bits 8).1, ((s.nextS tl).2.2.bits 8).2.E, ((s.nextS tl).2.2.bits 8).2)
  else ((s.nextS tl).1.toNat, 0, (s.nextS tl).2.2)
/-- distance and length of a copy: what is wrong, both, the reader -/
def two15 (low : Nat) (tl tf : List Nat) (s : RS) : Nat × Nat × Nat × RS :=
  if (s.bits low).2.E ≠ 0 then ((s.bits low).2.E, 0, 0, (s.bits low).2)
  else if ((s.bits low).2.nextS tf).2.1 ≠ 0 then (((s.bits low).2.nextS tf).2.1, 0, 0, ((s.bits low).2.nextS tf).2.2)
  else ((len15 tl ((s.bits low).2.nextS tf).2.2).2.1, ((s.bits low).2.nextS tf).1.toNat * 2 ^ low + (s.bits low).1 + 1, (len15 tl ((s.bits low).2.nextS tf).2.2).1, (len15 tl ((s.bits low).2.nextS tf).2.2).2.2)
def cop15 (low least : Nat) (tl tf : List Nat) (s : RS) (o : HS) : Nat × HS × RS :=
  if (two15 low tl tf s).1 ≠ 0 then ((two15 low tl tf s).1, o, (two15 low tl tf s).2.2.2)
  else ((o.copy (two15 low tl tf s).2.1 ((two15 low tl tf s).2.2.1 + least : Nat)).1, (o.copy (two15 low tl tf s).2.1 ((two15 low tl tf s).2.2.1 + least : Nat)).2, (two15 low tl tf s).2.2.2)
/-- a bit, then a byte or a copy -/
def step15 (trees : Bool) (low least : Nat) (t : T15) (s : RS) (o : HS) : Nat × HS × RS :=
  if (s.bits 1).2.E ≠ 0 then ((s.bits 1).2.E, o, (s.bits 1).2)
  else if (s.bits 1).1 = 1 then lit15 trees t.tb (s.bits 1).2 o
  else cop15 low least t.tl t.tf (s.bits 1).2 o
def dec15L (trees : Bool) (low least : Nat) (t : T15) : Nat → HS → RS → Nat → List UInt8 × Nat × Nat
  | 0, _, _, _ => ([], 0, 99)
  | F + 1, o, s, n =>
    if o.most ≤ o.b.length then (if 8 ≤ s.left then ([], 0, 5) else (o.b, n, 0))
    else if (step15 trees low least t s o).1 ≠ 0 then ([], 0, (step15 trees low least t s o).1)
    else dec15L trees low least t F (step15 trees low least t s o).2.1 (step15 trees low least t s o).2.2 (n + 1)
/-- what Decode answers: the text, the steps, what is wrong -/
def dec15 (b : List UInt8) (large trees : Bool) (size : Int) : List UInt8 × Nat × Nat :=
  if size < 0 then ([], 0, 2)
  else if size = 0 then (if b.length = 0 then ([], 0, 0) else ([], 0, 5))
  else if (opn15 trees ⟨b, 0, true, 0⟩).e ≠ 0 then ([], 0, (opn15 trees ⟨b, 0, true, 0⟩).e)
  else dec15L trees (low15 large) (least15 trees) (opn15 trees ⟨b, 0, true, 0⟩) (8 * b.length + 1) ⟨win15 large, size.toNat, true, []⟩ (opn15 trees ⟨b, 0, true, 0⟩).s 0
theorem fail_E (s : RS) (e : Nat) (he : e ≠ 0) : (s.fail e).E ≠ 0 := by
  unfold RS.fail
  by_cases hE : s.E = 0
  · rw [if_pos hE]
    unfold RS.E at hE ⊢
    dsimp only
    by_cases hm : s.made
    · rw [if_pos hm]; exact he
    · rw [if_neg hm]; decide
  · rw [if_neg hE]; exact hE
theorem bits_good0 (s : RS) (n : Int) (h : (s.bits n).2.E = 0) : s.E = 0 ∧ (s.bits n).2.l = s.l ∧ (s.bits n).2.pos = s.pos + n.toNat ∧ (s.pos ≤ 8 * s.l.length → s.pos + n.toNat ≤ 8 * s.l.length) := by
  unfold RS.bits at h ⊢
  by_cases h1 : n < 0 ∨ 32 < n
  · rw [if_pos h1] at h; exact absurd h (fail_E s 2 (by decide))
  rw [if_neg h1] at h ⊢
  by_cases h2 : s.E = 0
  · rw [if_neg (by simpa using h2)] at h ⊢
    have hl : s.left = 8 * s.l.length - s.pos := by unfold RS.left; rw [if_pos h2]
    by_cases h3 : (s.left : Int) < n
    · rw [if_pos h3] at h; exact absurd h (fail_E s 3 (by decide))
    · rw [if_neg h3]
      exact ⟨h2, rfl, rfl, fun hp => by omega⟩
  · rw [if_pos h2] at h
    by_cases h4 : 0 < n
    · rw [if_pos h4] at h; exact absurd h (fail_E s 3 (by decide))
    · rw [if_neg h4] at h; exact absurd h h2
/-- bits that were read -/
theorem bits_good (s : RS) (n : Int) (h : (s.bits n).2.E = 0) (hp : s.pos ≤ 8 * s.l.length) : s.E = 0 ∧ (s.bits n).2.l = s.l ∧ (s.bits n).2.pos = s.pos + n.toNat ∧ s.pos + n.toNat ≤ 8 * s.l.length := by
  obtain ⟨a, b, c, d⟩ := bits_good0 s n h
  exact ⟨a, b, c, d hp⟩
/-- a word that was read -/
theorem nextS_good (L : List Nat) (s : RS) (h : (s.nextS L).2.1 = 0) (hp : s.pos ≤ 8 * s.l.length) : ∃ i, s.E = 0 ∧ (s.nextS L).1 = ((i : Nat) : Int) ∧ i = spick L (tr 16 (num s.l s.pos 16) 0) ∧ (s.nextS L).2.2.l = s.l ∧ (s.nextS L).2.2.E = 0 ∧ (s.nextS L).2.2.pos = s.pos + len L i ∧ s.pos + len L i ≤ 8 * s.l.length := by
  unfold RS.nextS at h ⊢
  by_cases hE : s.E = 0
  · have hl : s.left = 8 * s.l.length - s.pos := by unfold RS.left; rw [if_pos hE]
    rw [if_neg (by simpa using hE)] at h ⊢
    dsimp only at h ⊢
    by_cases h1 : len L (spick L (tr 16 (num s.l s.pos 16) 0)) ≤ s.left
    · rw [if_pos h1]
      exact ⟨_, hE, rfl, rfl, rfl, hE, rfl, by omega⟩
    · rw [if_neg h1] at h; simp at h
  · rw [if_pos hE] at h; exact absurd h hE
/-- without the test for an error behind the low bits all is the same -/
theorem two15_free (low : Nat) (tl tf : List Nat) (s : RS) : two15 low tl tf s = if ((s.bits low).2.nextS tf).2.1 ≠ 0 then (((s.bits low).2.nextS tf).2.1, 0, 0, ((s.bits low).2.nextS tf).2.2)
  else ((len15 tl ((s.bits low).2.nextS tf).2.2).2.1, ((s.bits low).2.nextS tf).1.toNat * 2 ^ low + (s.bits low).1 + 1, (len15 tl ((s.bits low).2.nextS tf).2.2).1, (len15 tl ((s.bits low).2.nextS tf).2.2).2.2) := by
  unfold two15
  by_cases h : (s.bits low).2.E = 0
  · rw [if_neg (by simpa using h)]
  · rw [if_pos h, nextS_err tf _ h, if_pos h]
/-- a full tree -/
def Full15 (L : List Nat) : Prop := (∀ k, k < L.length → len L k ≤ 16) ∧ (∀ k, k < L.length → 1 ≤ len L k) ∧ tot16 L = 65536
theorem nextS_cost (L : List Nat) (s : RS) (hL : Full15 L) (h : (s.nextS L).2.1 = 0) (hp : s.pos ≤ 8 * s.l.length) : ∃ i, i < L.length ∧ (s.nextS L).1 = ((i : Nat) : Int) ∧ (s.nextS L).2.2.l = s.l ∧ (s.nextS L).2.2.E = 0 ∧ s.pos + 1 ≤ (s.nextS L).2.2.pos ∧ (s.nextS L).2.2.pos ≤ 8 * s.l.length := by
  obtain ⟨i, hE, h1, h2, h3, h4, h5, h6⟩ := nextS_good L s h hp
  have hi : i < L.length := by rw [h2]; exact (spick_hit L _ hL.1 hL.2.2 (tr16_lt _)).1
  have := hL.2.1 i hi
  exact ⟨i, hi, h1, h3, h4, by omega, by omega⟩
/-- a byte takes a bit at least, and grows what was told by a byte -/
theorem lit15_cost (trees : Bool) (tb : List Nat) (s : RS) (o : HS) (hL : trees = true → Full15 tb) (h : (lit15 trees tb s o).1 = 0) (hp : s.pos ≤ 8 * s.l.length) :
    (lit15 trees tb s o).2.1.b.length = o.b.length + 1 ∧ (lit15 trees tb s o).2.1.most = o.most ∧ (lit15 trees tb s o).2.1.b.length ≤ o.most ∧ (lit15 trees tb s o).2.2.l = s.l ∧ s.pos + 1 ≤ (lit15 trees tb s o).2.2.pos ∧ (lit15 trees tb s o).2.2.pos ≤ 8 * s.l.length := by
  have hb : (byt15 trees tb s).2.1 = 0 → (byt15 trees tb s).2.2.l = s.l ∧ s.pos + 1 ≤ (byt15 trees tb s).2.2.pos ∧ (byt15 trees tb s).2.2.pos ≤ 8 * s.l.length := by
    intro h0
    unfold byt15 at h0 ⊢
    cases trees with
    | true =>
      rw [if_pos rfl] at h0 ⊢
      obtain ⟨i, _, _, h3, _, h5, h6⟩ := nextS_cost tb s (hL rfl) h0 hp
      exact ⟨h3, h5, h6⟩
    | false =>
      rw [if_neg (by simp)] at h0 ⊢
      obtain ⟨_, h3, h4, h5⟩ := bits_good s 8 h0 hp
      have h8 : (8 : Int).toNat = 8 := rfl
      dsimp only
      rw [h8] at h4 h5
      exact ⟨h3, by omega, by omega⟩
  unfold lit15 at h ⊢
  by_cases h0 : (byt15 trees tb s).2.1 = 0
  · obtain ⟨g1, g2, g3⟩ := hb h0
    rw [if_neg (by simpa using h0)] at h ⊢
    dsimp only at h ⊢
    generalize UInt8.ofNat (byt15 trees tb s).1 = c at h ⊢
    unfold HS.lit at h ⊢
    by_cases hm : o.most ≤ o.b.length
    · rw [if_pos hm] at h; simp at h
    · rw [if_neg hm]
      dsimp only
      rw [List.length_append, List.length_singleton]
      exact ⟨rfl, rfl, by omega, g1, g2, g3⟩
  · rw [if_pos h0] at h; exact absurd h h0
theorem bits_lt15 (s : RS) (n : Nat) (hn : n ≤ 32) : (s.bits n).1 < 2 ^ n := by
  have h0 : 0 < 2 ^ n := Nat.two_pow_pos n
  unfold RS.bits
  split
  · exact h0
  · split
    · exact h0
    · split
      · exact h0
      · exact num_lt _ _ _
theorem len15_cost (tl : List Nat) (s : RS) (hL : Full15 tl) (h64 : tl.length ≤ 64) (h : (len15 tl s).2.1 = 0) (hp : s.pos ≤ 8 * s.l.length) :
    (len15 tl s).1 ≤ 318 ∧ (len15 tl s).2.2.l = s.l ∧ s.pos + 1 ≤ (len15 tl s).2.2.pos ∧ (len15 tl s).2.2.pos ≤ 8 * s.l.length := by
  unfold len15 at h ⊢
  by_cases h0 : (s.nextS tl).2.1 = 0
  · rw [if_neg (by simpa using h0)] at h ⊢
    obtain ⟨i, hi, h1, h3, h4, h5, h6⟩ := nextS_cost tl s hL h0 hp
    by_cases h63 : (s.nextS tl).1 = 63
    · rw [if_pos h63] at h ⊢
      dsimp only at h ⊢
      have hp2 : (s.nextS tl).2.2.pos ≤ 8 * (s.nextS tl).2.2.l.length := by rw [h3]; exact h6
      obtain ⟨_, g3, g4, g5⟩ := bits_good _ 8 h hp2
      have hb := bits_lt15 (s.nextS tl).2.2 8 (by decide)
      rw [h3] at g3 g5
      have h8 : (8 : Int).toNat = 8 := rfl
      rw [h8] at g4 g5
      have hb' : ((s.nextS tl).2.2.bits 8).1 < 256 := hb
      exact ⟨by omega, g3, by omega, by omega⟩
    · rw [if_neg h63]
      dsimp only
      exact ⟨by rw [h1]; omega, h3, h5, h6⟩
  · rw [if_pos h0] at h; exact absurd h h0
theorem two15_cost (low : Nat) (tl tf : List Nat) (s : RS) (hlow : low ≤ 32) (hL : Full15 tl) (h64 : tl.length ≤ 64) (hF : Full15 tf) (hf64 : tf.length ≤ 64) (h : (two15 low tl tf s).1 = 0) (hp : s.pos ≤ 8 * s.l.length) :
    1 ≤ (two15 low tl tf s).2.1 ∧ (two15 low tl tf s).2.1 ≤ 64 * 2 ^ low ∧ (two15 low tl tf s).2.2.1 ≤ 318 ∧ (two15 low tl tf s).2.2.2.l = s.l ∧ s.pos + 2 + low ≤ (two15 low tl tf s).2.2.2.pos ∧ (two15 low tl tf s).2.2.2.pos ≤ 8 * s.l.length := by
  unfold two15 at h ⊢
  by_cases h0 : (s.bits low).2.E = 0
  · rw [if_neg (by simpa using h0)] at h ⊢
    obtain ⟨_, g3, g4, g5⟩ := bits_good s low h0 hp
    have hb := bits_lt15 s low hlow
    generalize s.bits low = B at h h0 g3 g4 hb ⊢
    obtain ⟨x, s1⟩ := B
    dsimp only at h h0 g3 g4 hb ⊢
    have hp1 : s1.pos ≤ 8 * s1.l.length := by rw [g3, g4]; exact g5
    by_cases h1 : (s1.nextS tf).2.1 = 0
    · rw [if_neg (by simpa using h1)] at h ⊢
      obtain ⟨i, hi, k1, k3, k4, k5, k6⟩ := nextS_cost tf s1 hF h1 hp1
      generalize s1.nextS tf = N at h k1 k3 k5 k6 ⊢
      obtain ⟨y, e2, s2⟩ := N
      dsimp only at h k1 k3 k5 k6 ⊢
      have hp2 : s2.pos ≤ 8 * s2.l.length := by rw [k3]; exact k6
      obtain ⟨m1, m2, m3, m4⟩ := len15_cost tl s2 hL h64 h hp2
      have hy : y.toNat = i := by rw [k1]; rfl
      have hi63 : i ≤ 63 := by omega
      have hmul : i * 2 ^ low ≤ 63 * 2 ^ low := Nat.mul_le_mul_right _ hi63
      rw [hy]
      have hln : (low : Int).toNat = low := rfl
      rw [hln] at g4 g5
      rw [k3, g3] at m4 m2
      exact ⟨by omega, by omega, m1, m2, by omega, m4⟩
    · rw [if_pos h1] at h; exact absurd h h1
  · rw [if_pos h0] at h; exact absurd h h0
/-- a copy takes two bits at least, and grows what was told by its length -/
theorem cop15_cost (low least : Nat) (tl tf : List Nat) (s : RS) (o : HS) (hlow : low ≤ 32) (hL : Full15 tl) (h64 : tl.length ≤ 64) (hF : Full15 tf) (hf64 : tf.length ≤ 64) (h : (cop15 low least tl tf s o).1 = 0) (hp : s.pos ≤ 8 * s.l.length) (ho : o.b.length ≤ o.most) :
    o.b.length + least ≤ (cop15 low least tl tf s o).2.1.b.length ∧ (cop15 low least tl tf s o).2.1.b.length ≤ o.b.length + least + 318 ∧ (cop15 low least tl tf s o).2.1.most = o.most ∧ (cop15 low least tl tf s o).2.1.b.length ≤ o.most ∧ (cop15 low least tl tf s o).2.2.l = s.l ∧ s.pos + 2 ≤ (cop15 low least tl tf s o).2.2.pos ∧ (cop15 low least tl tf s o).2.2.pos ≤ 8 * s.l.length := by
  unfold cop15 at h ⊢
  by_cases h0 : (two15 low tl tf s).1 = 0
  · rw [if_neg (by simpa using h0)] at h ⊢
    obtain ⟨a1, a2, a3, a4, a5, a6⟩ := two15_cost low tl tf s hlow hL h64 hF hf64 h0 hp
    generalize two15 low tl tf s = T at h a1 a2 a3 a4 a5 a6 ⊢
    obtain ⟨e, d, n, s2⟩ := T
    dsimp only at h a1 a2 a3 a4 a5 a6 ⊢
    unfold HS.copy at h ⊢
    split at h
    · simp at h
    · split at h
      · simp at h
      · split at h
        · simp at h
        · rename_i c1 c2 c3
          rw [if_neg c1, if_neg c2, if_neg c3]
          dsimp only
          rw [cpy_len]
          exact ⟨by omega, by omega, rfl, by omega, a4, by omega, a6⟩
  · rw [if_pos h0] at h; exact absurd h h0
/-- trees that were read whole -/
def T15.ok (trees : Bool) (t : T15) : Prop := (trees = true → Full15 t.tb ∧ t.tb.length = 256) ∧ (Full15 t.tl ∧ t.tl.length = 64) ∧ Full15 t.tf ∧ t.tf.length = 64
/-- a step takes two bits at least, and grows what was told -/
theorem step15_cost (trees : Bool) (low least : Nat) (t : T15) (s : RS) (o : HS) (hlow : low ≤ 32) (hleast : 1 ≤ least) (ht : t.ok trees) (h : (step15 trees low least t s o).1 = 0) (hp : s.pos ≤ 8 * s.l.length) (ho : o.b.length ≤ o.most) :
    o.b.length + 1 ≤ (step15 trees low least t s o).2.1.b.length ∧ (step15 trees low least t s o).2.1.b.length ≤ o.b.length + least + 318 ∧ (step15 trees low least t s o).2.1.most = o.most ∧ (step15 trees low least t s o).2.1.b.length ≤ o.most ∧ (step15 trees low least t s o).2.2.l = s.l ∧ s.pos + 2 ≤ (step15 trees low least t s o).2.2.pos ∧ (step15 trees low least t s o).2.2.pos ≤ 8 * s.l.length := by
  unfold step15 at h ⊢
  by_cases h0 : (s.bits 1).2.E = 0
  · rw [if_neg (by simpa using h0)] at h ⊢
    obtain ⟨_, g3, g4, g5⟩ := bits_good s 1 h0 hp
    have h1 : (1 : Int).toNat = 1 := rfl
    rw [h1] at g4 g5
    have hp1 : (s.bits 1).2.pos ≤ 8 * (s.bits 1).2.l.length := by rw [g3, g4]; exact g5
    by_cases hb : (s.bits 1).1 = 1
    · rw [if_pos hb] at h ⊢
      obtain ⟨a1, a2, a3, a4, a5, a6⟩ := lit15_cost trees t.tb _ o (fun e => (ht.1 e).1) h hp1
      rw [g3] at a4 a6
      exact ⟨by omega, by omega, a2, a3, a4, by omega, a6⟩
    · rw [if_neg hb] at h ⊢
      obtain ⟨a1, a2, a3, a4, a5, a6, a7⟩ := cop15_cost low least t.tl t.tf _ o hlow ht.2.1.1 (by rw [ht.2.1.2]; decide) ht.2.2.1 (by rw [ht.2.2.2]; decide) h hp1 ho
      rw [g3] at a5 a7
      exact ⟨by omega, a2, a3, a4, a5, by omega, a7⟩
  · rw [if_pos h0] at h; exact absurd h h0
/-- what is told at all is as long as it shall be, in few steps -/
theorem dec15L_ok (trees : Bool) (low least : Nat) (t : T15) (hlow : low ≤ 32) (hleast : 1 ≤ least) (ht : t.ok trees) (F : Nat) (o : HS) (s : RS) (n : Nat) (hp : s.pos ≤ 8 * s.l.length) (ho : o.b.length ≤ o.most) (h2 : 2 * n ≤ s.pos) (hn : n ≤ o.b.length)
    (hd : (dec15L trees low least t F o s n).2.2 = 0) : (dec15L trees low least t F o s n).1.length = o.most ∧ (dec15L trees low least t F o s n).2.1 ≤ o.most ∧ (dec15L trees low least t F o s n).2.1 ≤ 4 * s.l.length := by
  induction F generalizing o s n with
  | zero => rw [dec15L] at hd; simp at hd
  | succ F ih =>
    rw [dec15L] at hd ⊢
    by_cases hm : o.most ≤ o.b.length
    · rw [if_pos hm] at hd ⊢
      by_cases h8 : 8 ≤ s.left
      · rw [if_pos h8] at hd; simp at hd
      · rw [if_neg h8]
        dsimp only
        exact ⟨by omega, by omega, by omega⟩
    · rw [if_neg hm] at hd ⊢
      by_cases h0 : (step15 trees low least t s o).1 = 0
      · rw [if_neg (by simpa using h0)] at hd ⊢
        obtain ⟨a1, a2, a3, a4, a5, a6, a7⟩ := step15_cost trees low least t s o hlow hleast ht h0 hp ho
        have := ih (step15 trees low least t s o).2.1 (step15 trees low least t s o).2.2 (n + 1) (by rw [a5]; exact a7) (by rw [a3]; exact a4) (by omega) (by omega) hd
        rw [a3, a5] at this
        exact this
      · rw [if_pos h0] at hd; exact absurd hd h0
theorem unpR_good (k : Nat) (s : RS) (h : (unpR k s).2.1 = 0) (hp : s.pos ≤ 8 * s.l.length) : (0 < k → s.E = 0) ∧ (unpR k s).2.2.l = s.l ∧ s.pos ≤ (unpR k s).2.2.pos ∧ (unpR k s).2.2.pos ≤ 8 * s.l.length := by
  induction k generalizing s with
  | zero => rw [unpR]; exact ⟨fun h => absurd h (by decide), rfl, Nat.le_refl _, hp⟩
  | succ k ih =>
    rw [unpR] at h ⊢
    by_cases h0 : (s.bits 8).2.E = 0
    · rw [if_neg (by simpa using h0)] at h ⊢
      obtain ⟨g1, g2, g3, g4⟩ := bits_good s 8 h0 hp
      by_cases h1 : (unpR k (s.bits 8).2).2.1 = 0
      · rw [if_neg (by simpa using h1)]
        obtain ⟨_, a2, a3, a4⟩ := ih (s.bits 8).2 h1 (by rw [g2, g3]; exact g4)
        rw [g2] at a2 a4
        exact ⟨fun _ => g1, a2, by dsimp only; omega, a4⟩
      · rw [if_pos h1] at h; exact absurd h h1
    · rw [if_pos h0] at h; exact absurd h h0
theorem unp_good (n : Int) (s : RS) (h : (s.unp n).2.1 = 0) (hp : s.pos ≤ 8 * s.l.length) : ((s.unp n).1.length : Int) = n ∧ (s.unp n).2.2.l = s.l ∧ s.pos ≤ (s.unp n).2.2.pos ∧ (s.unp n).2.2.pos ≤ 8 * s.l.length := by
  unfold RS.unp at h ⊢
  by_cases h0 : n < 1 ∨ 256 < n
  · rw [if_pos h0] at h; simp at h
  rw [if_neg h0] at h ⊢
  by_cases h1 : (unpR ((s.bits 8).1 + 1) (s.bits 8).2).2.1 = 0
  · rw [if_neg (by simpa using h1)] at h ⊢
    by_cases h2 : ((unpR ((s.bits 8).1 + 1) (s.bits 8).2).1.length : Int) = n
    · rw [if_neg (by simpa using h2)]
      have hE : (s.bits 8).2.E = 0 := by
        have := h1
        rw [unpR] at this
        by_cases e : ((s.bits 8).2.bits 8).2.E = 0
        · exact (bits_good0 _ 8 e).1
        · rw [if_pos e] at this; exact absurd this e
      obtain ⟨_, g2, g3, g4⟩ := bits_good s 8 hE hp
      obtain ⟨_, a2, a3, a4⟩ := unpR_good _ (s.bits 8).2 h1 (by rw [g2, g3]; exact g4)
      rw [g2] at a2 a4
      exact ⟨h2, a2, by dsimp only; omega, a4⟩
    · rw [if_pos h2] at h; simp at h
  · rw [if_pos h1] at h; exact absurd h h1
theorem tre_good (n : Int) (s : RS) (h : (tre n s).1 = 0) (hp : s.pos ≤ 8 * s.l.length) : Full15 (tre n s).2.1 ∧ ((tre n s).2.1.length : Int) = n ∧ (tre n s).2.2.l = s.l ∧ s.pos ≤ (tre n s).2.2.pos ∧ (tre n s).2.2.pos ≤ 8 * s.l.length := by
  unfold tre at h ⊢
  by_cases h0 : (s.unp n).2.1 = 0
  · rw [if_neg (by simpa using h0)] at h ⊢
    obtain ⟨a1, a2, a3, a4⟩ := unp_good n s h0 hp
    dsimp only at h ⊢
    obtain ⟨m1, m2⟩ := schk_ok h
    have hls : Ls (s.unp n).1 = Ln (s.unp n).1 := by unfold Ls; rw [if_pos h]
    rw [hls]
    have hlen : (Ln (s.unp n).1).length = (s.unp n).1.length := by unfold Ln; rw [List.length_map]
    refine ⟨⟨fun k hk => (mayS_get m1 k (by omega)).2.2, fun k hk => (mayS_get m1 k (by omega)).2.1, m2⟩, by omega, a2, a3, a4⟩
  · rw [if_pos h0] at h; exact absurd h h0
theorem opn15_good (trees : Bool) (s : RS) (h : (opn15 trees s).e = 0) (hp : s.pos ≤ 8 * s.l.length) : (opn15 trees s).ok trees ∧ (opn15 trees s).s.l = s.l ∧ (opn15 trees s).s.pos ≤ 8 * s.l.length := by
  have hB : (treB trees s).1 = 0 → (trees = true → Full15 (treB trees s).2.1 ∧ (treB trees s).2.1.length = 256) ∧ (treB trees s).2.2.l = s.l ∧ (treB trees s).2.2.pos ≤ 8 * s.l.length := by
    intro h0
    unfold treB at h0 ⊢
    cases trees with
    | true =>
      rw [if_pos rfl] at h0 ⊢
      obtain ⟨a, b, c, _, e⟩ := tre_good 256 s h0 hp
      exact ⟨fun _ => ⟨a, by omega⟩, c, e⟩
    | false => exact ⟨fun h => by simp at h, rfl, hp⟩
  unfold opn15 at h ⊢
  by_cases h0 : (treB trees s).1 = 0
  · obtain ⟨b1, b2, b3⟩ := hB h0
    rw [if_neg (by simpa using h0)] at h ⊢
    by_cases h1 : (tre 64 (treB trees s).2.2).1 = 0
    · rw [if_neg (by simpa using h1)] at h ⊢
      obtain ⟨c1, c2, c3, _, c5⟩ := tre_good 64 _ h1 (by rw [b2]; exact b3)
      rw [b2] at c3 c5
      generalize tre 64 (treB trees s).2.2 = X at h h1 c1 c2 c3 c5 ⊢
      obtain ⟨d1, d2, d3, _, d5⟩ := tre_good 64 X.2.2 h (by rw [c3]; exact c5)
      rw [c3] at d3 d5
      generalize tre 64 X.2.2 = Y at h d1 d2 d3 d5 ⊢
      exact ⟨⟨b1, ⟨c1, by show X.2.1.length = 64; omega⟩, d1, by show Y.2.1.length = 64; omega⟩, d3, d5⟩
    · rw [if_pos h1] at h; exact absurd h h1
  · rw [if_pos h0] at h; exact absurd h h0
/-- just size bytes, or nothing; in few steps -/
theorem dec15_ok (b : List UInt8) (large trees : Bool) (size : Int) (h : (dec15 b large trees size).2.2 = 0) : ((dec15 b large trees size).1.length : Int) = size ∧ ((dec15 b large trees size).2.1 : Int) ≤ size ∧ (dec15 b large trees size).2.1 ≤ 4 * b.length := by
  unfold dec15 at h ⊢
  by_cases h0 : size < 0
  · rw [if_pos h0] at h; simp at h
  rw [if_neg h0] at h ⊢
  by_cases h1 : size = 0
  · rw [if_pos h1] at h ⊢
    by_cases h2 : b.length = 0
    · rw [if_pos h2]; subst h1; exact ⟨rfl, Int.le_refl _, Nat.zero_le _⟩
    · rw [if_neg h2] at h; simp at h
  rw [if_neg h1] at h ⊢
  by_cases h2 : (opn15 trees ⟨b, 0, true, 0⟩).e = 0
  · rw [if_neg (by simpa using h2)] at h ⊢
    obtain ⟨t1, t2, t3⟩ := opn15_good trees ⟨b, 0, true, 0⟩ h2 (Nat.zero_le _)
    have := dec15L_ok trees (low15 large) (least15 trees) _ (by unfold low15; split <;> decide) (by unfold least15; split <;> decide) t1 (8 * b.length + 1) ⟨win15 large, size.toNat, true, []⟩ _ 0 (by rw [t2]; exact t3) (Nat.zero_le _) (Nat.zero_le _) (Nat.zero_le _) h
    rw [t2] at this
    dsimp only at this
    exact ⟨by omega, by omega, this.2.2⟩
  · rw [if_pos h2] at h; exact absurd h h2
theorem dec15_err (b : List UInt8) (large trees : Bool) (size : Int) (h : (dec15 b large trees size).2.2 ≠ 0) : (dec15 b large trees size).1 = [] ∧ (dec15 b large trees size).2.1 = 0 := by
  have hL : ∀ low least t F o s n, (dec15L trees low least t F o s n).2.2 ≠ 0 → (dec15L trees low least t F o s n).1 = [] ∧ (dec15L trees low least t F o s n).2.1 = 0 := by
    intro low least t F
    induction F with
    | zero => intro o s n _; exact ⟨rfl, rfl⟩
    | succ F ih =>
      intro o s n h
      rw [dec15L] at h ⊢
      by_cases a : o.most ≤ o.b.length
      · rw [if_pos a] at h ⊢
        by_cases c : 8 ≤ s.left
        · rw [if_pos c]; exact ⟨rfl, rfl⟩
        · rw [if_neg c] at h; simp at h
      · rw [if_neg a] at h ⊢
        by_cases c : (step15 trees low least t s o).1 = 0
        · rw [if_neg (by simpa using c)] at h ⊢; exact ih _ _ _ h
        · rw [if_pos c]; exact ⟨rfl, rfl⟩
  unfold dec15 at h ⊢
  by_cases h0 : size < 0
  · rw [if_pos h0]; exact ⟨rfl, rfl⟩
  rw [if_neg h0] at h ⊢
  by_cases h1 : size = 0
  · rw [if_pos h1] at h ⊢
    by_cases h2 : b.length = 0
    · rw [if_pos h2]; exact ⟨rfl, rfl⟩
    · rw [if_neg h2]; exact ⟨rfl, rfl⟩
  rw [if_neg h1] at h ⊢
  by_cases h2 : (opn15 trees ⟨b, 0, true, 0⟩).e = 0
  · rw [if_neg (by simpa using h2)] at h ⊢; exact hL _ _ _ _ _ _ _ h
  · rw [if_pos h2]; exact ⟨rfl, rfl⟩
end Go.Proofs.YthmojejiaeninaaGreat
namespace Go.Proofs.YthmojejiaeninaaGreat
set_option linter.unusedVariables false
set_option linter.unusedSimpArgs false

/-- bytes as bits -/
def b8 (l : List UInt8) : List Bool := l.flatMap (fun x => bitsOf x.toNat 8)
theorem b8_cons (x : UInt8) (l : List UInt8) : b8 (x :: l) = bitsOf x.toNat 8 ++ b8 l := by simp [b8]
theorem bitsOf_mod15 (d n : Nat) : bitsOf (d % 2 ^ n) n = bitsOf d n := by
  induction n generalizing d with
  | zero => rfl
  | succ n ih =>
    rw [bitsOf, bitsOf, Nat.pow_succ', Nat.mod_mul]
    have h1 : (d % 2 + 2 * (d / 2 % 2 ^ n)) % 2 = d % 2 := by omega
    have h2 : (d % 2 + 2 * (d / 2 % 2 ^ n)) / 2 = d / 2 % 2 ^ n := by omega
    rw [h1, h2, ih]
/-- a word that stands there is read -/
theorem nextS_at (L : List UInt8) (LL : List Nat) (i : Nat) (hi : i < LL.length) (hF : Full15 LL) (pre post : List Bool) (h : toBits L = (pre ++ bitsOf (scode LL i) (len LL i)) ++ post) :
    (⟨L, pre.length, true, 0⟩ : RS).nextS LL = ((i : Int), 0, ⟨L, (pre ++ bitsOf (scode LL i) (len LL i)).length, true, 0⟩) := by
  have hl := congrArg List.length h
  simp only [toBits_length, List.length_append, bitsOf_length] at hl
  have hE : (⟨L, pre.length, true, 0⟩ : RS).E = 0 := rfl
  have hn := num_seg L pre post (scode LL i) (len LL i) h
  rw [Nat.mod_eq_of_lt (scode_lt LL i)] at hn
  have h16 := hF.1 i hi
  have hs := (spick_bits LL (num L pre.length 16) (len LL i) i hF.1 hF.2.2 hi rfl).1 (by rw [num_mod L pre.length 16 _ h16, hn])
  unfold RS.nextS
  rw [if_neg (by simpa using hE)]
  dsimp only
  rw [← hs, if_pos (by unfold RS.left; rw [if_pos hE]; dsimp only; omega), List.length_append, bitsOf_length]
theorem unpR_at (L l : List UInt8) (pre post : List Bool) (h : toBits L = (pre ++ b8 l) ++ post) :
    unpR l.length ⟨L, pre.length, true, 0⟩ = (l.flatMap fun b => rowOf b.toNat, 0, ⟨L, (pre ++ b8 l).length, true, 0⟩) := by
  induction l generalizing pre with
  | nil => rw [b8]; simp [unpR]
  | cons x l ih =>
    rw [b8_cons] at h ⊢
    have hb := bits_at L pre (b8 l ++ post) x.toNat 8 (by rw [h]; simp [List.append_assoc]) (by decide) x.toNat_lt
    have h8 : ((8 : Nat) : Int) = 8 := rfl
    rw [h8] at hb
    have hE : (⟨L, (pre ++ bitsOf x.toNat 8).length, true, 0⟩ : RS).E = 0 := rfl
    rw [List.length_cons, unpR, hb, ih (pre ++ bitsOf x.toNat 8) (by rw [h]; simp [List.append_assoc])]
    simp only [hE, ne_eq, not_true_eq_false, if_false, List.flatMap_cons, List.append_assoc]
theorem may_map {zs : List Int} (h : mayS zs = true) : ((Ln zs).map fun (y : Nat) => (y : Int)) = zs := by
  apply List.ext_getElem
  · simp [Ln]
  · intro i h1 h2
    obtain ⟨e, _, _⟩ := mayS_get h i h2
    have h3 : i < (Ln zs).length := by simpa using h1
    rw [List.getElem_map, e]
    congr 1
    unfold len
    rw [List.getD_eq_getElem?_getD, List.getElem?_eq_getElem h3]; rfl
theorem full_of {zs : List Int} (h : schk zs = 0) : Full15 (Ln zs) ∧ (Ln zs).length = zs.length ∧ 0 < zs.length ∧ zs.length ≤ 256 := by
  obtain ⟨m1, m2⟩ := schk_ok h
  obtain ⟨a, b, _⟩ := (mayS_iff zs).1 m1
  have hlen : (Ln zs).length = zs.length := by unfold Ln; rw [List.length_map]
  exact ⟨⟨fun k hk => (mayS_get m1 k (by omega)).2.2, fun k hk => (mayS_get m1 k (by omega)).2.1, m2⟩, hlen, a, b⟩
/-- a tree that was packed is read -/
theorem tre_at (L : List UInt8) (zs : List Int) (n : Nat) (hz : schk zs = 0) (hn : zs.length = n) (pre post : List Bool) (h : toBits L = (pre ++ b8 (packL (Ln zs))) ++ post) :
    tre n ⟨L, pre.length, true, 0⟩ = (0, Ln zs, ⟨L, (pre ++ b8 (packL (Ln zs))).length, true, 0⟩) := by
  obtain ⟨m1, m2⟩ := schk_ok hz
  obtain ⟨hF, hlen, h0, h256⟩ := full_of hz
  have hp := pk_pos (Ln zs) (by intro e; rw [e] at hlen; simp at hlen; omega) 1
  have hl := pk_len (Ln zs) 1
  have hmap := may_map m1
  have hpk : packL (Ln zs) = UInt8.ofNat ((pk 1 (Ln zs)).length - 1) :: pk 1 (Ln zs) := rfl
  have hx : (UInt8.ofNat ((pk 1 (Ln zs)).length - 1)).toNat = (pk 1 (Ln zs)).length - 1 := by
    rw [UInt8.toNat_ofNat']; exact Nat.mod_eq_of_lt (by omega)
  rw [hpk, b8_cons, hx] at h ⊢
  have hb := bits_at L pre (b8 (pk 1 (Ln zs)) ++ post) ((pk 1 (Ln zs)).length - 1) 8 (by rw [h]; simp [List.append_assoc]) (by decide) (by omega)
  have h8 : ((8 : Nat) : Int) = 8 := rfl
  rw [h8] at hb
  have hr := unpR_at L (pk 1 (Ln zs)) (pre ++ bitsOf ((pk 1 (Ln zs)).length - 1) 8) post (by rw [h]; simp [List.append_assoc])
  have hrows : ((pk 1 (Ln zs)).flatMap fun b => rowOf b.toNat) = zs := by
    obtain ⟨x, M, hM⟩ : ∃ x M, Ln zs = x :: M := by
      cases e : Ln zs with
      | nil => rw [e] at hlen; simp at hlen; omega
      | cons x M => exact ⟨x, M, rfl⟩
    have hall : ∀ x ∈ Ln zs, 1 ≤ x ∧ x ≤ 16 := by
      intro x hx
      obtain ⟨i, hi, rfl⟩ := List.getElem_of_mem hx
      have e : len (Ln zs) i = (Ln zs)[i] := by unfold len; rw [List.getD_eq_getElem?_getD, List.getElem?_eq_getElem hi]; rfl
      rw [← e]
      exact ⟨hF.2.1 i hi, hF.1 i hi⟩
    rw [pk_rows (Ln zs) hall 1 (by omega) (by omega) x M hM, hmap]
    simp
  rw [hrows] at hr
  unfold tre RS.unp
  have hrr : unpR ((pk 1 (Ln zs)).length - 1 + 1) ⟨L, (pre ++ bitsOf ((pk 1 (Ln zs)).length - 1) 8).length, true, 0⟩ = (zs, 0, ⟨L, ((pre ++ bitsOf ((pk 1 (Ln zs)).length - 1) 8) ++ b8 (pk 1 (Ln zs))).length, true, 0⟩) := by
    rw [show (pk 1 (Ln zs)).length - 1 + 1 = (pk 1 (Ln zs)).length by omega]; exact hr
  rw [if_neg (show ¬ ((n : Int) < 1 ∨ 256 < (n : Int)) by omega), hb]
  dsimp only
  rw [hrr]
  dsimp only
  rw [if_neg (show ¬ ((0 : Nat) ≠ 0) by simp), if_neg (show ¬ ((zs.length : Int) ≠ (n : Int)) by omega)]
  dsimp only
  rw [if_neg (show ¬ ((0 : Nat) ≠ 0) by simp), hz]
  have hls : Ls zs = Ln zs := by unfold Ls; rw [if_pos hz]
  rw [hls, List.append_assoc]
/-- the bits ahead of the tokens -/
def hd15 (trees : Bool) (LB LL LF : List Nat) : List Bool := ((if trees then b8 (packL LB) else []) ++ b8 (packL LL)) ++ b8 (packL LF)
/-- a token's bits -/
def tkb15 (trees : Bool) (low least : Nat) (LB LL LF : List Nat) (t : Tk) : List Bool :=
  if t.len = 0 then bitsOf 1 1 ++ (if trees then bitsOf (scode LB t.lit.toNat) (len LB t.lit.toNat) else bitsOf t.lit.toNat 8)
  else (((bitsOf 0 1 ++ bitsOf (t.dist - 1).toNat low) ++ bitsOf (scode LF ((t.dist - 1).toNat / 2 ^ low)) (len LF ((t.dist - 1).toNat / 2 ^ low))) ++ bitsOf (scode LL (min (t.len - least).toNat 63)) (len LL (min (t.len - least).toNat 63)))
    ++ (if 63 ≤ (t.len - least).toNat then bitsOf ((t.len - least).toNat - 63) 8 else [])
/-- tokens that may be written -/
def tkOk15 (low least : Nat) (t : Tk) : Prop := (t.len = 0 ∧ t.dist = 0) ∨ ((least : Int) ≤ t.len ∧ t.len ≤ least + 318 ∧ 1 ≤ t.dist ∧ t.dist ≤ 64 * 2 ^ low)
def wb15 (trees : Bool) (low least : Nat) (LB LL LF : List Nat) (ts : List Tk) : List Bool := hd15 trees LB LL LF ++ ts.flatMap (tkb15 trees low least LB LL LF)
def wr15 (trees : Bool) (low least : Nat) (LB LL LF : List Nat) (ts : List Tk) : List UInt8 := ofBits (wb15 trees low least LB LL LF ts)
/-- the trees are read as they were written -/
theorem opn15_at (L : List UInt8) (trees : Bool) (zb zl zf : List Int) (hb : trees = true → schk zb = 0 ∧ zb.length = 256) (hl : schk zl = 0 ∧ zl.length = 64) (hf : schk zf = 0 ∧ zf.length = 64) (post : List Bool) (h : toBits L = hd15 trees (Ln zb) (Ln zl) (Ln zf) ++ post) :
    opn15 trees ⟨L, 0, true, 0⟩ = ⟨0, if trees then Ln zb else [], Ln zl, Ln zf, ⟨L, (hd15 trees (Ln zb) (Ln zl) (Ln zf)).length, true, 0⟩⟩ := by
  have h64 : ((64 : Nat) : Int) = 64 := rfl
  have hB : treB trees ⟨L, 0, true, 0⟩ = (0, if trees then Ln zb else [], ⟨L, (if trees then b8 (packL (Ln zb)) else []).length, true, 0⟩) := by
    unfold treB
    cases trees with
    | true =>
      rw [if_pos rfl, if_pos rfl, if_pos rfl]
      have := tre_at L zb 256 (hb rfl).1 (hb rfl).2 [] (b8 (packL (Ln zl)) ++ b8 (packL (Ln zf)) ++ post) (by rw [h, hd15, if_pos rfl]; simp [List.append_assoc])
      rw [List.nil_append] at this
      exact this
    | false => rfl
  unfold hd15 at h ⊢
  generalize (if trees then b8 (packL (Ln zb)) else []) = p at h hB ⊢
  have h2 := tre_at L zl 64 hl.1 hl.2 p (b8 (packL (Ln zf)) ++ post) (by rw [h]; simp [List.append_assoc])
  have h3 := tre_at L zf 64 hf.1 hf.2 (p ++ b8 (packL (Ln zl))) post (by rw [h])
  rw [h64] at h2 h3
  unfold opn15
  rw [hB]
  dsimp only
  rw [if_neg (show ¬ ((0 : Nat) ≠ 0) by simp), h2]
  dsimp only
  rw [if_neg (show ¬ ((0 : Nat) ≠ 0) by simp), h3]
/-- a token is read as it was written -/
theorem step15_at (L : List UInt8) (trees : Bool) (low least : Nat) (LB LL LF : List Nat) (hlow : low ≤ 7) (hB : trees = true → Full15 LB ∧ LB.length = 256) (hL : Full15 LL ∧ LL.length = 64) (hF : Full15 LF ∧ LF.length = 64) (e : Nat) (sx : RS) (t : Tk) (ht : tkOk15 low least t) (o : HS) (pre post : List Bool)
    (hls : 1 ≤ least) (h : toBits L = (pre ++ tkb15 trees low least LB LL LF t) ++ post) :
    step15 trees low least ⟨e, if trees then LB else [], LL, LF, sx⟩ ⟨L, pre.length, true, 0⟩ o = ((o.tk t).1, (o.tk t).2, ⟨L, (pre ++ tkb15 trees low least LB LL LF t).length, true, 0⟩) := by
  have h1 : ((1 : Nat) : Int) = 1 := rfl
  have h8 : ((8 : Nat) : Int) = 8 := rfl
  unfold tkb15 at h ⊢
  unfold step15 HS.tk
  by_cases h0 : t.len = 0
  · rw [if_pos h0] at h ⊢
    rw [if_pos h0]
    have hb := bits_at L pre ((if trees then bitsOf (scode LB t.lit.toNat) (len LB t.lit.toNat) else bitsOf t.lit.toNat 8) ++ post) 1 1 (by rw [h]; simp [List.append_assoc]) (by decide) (by decide)
    rw [h1] at hb
    rw [hb]
    dsimp only
    rw [if_neg (show ¬ ((⟨L, (pre ++ bitsOf 1 1).length, true, 0⟩ : RS).E ≠ 0) by simp [RS.E]), if_pos rfl, ← List.append_assoc]
    have hby : byt15 trees (if trees then LB else []) ⟨L, (pre ++ bitsOf 1 1).length, true, 0⟩ = (t.lit.toNat, 0, ⟨L, ((pre ++ bitsOf 1 1) ++ (if trees then bitsOf (scode LB t.lit.toNat) (len LB t.lit.toNat) else bitsOf t.lit.toNat 8)).length, true, 0⟩) := by
      unfold byt15
      cases trees with
      | true =>
        obtain ⟨f1, f2⟩ := hB rfl
        rw [if_pos rfl] at h ⊢
        rw [if_pos rfl, if_pos rfl]
        rw [nextS_at L LB t.lit.toNat (by have := t.lit.toNat_lt; omega) f1 (pre ++ bitsOf 1 1) post (by rw [h]; simp [List.append_assoc])]
        rfl
      | false =>
        rw [if_neg (by simp)] at h ⊢
        rw [if_neg (by simp)]
        have hb := bits_at L (pre ++ bitsOf 1 1) post t.lit.toNat 8 (by rw [h]; simp [List.append_assoc]) (by decide) t.lit.toNat_lt
        rw [h8] at hb
        rw [hb]
        rfl
    unfold lit15
    rw [hby]
    dsimp only
    rw [if_neg (show ¬ ((0 : Nat) ≠ 0) by simp), UInt8.ofNat_toNat]
  · rw [if_neg h0] at h ⊢
    rw [if_neg h0]
    obtain ⟨g1, g2, g3, g4⟩ : (least : Int) ≤ t.len ∧ t.len ≤ least + 318 ∧ 1 ≤ t.dist ∧ t.dist ≤ 64 * 2 ^ low := by
      rcases ht with ⟨a, _⟩ | b
      · exact absurd a h0
      · exact b
    obtain ⟨n, hn⟩ : ∃ n : Nat, t.len = (n : Int) + least := ⟨(t.len - least).toNat, by omega⟩
    obtain ⟨d, hd⟩ : ∃ d : Nat, t.dist = (d : Int) + 1 := ⟨(t.dist - 1).toNat, by omega⟩
    have en : (t.len - least).toNat = n := by omega
    have ed : (t.dist - 1).toNat = d := by omega
    have hn318 : n ≤ 318 := by omega
    have hd64 : d < 64 * 2 ^ low := by
      have : ((64 * 2 ^ low : Nat) : Int) = 64 * 2 ^ low := by simp
      omega
    rw [en, ed] at h ⊢
    have hdd : d / 2 ^ low < 64 := (Nat.div_lt_iff_lt_mul (Nat.two_pow_pos low)).2 hd64
    have hlb : bitsOf d low = bitsOf (d % 2 ^ low) low := (bitsOf_mod15 d low).symm
    rw [hlb] at h ⊢
    generalize hw3 : bitsOf (scode LF (d / 2 ^ low)) (len LF (d / 2 ^ low)) = W3 at h ⊢
    generalize hw4 : bitsOf (scode LL (min n 63)) (len LL (min n 63)) = W4 at h ⊢
    generalize hw5 : (if 63 ≤ n then bitsOf (n - 63) 8 else []) = W5 at h ⊢
    have hb := bits_at L pre (bitsOf (d % 2 ^ low) low ++ W3 ++ W4 ++ W5 ++ post) 0 1 (by rw [h]; simp [List.append_assoc]) (by decide) (by decide)
    have hb2 := bits_at L (pre ++ bitsOf 0 1) (W3 ++ W4 ++ W5 ++ post) (d % 2 ^ low) low (by rw [h]; simp [List.append_assoc]) (by omega) (Nat.mod_lt _ (Nat.two_pow_pos low))
    have hb3 := nextS_at L LF (d / 2 ^ low) (by omega) hF.1 ((pre ++ bitsOf 0 1) ++ bitsOf (d % 2 ^ low) low) (W4 ++ W5 ++ post) (by rw [h, hw3]; simp [List.append_assoc])
    rw [hw3] at hb3
    have hb4 := nextS_at L LL (min n 63) (by omega) hL.1 (((pre ++ bitsOf 0 1) ++ bitsOf (d % 2 ^ low) low) ++ W3) (W5 ++ post) (by rw [h, hw4]; simp [List.append_assoc])
    rw [hw4] at hb4
    rw [h1] at hb
    rw [hb]
    dsimp only
    rw [if_neg (show ¬ ((⟨L, (pre ++ bitsOf 0 1).length, true, 0⟩ : RS).E ≠ 0) by simp [RS.E]), if_neg (by decide)]
    have hlen : len15 LL ⟨L, (((pre ++ bitsOf 0 1) ++ bitsOf (d % 2 ^ low) low) ++ W3).length, true, 0⟩ = (n, 0, ⟨L, (((((pre ++ bitsOf 0 1) ++ bitsOf (d % 2 ^ low) low) ++ W3) ++ W4) ++ W5).length, true, 0⟩) := by
      unfold len15
      rw [hb4]
      dsimp only
      rw [if_neg (show ¬ ((0 : Nat) ≠ 0) by simp)]
      by_cases h63 : 63 ≤ n
      · rw [if_pos h63] at hw5
        subst hw5
        rw [if_pos (by omega)]
        have hb5 := bits_at L ((((pre ++ bitsOf 0 1) ++ bitsOf (d % 2 ^ low) low) ++ W3) ++ W4) post (n - 63) 8 (by rw [h]; simp [List.append_assoc]) (by decide) (by omega)
        rw [h8] at hb5
        rw [hb5]
        dsimp only
        have : 63 + (n - 63) = n := by omega
        rw [this]
        rfl
      · rw [if_neg h63] at hw5
        subst hw5
        rw [if_neg (by omega), List.append_nil]
        have : ((min n 63 : Nat) : Int).toNat = n := by omega
        rw [this]
    have htwo : two15 low LL LF ⟨L, (pre ++ bitsOf 0 1).length, true, 0⟩ = (0, d + 1, n, ⟨L, (((((pre ++ bitsOf 0 1) ++ bitsOf (d % 2 ^ low) low) ++ W3) ++ W4) ++ W5).length, true, 0⟩) := by
      unfold two15
      rw [hb2]
      dsimp only
      rw [if_neg (show ¬ ((⟨L, ((pre ++ bitsOf 0 1) ++ bitsOf (d % 2 ^ low) low).length, true, 0⟩ : RS).E ≠ 0) by simp [RS.E]), hb3]
      dsimp only
      rw [if_neg (show ¬ ((0 : Nat) ≠ 0) by simp), hlen]
      have : ((d / 2 ^ low : Nat) : Int).toNat * 2 ^ low + d % 2 ^ low + 1 = d + 1 := by
        rw [Int.toNat_natCast, Nat.mul_comm, Nat.div_add_mod]
      rw [this]
    unfold cop15
    rw [htwo]
    dsimp only
    rw [if_neg (show ¬ ((0 : Nat) ≠ 0) by simp), hn, hd]
    have : ((n + least : Nat) : Int) = (n : Int) + least := by simp
    have h2 : ((d + 1 : Nat) : Int) = (d : Int) + 1 := by simp
    rw [this, h2]
    simp only [List.append_assoc]
theorem tk_pos {low least : Nat} (hls : 1 ≤ least) {t : Tk} (ht : tkOk15 low least t) : 1 ≤ sz1 t := by
  unfold sz1
  rcases ht with ⟨a, _⟩ | ⟨a, _⟩
  · rw [if_pos a]; exact Nat.le_refl _
  · rw [if_neg (by omega)]; omega
/-- all tokens are read as they were written -/
theorem dec15L_at (L : List UInt8) (trees : Bool) (low least : Nat) (LB LL LF : List Nat) (hlow : low ≤ 7) (hls : 1 ≤ least) (hB : trees = true → Full15 LB ∧ LB.length = 256) (hL : Full15 LL ∧ LL.length = 64) (hF : Full15 LF ∧ LF.length = 64) (e : Nat) (sx : RS) (post : List Bool) (hpost : post.length < 8)
    (ts : List Tk) (hts : ∀ t ∈ ts, tkOk15 low least t) (F : Nat) (hFl : ts.length < F) (o : HS) (n : Nat) (ho : (tellT o ts).1 = 0) (hfull : (tellT o ts).2.b.length = o.most) (pre : List Bool) (h : toBits L = (pre ++ ts.flatMap (tkb15 trees low least LB LL LF)) ++ post) :
    dec15L trees low least ⟨e, if trees then LB else [], LL, LF, sx⟩ F o ⟨L, pre.length, true, 0⟩ n = ((tellT o ts).2.b, n + ts.length, 0) := by
  induction ts generalizing F o n pre with
  | nil =>
    obtain ⟨F, rfl⟩ : ∃ G, F = G + 1 := ⟨F - 1, by simp at hFl; omega⟩
    have hl := congrArg List.length h
    simp only [toBits_length, List.length_append, List.flatMap_nil, List.length_nil, Nat.add_zero] at hl
    rw [tellT] at hfull ⊢
    rw [dec15L, if_pos (by dsimp only at hfull; omega), if_neg (by unfold RS.left; rw [if_pos (show (⟨L, pre.length, true, 0⟩ : RS).E = 0 from rfl)]; dsimp only; omega)]
    rfl
  | cons t ts ih =>
    obtain ⟨F, rfl⟩ : ∃ G, F = G + 1 := ⟨F - 1, by simp at hFl; omega⟩
    have ht := hts t (by simp)
    have hsz := tellT_size ho
    have hp := tk_pos hls ht
    have hsum : sumT (t :: ts) = sz1 t + sumT ts := by simp [sumT]
    rw [List.flatMap_cons] at h
    have hst := step15_at L trees low least LB LL LF hlow hB hL hF e sx t ht o pre (ts.flatMap (tkb15 trees low least LB LL LF) ++ post) hls (by rw [h]; simp [List.append_assoc])
    rw [tellT] at ho hfull ⊢
    by_cases h1 : (o.tk t).1 = 0
    · rw [if_pos h1] at ho hfull ⊢
      rw [tellT, if_pos h1] at hsz
      have hm := (HS.tk_ok h1).2.2.1
      rw [dec15L, if_neg (by omega), hst]
      dsimp only
      rw [if_neg (by simpa using h1), ih (fun x hx => hts x (by simp [hx])) F (by simp at hFl; omega) (o.tk t).2 (n + 1) ho (by rw [hm]; exact hfull) (pre ++ tkb15 trees low least LB LL LF t) (by rw [h]; simp [List.append_assoc])]
      congr 2
      simp; omega
    · rw [if_neg h1] at ho; exact absurd ho h1
theorem tellT_fit {s : HS} {ts : List Tk} (h : (tellT s ts).1 = 0) (m : Nat) (hm : s.b.length + sumT ts ≤ m) : tellT { s with most := m } ts = (0, { (tellT s ts).2 with most := m }) := by
  induction ts generalizing s with
  | nil => simp [tellT]
  | cons t ts ih =>
    have hs : sumT (t :: ts) = sz1 t + sumT ts := by simp [sumT]
    rw [tellT] at h ⊢
    by_cases h1 : (s.tk t).1 = 0
    · rw [if_pos h1] at h
      have hk := (HS.tk_ok h1).1
      rw [(HS.tk_less h1 m (by omega)).1 (by omega), if_pos rfl, ih h (by omega), tellT, if_pos h1]
    · rw [if_neg h1] at h; exact absurd h h1
theorem pad8_append (bs : List Bool) : ∃ post, pad8 bs = bs ++ post ∧ post.length < 8 := by
  unfold pad8
  exact ⟨_, rfl, by simp; omega⟩
/-- tokens that may be written tell something, in a great room -/
theorem tellT_ok15 (low least : Nat) (ts : List Tk) (hts : ∀ t ∈ ts, tkOk15 low least t) (o : HS) (hn : o.nou = true) (hw : o.win = 64 * 2 ^ low) (hm : o.b.length + (least + 318) * ts.length ≤ o.most) (hls : 1 ≤ least) : (tellT o ts).1 = 0 := by
  induction ts generalizing o with
  | nil => rfl
  | cons t ts ih =>
    have ht := hts t (by simp)
    rw [List.length_cons, Nat.mul_succ] at hm
    have hp := tk_pos hls ht
    have h1 : (o.tk t).1 = 0 := by
      unfold HS.tk
      rcases ht with ⟨a, _⟩ | ⟨g1, g2, g3, g4⟩
      · rw [if_pos a]; unfold HS.lit; rw [if_neg (by omega)]
      · rw [if_neg (by omega)]
        unfold HS.copy
        have : ((64 * 2 ^ low : Nat) : Int) = 64 * 2 ^ low := by simp
        rw [if_neg (by omega), if_neg (by rw [hn, hw]; simp; omega), if_neg (by omega)]
    have hk := HS.tk_ok h1
    have hz : sz1 t ≤ least + 318 := by
      unfold sz1
      rcases ht with ⟨a, _⟩ | ⟨g1, g2, _, _⟩
      · rw [if_pos a]; omega
      · rw [if_neg (by omega)]; omega
    rw [tellT, if_pos h1]
    exact ih (fun x hx => hts x (by simp [hx])) (o.tk t).2 (by rw [hk.2.2.2]; exact hn) (by rw [hk.2.1]; exact hw) (by rw [hk.1, hk.2.2.1]; omega)
/-- TOLD AS THEY TELL: what is written of tokens is decoded as they tell -/
theorem dec15_wr (large trees : Bool) (zb zl zf : List Int) (hb : trees = true → schk zb = 0 ∧ zb.length = 256) (hl : schk zl = 0 ∧ zl.length = 64) (hf : schk zf = 0 ∧ zf.length = 64) (ts : List Tk) (hts : ∀ t ∈ ts, tkOk15 (low15 large) (least15 trees) t) (o : HS) (ho : (tellT o ts).1 = 0) (h0 : o.b = []) (hn : o.nou = true) (hw : o.win = win15 large) (hne : ts ≠ []) :
    dec15 (wr15 trees (low15 large) (least15 trees) (Ln zb) (Ln zl) (Ln zf) ts) large trees (tellT o ts).2.b.length = ((tellT o ts).2.b, ts.length, 0) := by
  have hsz := tellT_size ho
  have hls : 1 ≤ least15 trees := by unfold least15; split <;> decide
  have hlow : low15 large ≤ 7 := by unfold low15; split <;> decide
  have hpos : 1 ≤ sumT ts := by
    cases ts with
    | nil => exact absurd rfl hne
    | cons t ts => have := tk_pos hls (hts t (by simp)); simp [sumT]; omega
  rw [h0] at hsz
  simp only [List.length_nil, Nat.zero_add] at hsz
  have hfit := tellT_fit ho (sumT ts) (by rw [h0]; simp)
  obtain ⟨post, hp1, hp2⟩ := pad8_append (wb15 trees (low15 large) (least15 trees) (Ln zb) (Ln zl) (Ln zf) ts)
  have hbits : toBits (wr15 trees (low15 large) (least15 trees) (Ln zb) (Ln zl) (Ln zf) ts) = (hd15 trees (Ln zb) (Ln zl) (Ln zf) ++ ts.flatMap (tkb15 trees (low15 large) (least15 trees) (Ln zb) (Ln zl) (Ln zf))) ++ post := by
    unfold wr15; rw [toBits_ofBits, hp1]; rfl
  generalize wr15 trees (low15 large) (least15 trees) (Ln zb) (Ln zl) (Ln zf) ts = L at hbits ⊢
  have hop := opn15_at L trees zb zl zf hb hl hf (ts.flatMap (tkb15 trees (low15 large) (least15 trees) (Ln zb) (Ln zl) (Ln zf)) ++ post) (by rw [hbits]; simp [List.append_assoc])
  have hlb := congrArg List.length hbits
  have htl : ts.length ≤ (ts.flatMap (tkb15 trees (low15 large) (least15 trees) (Ln zb) (Ln zl) (Ln zf))).length := by
    generalize hg : tkb15 trees (low15 large) (least15 trees) (Ln zb) (Ln zl) (Ln zf) = g
    have h1 : ∀ t, 1 ≤ (g t).length := by
      intro t
      rw [← hg]
      unfold tkb15
      split
      · rw [List.length_append, bitsOf_length]; omega
      · simp only [List.length_append, bitsOf_length]; omega
    clear hg hop hbits hlb hfit hsz hpos hne ho hts hp1
    induction ts with
    | nil => simp
    | cons t ts ih => rw [List.flatMap_cons, List.length_append, List.length_cons]; have := h1 t; omega
  simp only [toBits_length, List.length_append] at hlb
  unfold dec15
  rw [hsz, if_neg (by omega), if_neg (by omega), hop]
  dsimp only
  rw [if_neg (show ¬ ((0 : Nat) ≠ 0) by simp), Int.toNat_natCast]
  have hB2 : trees = true → Full15 (Ln zb) ∧ (Ln zb).length = 256 := fun e => ⟨(full_of (hb e).1).1, by rw [(full_of (hb e).1).2.1]; exact (hb e).2⟩
  have heq : (⟨win15 large, sumT ts, true, []⟩ : HS) = { o with most := sumT ts } := by
    obtain ⟨a, b, c, d⟩ := o
    dsimp only at h0 hn hw ⊢
    rw [h0, hn, hw]
  have hd := dec15L_at L trees (low15 large) (least15 trees) (Ln zb) (Ln zl) (Ln zf) hlow hls hB2 ⟨(full_of hl.1).1, by rw [(full_of hl.1).2.1]; exact hl.2⟩ ⟨(full_of hf.1).1, by rw [(full_of hf.1).2.1]; exact hf.2⟩ 0 ⟨L, (hd15 trees (Ln zb) (Ln zl) (Ln zf)).length, true, 0⟩ post hp2 ts hts (8 * L.length + 1) (by omega) { o with most := sumT ts } 0 (by rw [hfit]) (by rw [hfit]; exact hsz) (hd15 trees (Ln zb) (Ln zl) (Ln zf)) hbits
  rw [heq, hd, hfit, Nat.zero_add]
end Go.Proofs.YthmojejiaeninaaGreat
namespace Go.Proofs.YthmojejiaeninaaGreat
set_option linter.unusedVariables false
set_option linter.unusedSimpArgs false
open Go.ChangeShapes Go.WideShapes Go.ChangeAt Go.RowKit

theorem smaybe_c (w : World) (v : Value) (zs : List Int) (h : Is .i64 w v zs) : Calls Tryz.prog 89 #[v] w fun e w' => e = .returned (.bool (mayS zs)) ∧ ∃ n, w' = w.drewN n := by
  have HI := Lib.hid (fun i hi => h.at i hi)
  obtain ⟨a, cap, rfl, hl⟩ := h.sh
  clear h
  by_cases h0 : zs.length < 1
  · have hb : mayS zs = false := by rw [Bool.eq_false_iff]; intro hm; have := (mayS_iff zs).1 hm; omega
    rw [hb]
    have h0' : zs.length = 0 := by omega
    rw [h0']
    clear hb HI hl h0 h0'
    go_enter Tryz.func89, Tryz.ntmps89
    go_wp2
    go_ret
    exact ⟨rfl, 0, rfl⟩
  by_cases hbig : 256 < zs.length
  · have hb : mayS zs = false := by rw [Bool.eq_false_iff]; intro hm; have := (mayS_iff zs).1 hm; omega
    rw [hb]
    clear hb HI
    go_enter Tryz.func89, Tryz.ntmps89
    go_wp2
    go_ret
    exact ⟨rfl, 0, rfl⟩
  go_enter Tryz.func89, Tryz.ntmps89
  go_wp2_with fail
  go_loopw [15] (fun i wr => ∃ k : Nat, k ≤ zs.length ∧ i = .int .i64 k ∧ Hid (∀ j (hj : j < zs.length), j < k → 1 ≤ zs[j] ∧ zs[j] ≤ 16) ∧ ∃ n, wr = w.drewN n) (fun i _ => zs.length - (intOf i).toNat)
  case atStart => exact ⟨0, by omega, rfl, fun j _ hj => by omega, 0, rfl⟩
  case round =>
    obtain ⟨k, hk, rfl, HR, n, rfl⟩ := hrel
    by_cases hlt : k < zs.length
    · obtain ⟨b, off, cap', hv, e1⟩ := HI.out k hlt
      simp only [Value.slice.injEq] at hv
      obtain ⟨rfl, hvv, rfl⟩ := hv
      clear hvv
      by_cases hbad : zs[k] < 1 ∨ 16 < zs[k]
      · have hc := Lib.hid (bad_S k hlt hbad)
        generalize zs[k] = z at e1 hbad
        by_cases hneg : z < 1
        · clear hbad
          go_wp2_with fail
          go_ret
          exact ⟨by rw [hc.out]; rfl, _, rfl⟩
        · have : 16 < z := by omega
          clear hbad
          go_wp2_with fail
          go_ret
          exact ⟨by rw [hc.out]; rfl, _, rfl⟩
      · have HR2 : Hid (∀ j (hj : j < zs.length), j < k + 1 → 1 ≤ zs[j] ∧ zs[j] ≤ 16) := by
          intro j hj hjk
          by_cases e : j = k
          · subst e; omega
          · exact HR.out j hj (by omega)
        generalize zs[k] = z at e1 hbad
        have h1 : 1 ≤ z := by omega
        have h2 : z ≤ 16 := by omega
        clear hbad HR
        go_wp2_with fail
        go_roundw
        case rel => exact ⟨k + 1, by omega, by go_num, HR2, _, rfl⟩
        case measure => simp [intOf]; omega
    · obtain rfl : k = zs.length := by omega
      have hm : mayS zs = true := (mayS_iff zs).2 ⟨by omega, by omega, fun z hz => by
        obtain ⟨j, hj, rfl⟩ := List.getElem_of_mem hz
        exact HR.out j hj hj⟩
      have HM := Lib.hid hm
      clear hm HR
      go_wp2_with fail
      go_ret
      exact ⟨by rw [HM.out]; rfl, _, rfl⟩
theorem shl1 (z : Nat) (hz : z ≤ 16) : ((2 : Int) ^ z = ((2 ^ z : Nat) : Int)) ∧ 2 ^ z ≤ 65536 := ⟨by simp, Nat.pow_le_pow_right (n := 2) (j := 16) (by decide) hz⟩
theorem sweight_c (w : World) (v : Value) (zs : List Int) (h : Is .i64 w v zs) (hm : mayS zs = true) : Calls Tryz.prog 92 #[v] w fun e w' => e = .returned (.int .i64 (tot16 (Ln zs) : Nat)) ∧ ∃ n, w' = w.drewN n := by
  have HG := Lib.hid (fun i hi => mayS_get hm i hi)
  have hlen := ((mayS_iff zs).1 hm).2.1
  have hN := Ln_length zs
  have HI := Lib.hid (fun i hi => h.at i hi)
  have hT : Hid (tot16 (Ln zs) = sm (wd16 (Ln zs)) zs.length) := by unfold Hid tot16; rw [hN]
  obtain ⟨a, cap, rfl, hl⟩ := h.sh
  clear h hm
  generalize Ln zs = L at *
  clear hN
  go_enter Tryz.func92, Tryz.ntmps92
  go_wp2_with fail
  go_loopw [3, 8] (fun x i wr => ∃ (k y : Nat), k ≤ zs.length ∧ i = .int .i64 k ∧ x = .int .i64 y ∧ y ≤ k * 65536 ∧ Hid (y = sm (wd16 L) k) ∧ ∃ n, wr = w.drewN n) (fun _ i _ => zs.length - (intOf i).toNat)
  case atStart => exact ⟨0, 0, by omega, rfl, rfl, by omega, rfl, 0, rfl⟩
  case round =>
    obtain ⟨k, y, hk, rfl, rfl, hy, HY, n, rfl⟩ := hrel
    by_cases hlt : k < zs.length
    · obtain ⟨b, off, cap', hv, e1⟩ := HI.out k hlt
      simp only [Value.slice.injEq] at hv
      obtain ⟨rfl, h2, rfl⟩ := hv
      clear h2
      obtain ⟨g1, g2, g3⟩ := HG.out k hlt
      rw [g1] at e1
      clear g1
      have hS : Hid (y + 2 ^ (16 - len L k) = sm (wd16 L) (k + 1)) := by unfold Hid; rw [sm, HY.out]; rfl
      obtain ⟨p1, p2⟩ := shl1 (16 - len L k) (by omega)
      have hsub2 : (16 - ((len L k : Nat) : Int)) = ((16 - len L k : Nat) : Int) := by omega
      generalize 16 - len L k = z at *
      obtain ⟨q, hq0⟩ : ∃ q, 2 ^ z = q := ⟨_, rfl⟩
      rw [hq0] at p1 p2 hS
      have hq : IntKind.i64.wrap ((2 : Int) ^ z) = (q : Int) := by rw [p1, IntKind.wrap_i64]; omega
      clear p1 hq0
      generalize len L k = lk at *
      go_wp2_with fail
      go_roundw
      case rel => exact ⟨k + 1, y + q, by omega, by go_num, by go_num, by omega, hS, _, rfl⟩
      case measure => simp [intOf]; omega
    · obtain rfl : k = zs.length := by omega
      rw [← HY.out] at hT
      go_wp2_with fail
      go_ret
      exact ⟨by rw [hT.out]; rfl, _, rfl⟩
/-- how far the first row goes -/
structure RowN (zs : List Int) (n : Nat) : Prop where
  pos : 1 ≤ n
  le : n ≤ 16
  len : n ≤ zs.length
  same : ∀ i, i < n → zs[i]? = zs[0]?
  stop : n = zs.length ∨ n = 16 ∨ zs[n]? ≠ zs[0]?
set_option maxHeartbeats 1000000 in
theorem srow_c (w : World) (v : Value) (zs : List Int) (h : Is .i64 w v zs) (h0 : 0 < zs.length) (h256 : zs.length ≤ 256) : Calls Tryz.prog 90 #[v] w fun e w' => ∃ n : Nat, e = .returned (.int .i64 n) ∧ RowN zs n ∧ ∃ m, w' = w.drewN m := by
  have HI := Lib.hid (fun i hi => h.at i hi)
  obtain ⟨b, off, cap, hv, e0⟩ := h.at 0 h0
  subst hv
  rw [Nat.add_zero] at e0
  clear h
  have hmin : ((min zs.length 16 : Nat) : Int) = min (zs.length : Int) 16 := by omega
  go_enter Tryz.func90, Tryz.ntmps90
  go_wp2_with fail
  go_loopw [3] (fun i wr => ∃ n : Nat, 1 ≤ n ∧ n ≤ 16 ∧ n ≤ zs.length ∧ i = .int .i64 n ∧ Hid (∀ j, j < n → zs[j]? = zs[0]?) ∧ ∃ m, wr = w.drewN m) (fun i _ => 16 - (intOf i).toNat)
  case atStart => exact ⟨1, by omega, by omega, by omega, rfl, fun j hj => by rw [show j = 0 by omega], 0, rfl⟩
  case round =>
    obtain ⟨n, h1, h2, h3, rfl, HR, m, rfl⟩ := hrel
    clear hmin
    rcases Nat.lt_or_ge 16 zs.length with hbn | hbn
    · have hbi : (16 : Int) < zs.length := by omega
      by_cases hlt : n < 16
      · have hlt2 : n < zs.length := by omega
        obtain ⟨b', off', cap', hv, e1⟩ := HI.out n hlt2
        simp only [Value.slice.injEq, Option.some.injEq, Addr.mk.injEq, and_true] at hv
        obtain ⟨⟨rfl, rfl⟩, hx, rfl⟩ := hv
        clear hx
        have d1 : decide ((n : Int) < 16) = true := by rw [decide_eq_true_eq]; omega
        by_cases he : zs[n]'hlt2 = zs[0]
        · have HR2 : Hid (∀ j, j < n + 1 → zs[j]? = zs[0]?) := by
            intro j hj
            by_cases e : j = n
            · subst e; rw [List.getElem?_eq_getElem hlt2, List.getElem?_eq_getElem h0, he]
            · exact HR.out j (by omega)
          rw [he] at e1
          generalize zs[0] = z at *
          have n16 : n < 16 := by omega
          clear HR he HI hbn
          go_wp2_with fail
          go_quiet (fail)
          go_wp2_with fail
          go_roundw
          case rel => exact ⟨n + 1, by omega, by omega, by omega, by go_num, HR2, _, rfl⟩
          case measure => simp [intOf]; omega
        · have hS : Hid (RowN zs n) := ⟨h1, h2, h3, HR.out, .inr (.inr (by
            rw [List.getElem?_eq_getElem hlt2, List.getElem?_eq_getElem h0]; simpa using he))⟩
          have d2 : (zs[n]'hlt2 == zs[0]) = false := by simpa using he
          generalize zs[n]'hlt2 = z1 at *
          generalize zs[0] = z at *
          clear HR he HI hbn
          go_wp2_with fail
          go_quiet (fail)
          go_wp2_with fail
          go_ret
          exact ⟨n, rfl, hS.out, _, World.drewN_drewN _ _ _⟩
      · have hS : Hid (RowN zs n) := ⟨h1, h2, h3, HR.out, by omega⟩
        have d1 : decide ((n : Int) < 16) = false := by rw [decide_eq_false_iff_not]; omega
        clear HR HI hbn
        go_wp2_with fail
        go_quiet (fail)
        go_wp2_with fail
        go_ret
        exact ⟨n, rfl, hS.out, _, World.drewN_drewN _ _ _⟩
    · have hbi : ¬ (16 : Int) < zs.length := by omega
      by_cases hlt : n < zs.length
      · have hlt2 : n < zs.length := by omega
        obtain ⟨b', off', cap', hv, e1⟩ := HI.out n hlt2
        simp only [Value.slice.injEq, Option.some.injEq, Addr.mk.injEq, and_true] at hv
        obtain ⟨⟨rfl, rfl⟩, hx, rfl⟩ := hv
        clear hx
        have d1 : decide ((n : Int) < zs.length) = true := by rw [decide_eq_true_eq]; omega
        have d3 : decide (n < zs.length) = true := by rw [decide_eq_true_eq]; omega
        by_cases he : zs[n]'hlt2 = zs[0]
        · have HR2 : Hid (∀ j, j < n + 1 → zs[j]? = zs[0]?) := by
            intro j hj
            by_cases e : j = n
            · subst e; rw [List.getElem?_eq_getElem hlt2, List.getElem?_eq_getElem h0, he]
            · exact HR.out j (by omega)
          rw [he] at e1
          generalize zs[0] = z at *
          have n16 : n < 16 := by omega
          clear HR he HI hbn
          go_wp2_with fail
          go_quiet (fail)
          go_wp2_with fail
          go_roundw
          case rel => exact ⟨n + 1, by omega, by omega, by omega, by go_num, HR2, _, rfl⟩
          case measure => simp [intOf]; omega
        · have hS : Hid (RowN zs n) := ⟨h1, h2, h3, HR.out, .inr (.inr (by
            rw [List.getElem?_eq_getElem hlt2, List.getElem?_eq_getElem h0]; simpa using he))⟩
          have d2 : (zs[n]'hlt2 == zs[0]) = false := by simpa using he
          generalize zs[n]'hlt2 = z1 at *
          generalize zs[0] = z at *
          clear HR he HI hbn
          go_wp2_with fail
          go_quiet (fail)
          go_wp2_with fail
          go_ret
          exact ⟨n, rfl, hS.out, _, World.drewN_drewN _ _ _⟩
      · have hS : Hid (RowN zs n) := ⟨h1, h2, h3, HR.out, by omega⟩
        have d1 : decide ((n : Int) < zs.length) = false := by rw [decide_eq_false_iff_not]; omega
        have d3 : decide (n < zs.length) = false := by rw [decide_eq_false_iff_not]; omega
        clear HR HI hbn
        go_wp2_with fail
        go_quiet (fail)
        go_wp2_with fail
        go_ret
        exact ⟨n, rfl, hS.out, _, World.drewN_drewN _ _ _⟩
end Go.Proofs.YthmojejiaeninaaGreat
namespace Go.Proofs.YthmojejiaeninaaGreat
set_option linter.unusedVariables false
set_option linter.unusedSimpArgs false
open Go.ChangeShapes Go.WideShapes Go.ChangeAt Go.RowKit

def sln : Value → Nat
  | .slice _ n _ => n
  | _ => 0
theorem or16 : ∀ a : Fin 16, ∀ b : Fin 16, a.val * 16 ||| b.val = a.val * 16 + b.val := by decide
theorem orI (a b : Nat) (ha : a < 16) (hb : b < 16) : Go.bits .or .i64 ((a : Int) * 16) (b : Int) = ((a * 16 + b : Nat) : Int) := by
  have h : Go.bits .or .i64 ((a * 16 : Nat) : Int) (b : Int) = ((a * 16 ||| b : Nat) : Int) := by
    have hx : a * 16 ||| b < 2 ^ 62 := Nat.or_lt_two_pow (by omega) (by omega)
    show IntKind.i64.wrap ((BitVec.ofInt 64 ((a * 16 : Nat) : Int) ||| BitVec.ofInt 64 (b : Int)).toNat : Int) = _
    rw [BitVec.toNat_or, ofInt_u64 _ (by omega), ofInt_u64 b (by omega), IntKind.wrap_i64]
    omega
  rw [or16 ⟨a, ha⟩ ⟨b, hb⟩] at h
  rw [← h]; simp
theorem Ln_drop (zs : List Int) (n : Nat) : Ln (zs.drop n) = (Ln zs).drop n := by simp [Ln]
set_option maxRecDepth 100000 in
theorem pack_arg (w : World) (v : Value) (zs : List Int) (h : Is .i64 w v zs) (hm : mayS zs = false) : Calls Tryz.prog 56 #[v] w fun e w' => e = .returned (.tuple #[.slice none 0 0, .int .i64 2]) ∧ Keep [] w w' := by
  have HM := Lib.hid (smaybe_c _ _ zs h)
  rw [hm] at HM
  clear h
  go_enter Tryz.func56, Tryz.ntmps56
  go_wp2_with fail
  refine HM.out.mono ?_; rintro e w1 ⟨rfl, n, rfl⟩
  clear HM
  go_wp2_with fail
  go_ret2
  exact ⟨rfl, (Keep.refl [] w).drewN n⟩
/-- what Pack's loop holds between its rounds -/
structure PkS (w : World) (zs ys : List Int) (v b : Value) (out : List UInt8) (wr : World) : Prop where
  isv : Is .i64 wr v ys
  own : OwnB wr b out
  all : ∀ z ∈ ys, 1 ≤ z ∧ z ≤ 16
  len : ys.length ≤ 256
  olen : out.length + ys.length ≤ 257
  eq : [0] ++ pk 1 (Ln zs) = out ++ pk 1 (Ln ys)
  keep : Keep [] w wr
  vb : ys ≠ [] → ∀ x, v.ownBlock = some x → x < w.heap.size
  bb : ∀ x, b.ownBlock = some x → w.heap.size ≤ x
set_option maxRecDepth 100000 in
set_option maxHeartbeats 4000000 in
theorem pack_ok (w : World) (v : Value) (zs : List Int) (h : Is .i64 w v zs) (hm : mayS zs = true) : Calls Tryz.prog 56 #[v] w fun e w' => ∃ v', e = .returned (.tuple #[v', .int .i64 0]) ∧ Bs w' v' (packL (Ln zs)) ∧ Keep [] w w' ∧ (∀ b, v'.ownBlock = some b → w.heap.size ≤ b) := by
  have HM := Lib.hid (smaybe_c _ _ zs h)
  rw [hm] at HM
  obtain ⟨m1, m2, m3⟩ := (mayS_iff zs).1 hm
  have HV := Lib.hid h
  have HA := Lib.hid m3
  clear h m3 hm
  obtain ⟨a, cap, rfl, hl⟩ := HV.out.sh
  go_enter Tryz.func56, Tryz.ntmps56
  go_wp2_with fail
  refine HM.out.mono ?_; rintro e w1 ⟨rfl, n, rfl⟩
  clear HM
  go_wp2_with fail
  have hS0 : Hid (PkS w zs zs (.slice a zs.length cap) (.slice (some ⟨(w.drewN n).heap.size, 0, none⟩) 1 1) [0] ((w.drewN n).alloc (.cells #[.int .u8 0] 5))) := by
    have K := ((Keep.refl [] w).drewN n).alloc (.cells #[.int .u8 0] 5)
    have ho := OwnB.one (w.drewN n) 0
    refine ⟨HV.out.keep K (by simp), ho, HA.out, m2, by simp; omega, rfl, K, fun hne x hx => ?_, fun x hx => ?_⟩
    · cases a with
      | none => simp [Value.ownBlock] at hx
      | some y =>
        obtain ⟨g, off, c, e1, e2⟩ := HV.out.at 0 m1
        simp only [Value.slice.injEq] at e1
        rw [e1.1] at hx
        obtain rfl : g = x := by simpa [Value.ownBlock] using hx
        apply Decidable.byContradiction
        intro hn
        have : w.heap[g]? = none := by rw [Array.getElem?_eq_none_iff]; omega
        simp [World.cell?, this] at e2
    · have : (w.drewN n).heap.size = x := by simpa [Value.ownBlock] using hx
      rw [← this]; exact ((Keep.refl [] w).drewN n).size
  generalize ((w.drewN n).alloc (.cells #[.int .u8 0] 5)) = w2 at hS0 ⊢
  rw [show (w.drewN n).heap.size = w.heap.size from rfl] at hS0
  clear HV HA
  go_loopw [0, 4] (fun v b wr => ∃ (ys : List Int) (a1 : Option Addr) (c1 : Nat) (out : List UInt8) (a2 : Option Addr) (c2 : Nat), v = .slice a1 ys.length c1 ∧ b = .slice a2 out.length c2 ∧ Hid (PkS w zs ys (.slice a1 ys.length c1) (.slice a2 out.length c2) out wr)) (fun v _ _ => sln v)
  case atStart => exact ⟨zs, a, cap, [0], _, 1, rfl, rfl, hS0⟩
  case round =>
    clear hS0
    obtain ⟨ys, a1, c1, out, a2, c2, rfl, rfl, HS⟩ := hrel
    by_cases hlt : 0 < ys.length
    · have HR := Lib.hid (srow_c wr _ ys HS.out.isv hlt HS.out.len)
      obtain ⟨g1, off1, c', e1, e2⟩ := HS.out.isv.at 0 hlt
      simp only [Value.slice.injEq] at e1
      obtain ⟨rfl, _, rfl⟩ := e1
      rw [Nat.add_zero] at e2
      obtain ⟨x1, x2⟩ := HS.out.all ys[0] (List.getElem_mem hlt)
      obtain ⟨x, hx⟩ : ∃ x : Nat, ys[0] = (x : Int) := ⟨ys[0].toNat, by omega⟩
      rw [hx] at e2 x1 x2
      have hys := HS.out.len
      have hol := HS.out.olen
      have hyi : (0 : Int) < (ys.length : Int) := by omega
      go_wp2_with fail
      refine HR.out.mono ?_; rintro e w3 ⟨m, rfl, hR, q, rfl⟩
      clear HR
      have r1 : (1 : Int) ≤ (m : Int) := by have := hR.pos; omega
      have r2 : (m : Int) ≤ 16 := by have := hR.le; omega
      obtain ⟨c, hc⟩ : ∃ c, UInt8.ofNat ((m - 1) * 16 + x - 1) = c := ⟨_, rfl⟩
      have hcn : (m - 1) * 16 + x - 1 = c.toNat := by rw [← hc, UInt8.toNat_ofNat', Nat.mod_eq_of_lt (by omega)]
      have hor : Go.bits .or .i64 (((m : Int) - 1) * 16) ((x : Int) - 1) = (c.toNat : Int) := by
        have := orI (m - 1) (x - 1) (by omega) (by omega)
        rw [show (((m - 1 : Nat) : Int)) = (m : Int) - 1 by omega, show (((x - 1 : Nat) : Int)) = (x : Int) - 1 by omega] at this
        rw [this, ← hcn]; omega
      have hc256 := c.toNat_lt
      have hu8 : IntKind.u8.wrap (c.toNat : Int) = (c.toNat : Int) := by rw [IntKind.wrap_u8]; omega
      have HPK : Hid (pk 1 (Ln ys) = c :: pk 1 (Ln (ys.drop m))) := by
        unfold Hid
        rw [Ln_drop, ← hc]
        refine pk_row (Ln ys) m x hR.pos hR.le (by rw [Ln_length]; exact hR.len) (fun i hi => ?_) ?_
        · have h1 := hR.same i hi
          simp only [Ln, List.getElem?_map, h1, List.getElem?_eq_getElem hlt, hx]; simp
        · rcases hR.stop with h1 | h1 | h1
          · left; rw [Ln_length]; exact h1
          · right; left; exact h1
          · right; right
            intro h2
            apply h1
            rw [List.getElem?_eq_getElem hlt, hx]
            simp only [Ln, List.getElem?_map, Option.map_eq_some_iff] at h2
            obtain ⟨z, hz, hzx⟩ := h2
            rw [hz]
            have := HS.out.all z (List.mem_of_getElem? hz)
            congr 1; omega
      obtain ⟨vr, hvr, hIr, hbr⟩ := HS.out.isv.from m (m : Int) rfl hR.len
      have HIr := Lib.hid hIr
      have HBr := Lib.hid hbr
      have hO2 := (HS.out.own.drewN q).keep ((Keep.refl [] (wr.drewN q)).alloc (.cells #[.int .u8 (c.toNat)] 5)) (by simp)
      have hS2 := Bs.new1 (wr.drewN q) c
      have hK2 := (HS.out.keep.drewN q).alloc (.cells #[.int .u8 (c.toNat)] 5)
      have HRl := Lib.hid hR.len
      clear hc hcn hIr hbr hx
      go_wp2_with (at_builtin; (refine wpList_appendB (.tmp 15) (.tmp 25) rfl rfl (.slice a2 out.length c2) out rfl hO2 _ [c] rfl hS2 (by simp; omega) ?_); (intro v3 w3 ho3 hk3 hb3 hz3))
      obtain ⟨ar, cr, rfl, hrl⟩ := HIr.out.sh
      obtain ⟨a3, n3, c3, rfl⟩ := ho3.shape
      obtain rfl : n3 = (out ++ [c]).length := by obtain ⟨_, _, e, _⟩ := ho3.bs; simp only [Value.slice.injEq] at e; exact e.2.1
      have hk13 : Keep (Value.slice a2 out.length c2).ownBlock.toList wr w3 := ((((Keep.refl [] wr).drewN q).alloc (.cells #[.int .u8 (c.toNat)] 5)).mono (by simp)).trans hk3 (fun x hx => .inl hx)
      have hne : ys ≠ [] := by rintro rfl; simp at hlt
      refine ⟨⟨ys.drop m, ar, cr, out ++ [c], a3, c3, rfl, rfl, ?_⟩, ?_⟩
      · refine ⟨HIr.out.keep hk13 (fun b hb hm => ?_), ho3, fun z hz => HS.out.all z (List.mem_of_mem_drop hz), ?_, ?_, ?_, hK2.trans hk3 (fun b hb => .inr (HS.out.bb b (by simpa using hb))), fun h x hx => HS.out.vb hne x (HBr.out x hx), fun b hb => ?_⟩
        · have h1 := HS.out.vb hne b (HBr.out b hb)
          have h2 := HS.out.bb b (by simpa using hm)
          omega
        · have := HS.out.len; simp; omega
        · have h1 := HS.out.olen; have h2 := HRl.out; simp; omega
        · rw [HS.out.eq, HPK.out]; simp
        · rcases hb3 b hb with h | h
          · exact HS.out.bb b h
          · rw [h]; have h5 := (HS.out.keep.drewN q).size; simp only [World.size_alloc]; omega
      · have h2 := HRl.out
        simp only [sln, List.length_drop]; omega
    · have hnil : ys = [] := by cases ys with | nil => rfl | cons x t => simp at hlt
      subst hnil
      have heq := HS.out.eq
      rw [show pk 1 (Ln []) = [] from rfl, List.append_nil] at heq
      have hpl := pk_pos (Ln zs) (by intro e; have := Ln_length zs; rw [e] at this; simp at this; omega) 1
      have hol := HS.out.olen
      have hlo : out.length = (pk 1 (Ln zs)).length + 1 := by rw [← heq]; simp
      have hPL : Hid (out.set 0 (UInt8.ofNat ((pk 1 (Ln zs)).length - 1)) = packL (Ln zs)) := by unfold Hid; rw [← heq]; rfl
      obtain ⟨c, hc⟩ : ∃ c, UInt8.ofNat ((pk 1 (Ln zs)).length - 1) = c := ⟨_, rfl⟩
      rw [hc] at hPL
      have hcn : (out.length : Int) - 2 = (c.toNat : Int) := by rw [← hc, UInt8.toNat_ofNat', Nat.mod_eq_of_lt (by simp at hol; omega)]; omega
      have hc256 := c.toNat_lt
      have hu8 : IntKind.u8.wrap ((out.length : Int) - 2) = (c.toNat : Int) := by rw [hcn, IntKind.wrap_u8]; omega
      have HO := Lib.hid HS.out.own
      have HK := Lib.hid HS.out.keep
      have HB := Lib.hid HS.out.bb
      simp at hol
      have hlo2 : 2 ≤ out.length := by omega
      clear HS hc hcn heq hpl hlo
      rcases HO.out.cases with ⟨hv, hl⟩ | ⟨g, cap', hv, hc1, hc2, hcells⟩
      · rw [hl] at hlo2; simp at hlo2
      · simp only [Value.slice.injEq] at hv
        obtain ⟨rfl, _, rfl⟩ := hv
        have c0 := hcells.1 0 (by omega)
        have f0 := HO.out.free 0
        have HO2 := Lib.hid (HO.out.store 0 (by omega) c)
        rw [hPL.out] at HO2
        have hbg := HB.out g rfl
        have hlz : (0 : Int) < (out.length : Int) := by omega
        clear hcells hPL
        generalize out[0] = y0 at c0
        go_wp2_with fail
        go_ret2
        have hb := HO2.out.bs
        refine ⟨_, rfl, hb, HK.out.setCell (.inr hbg) _, fun b hb => by simp [Value.ownBlock] at hb; omega⟩
theorem sf_pack (w : World) (v : Value) (zs : List Int) (h : Is .i64 w v zs) : Calls Tryz.prog 56 #[v] w fun e w' => ∃ v', e = .returned (.tuple #[v', .int .i64 (perr zs)]) ∧ Bs w' v' (packS zs) ∧ Keep [] w w' ∧ (∀ b, v'.ownBlock = some b → w.heap.size ≤ b) ∧ (perr zs ≠ 0 → v' = .slice none 0 0) := by
  unfold perr packS
  cases hm : mayS zs with
  | false =>
    refine (pack_arg w v zs h hm).mono ?_
    rintro e w' ⟨rfl, hk⟩
    exact ⟨_, rfl, (OwnB.nil w').bs, hk, by simp [Value.ownBlock], fun _ => rfl⟩
  | true =>
    refine (pack_ok w v zs h hm).mono ?_
    rintro e w' ⟨v', rfl, hb, hk, ho⟩
    exact ⟨v', rfl, hb, hk, ho, fun h => absurd rfl h⟩
end Go.Proofs.YthmojejiaeninaaGreat
namespace Go.Proofs.YthmojejiaeninaaGreat
set_option linter.unusedVariables false
set_option linter.unusedSimpArgs false
open Go.ChangeShapes Go.WideShapes Go.ChangeAt Go.RowKit

theorem bits_l15 (r : RS) (n : Int) : (r.bits n).2.l = r.l := by
  unfold RS.bits RS.fail
  repeat' split
  all_goals rfl
def Ob.rr (q : Nat) (v : Value) (s : RS) : Ob := Ob.box q #[v, .int .i64 s.pos, .int .i64 s.err] 100
/-- a reader of these bytes of the old memory -/
def Fr (W : World) (v : Value) (l : List UInt8) (s : RS) : Prop := Bs W v l ∧ s.l = l ∧ s.ok ∧ s.made = true
theorem Fr.E {W : World} {v : Value} {l : List UInt8} {s : RS} (h : Fr W v l s) : s.E = s.err := by simp [RS.E, h.2.2.2]
theorem St.rr {W w : World} {Ps : List Ob} (h : St W w Ps) (i : Nat) {q : Nat} {v : Value} {s : RS} {l : List UInt8} (hi : Ps[i]? = some (Ob.rr q v s)) (hf : Fr W v l s) : Rr w q v s := by
  obtain ⟨h1, h2, h3, h4⟩ := hf
  subst h2
  have := h.own i hi
  exact ⟨h.blk i hi, h1.keep h.kp (by simp), h3, h4, fun hl b hb => by have := h1.lt hl b hb; omega⟩
theorem St.setRr {W w w' : World} {Ps : List Ob} (h : St W w Ps) (i : Nat) {q : Nat} {v : Value} {s s' : RS} {l : List UInt8} (hi : Ps[i]? = some (Ob.rr q v s)) (hf : Fr W v l s) (hr : Rr w' q v s') (hk : Keep [q] w w') (hl : s'.l = s.l) : St W w' (Ps.set i (Ob.rr q v s')) ∧ Fr W v l s' := by
  obtain ⟨bs, ⟨rfl, h1⟩, h2, h3⟩ := h.focus i hi
  exact ⟨h3 w' (Ob.rr q v s') [q] ⟨rfl, hr.1⟩ hk (fun b hb => .inl hb), hf.1, hl.trans hf.2.1, hr.2.2.1, hr.2.2.2.1⟩
theorem st_rbits {W w : World} {Ps : List Ob} (h : St W w Ps) (i : Nat) {q : Nat} {v : Value} {s : RS} {l : List UInt8} (hi : Ps[i]? = some (Ob.rr q v s)) (hf : Fr W v l s) (n : Int) : Calls Tryz.prog 46 #[.pointer (some ⟨q, 0, none⟩), .int .i64 n] w fun e w' =>
    e = .returned (.int .u32 (s.bits n).1) ∧ St W w' (Ps.set i (Ob.rr q v (s.bits n).2)) ∧ Fr W v l (s.bits n).2 := by
  refine (rbits_c w q v s n (h.rr i hi hf)).mono ?_
  rintro e w' ⟨he, hr, hk⟩
  exact ⟨he, h.setRr i hi hf hr hk (bits_l15 s n)⟩
theorem st_rleft {W w : World} {Ps : List Ob} (h : St W w Ps) (i : Nat) {q : Nat} {v : Value} {s : RS} {l : List UInt8} (hi : Ps[i]? = some (Ob.rr q v s)) (hf : Fr W v l s) : Calls Tryz.prog 49 #[.pointer (some ⟨q, 0, none⟩)] w fun e w' => e = .returned (.int .i64 s.left) ∧ ∃ n, w' = w.drewN n :=
  rleft_c w q v s (h.rr i hi hf)
/-- the reader's cells -/
theorem St.rrCell {W w : World} {Ps : List Ob} (h : St W w Ps) (i : Nat) {q : Nat} {v : Value} {s : RS} (hi : Ps[i]? = some (Ob.rr q v s)) : w.cell? ⟨q, 2, none⟩ = some (.int .i64 s.err) := (h.blk i hi).cell 2 _ rfl
def Ob.rx (x : Nat) (s : HS) : Ob where
  P w bs := ∃ v : Value, bs = x :: v.ownBlock.toList ∧ Rx w x v s
  keep := fun ⟨v, h1, h2⟩ k hb => ⟨v, h1, h2.keep k (hb x (by simp [h1])) (fun b hb' => hb b (by simp [h1, hb']))⟩
  lt := fun {w bs} ⟨v, h1, h2⟩ b hb => by
    subst h1
    rcases List.mem_cons.1 hb with rfl | hb
    · exact h2.1.lt
    · exact h2.2.1.lt b (by simpa using hb)
theorem St.rx {W w : World} {Ps : List Ob} (h : St W w Ps) (i : Nat) {x : Nat} {s : HS} (hi : Ps[i]? = some (Ob.rx x s)) : ∃ v, Rx w x v s := by
  obtain ⟨bs, ⟨v, _, h1⟩, _⟩ := h.get i hi; exact ⟨v, h1⟩
theorem st_rlit {W w : World} {Ps : List Ob} (h : St W w Ps) (i : Nat) {x : Nat} {s : HS} (hi : Ps[i]? = some (Ob.rx x s)) (c : UInt8) (hl : s.b.length + 1 ≤ 140737488355328) : Calls Tryz.prog 84 #[.pointer (some ⟨x, 0, none⟩), .int .u8 c.toNat] w fun e w' => e = .returned (.int .i64 (s.lit c).1) ∧ St W w' (Ps.set i (Ob.rx x (s.lit c).2)) := by
  obtain ⟨bs, ⟨v, rfl, h1⟩, h2, h3⟩ := h.focus i hi
  refine (refhs_lit w x v s c h1 hl).mono ?_
  rintro e w' ⟨v', he, hr, hk, hb⟩
  refine ⟨he, h3 w' _ _ ⟨v', rfl, hr⟩ hk (fun b hb' => ?_)⟩
  rcases List.mem_cons.1 hb' with rfl | hb'
  · exact .inl (by simp)
  · rcases hb b (by simpa using hb') with h | h
    · exact .inl (by simp [h])
    · exact .inr h
theorem st_rcopy {W w : World} {Ps : List Ob} (h : St W w Ps) (i : Nat) {x : Nat} {s : HS} (hi : Ps[i]? = some (Ob.rx x s)) (d n : Int) (hn : n ≤ 9223372036854775807) (hl : (s.b.length : Int) + (if (s.most : Int) - s.b.length < n then 0 else max 0 n) ≤ 140737488355000) : Calls Tryz.prog 85 #[.pointer (some ⟨x, 0, none⟩), .int .i64 d, .int .i64 n] w fun e w' => e = .returned (.int .i64 (s.copy d n).1) ∧ St W w' (Ps.set i (Ob.rx x (s.copy d n).2)) := by
  obtain ⟨bs, ⟨v, rfl, h1⟩, h2, h3⟩ := h.focus i hi
  refine (refhs_copy w x v s d n h1 hn hl).mono ?_
  rintro e w' ⟨v', he, hr, hk, hb⟩
  refine ⟨he, h3 w' _ _ ⟨v', rfl, hr⟩ hk (fun b hb' => ?_)⟩
  rcases List.mem_cons.1 hb' with rfl | hb'
  · exact .inl (by simp)
  · rcases hb b (by simpa using hb') with h | h
    · exact .inl (by simp [h])
    · exact .inr h
def Ob.cds (v : Value) (L : List Nat) : Ob where
  P w bs := bs = v.ownBlock.toList ∧ Cds6 w v L ∧ ∀ b, v.ownBlock = some b → b < w.heap.size
  keep := fun ⟨h1, h2, h3⟩ k hb => ⟨h1, Sts.keep h2 k (fun b hb' => hb b (by rw [h1]; simp [hb'])), fun b hb' => by have := h3 b hb'; have := k.size; omega⟩
  lt := fun {w bs} ⟨h1, h2, h3⟩ b hb => by subst h1; exact h3 b (by simpa using hb)
theorem Cds6.lt {w : World} {v : Value} {L : List Nat} (h : Cds6 w v L) (h0 : L ≠ [] ∨ v = .slice none 0 0) : ∀ b, v.ownBlock = some b → b < w.heap.size := by
  intro b hb
  rcases h0 with h0 | h0
  · have hl : 0 < L.length := by cases L; exact absurd rfl h0; simp
    obtain ⟨b', off, cap, rfl, c1, _⟩ := h.at 0 hl
    have : b' = b := by simpa [Value.ownBlock] using hb
    subst this
    exact World.block_lt_of_cell? w _ c1
  · subst h0; simp [Value.ownBlock] at hb
theorem St.cds {W w : World} {Ps : List Ob} (h : St W w Ps) (i : Nat) {v : Value} {L : List Nat} (hi : Ps[i]? = some (Ob.cds v L)) : Cds6 w v L ∧ ∀ b, v.ownBlock = some b → W.heap.size ≤ b := by
  obtain ⟨bs, ⟨rfl, h1, _⟩, h2⟩ := h.get i hi; exact ⟨h1, fun b hb => h2 b (by simpa using hb)⟩
/-- a word of a code is read of a reader -/
theorem st_rnext {W w : World} {Ps : List Ob} (h : St W w Ps) (i j : Nat) (hij : i ≠ j) {q : Nat} {v cv : Value} {s : RS} {l : List UInt8} {L : List Nat} (hi : Ps[i]? = some (Ob.rr q v s)) (hj : Ps[j]? = some (Ob.cds cv L)) (hf : Fr W v l s) (h16 : ∀ k, k < L.length → len L k ≤ 16) (h1 : ∀ k, k < L.length → 1 ≤ len L k) (ht : tot16 L = 65536) : Calls Tryz.prog 83 #[cv, .pointer (some ⟨q, 0, none⟩)] w fun e w' =>
    e = .returned (.tuple #[.int .i64 (s.nextS L).1, .int .i64 (s.nextS L).2.1]) ∧ St W w' (Ps.set i (Ob.rr q v (s.nextS L).2.2)) ∧ Fr W v l (s.nextS L).2.2 := by
  obtain ⟨bs, cs, ⟨rfl, g1⟩, ⟨rfl, g2, _⟩, g3, _, _⟩ := h.apart i j hij hi hj
  refine (sfnext_c w q v cv s L h16 h1 ht g2 (fun b hb e => g3 q (by simp) (by simp [hb, e])) (h.rr i hi hf)).mono ?_
  rintro e w' ⟨he, hr, hk⟩
  refine ⟨he, h.setRr i hi hf hr hk ?_⟩
  unfold RS.nextS
  split
  · rfl
  · dsimp only; split <;> rfl
end Go.Proofs.YthmojejiaeninaaGreat
namespace Go.Proofs.YthmojejiaeninaaGreat
set_option linter.unusedVariables false
set_option linter.unusedSimpArgs false
set_option maxRecDepth 100000
open Go.ChangeShapes Go.WideShapes Go.ChangeAt Go.RowKit

/-- an object that is spoilt -/
def Ob.gone : Ob where
  P w bs := bs = []
  keep := fun h _ _ => h
  lt := fun h b hb => by subst h; simp at hb
theorem St.lose {W w : World} {Ps : List Ob} (h : St W w Ps) (i : Nat) {P : Ob} (hi : Ps[i]? = some P) : St W w (Ps.set i Ob.gone) := by
  obtain ⟨bs, h1, h2, h3⟩ := h.focus i hi
  exact h3 w Ob.gone [] rfl (Keep.refl _ _) (fun b hb => by simp at hb)
/-- the first objects, without those in the middle -/
theorem St.cut {W w : World} (A M B : List Ob) (h : St W w (A ++ M ++ B)) : St W w (A ++ B) := by
  refine h.sub (A ++ B) (fun j => if j < A.length then j else j + M.length) (fun j => if j < A.length then j else j - M.length) (fun j hj => ?_)
  rw [List.length_append] at hj
  by_cases h1 : j < A.length
  · rw [if_pos h1, if_pos h1, List.append_assoc, List.getElem?_append_left h1, List.getElem?_append_left h1]
    exact ⟨rfl, rfl⟩
  · rw [if_neg h1, if_neg (by omega), List.getElem?_append_right (by rw [List.length_append]; omega), List.getElem?_append_right (by omega), List.length_append]
    exact ⟨by congr 1; omega, by omega⟩
theorem unpR_l (k : Nat) (s : RS) : (unpR k s).2.2.l = s.l := by
  induction k generalizing s with
  | zero => rfl
  | succ k ih =>
    rw [unpR]
    split
    · exact bits_l6 s 8
    · split
      · exact (ih _).trans (bits_l6 s 8)
      · exact (ih _).trans (bits_l6 s 8)
theorem unp_l (n : Int) (s : RS) : (s.unp n).2.2.l = s.l := by
  unfold RS.unp
  split
  · rfl
  · split
    · exact (unpR_l _ _).trans (bits_l6 s 8)
    · split
      · exact (unpR_l _ _).trans (bits_l6 s 8)
      · exact (unpR_l _ _).trans (bits_l6 s 8)
set_option maxHeartbeats 2000000 in
theorem reftree15_c {W w : World} {tl : List Ob} {q : Nat} {v : Value} {s : RS} {l : List UInt8} (h : St W w (Ob.rr q v s :: tl)) (hf : Fr W v l s) (n : Int) : Calls Tryz.prog 81 #[.pointer (some ⟨q, 0, none⟩), .int .i64 n] w fun e w' =>
    ∃ v', e = .returned (.tuple #[v', .int .i64 (tre n s).1]) ∧ (∃ a n' c, v' = .slice a n' c) ∧ ((tre n s).1 ≠ 0 → v' = .slice none 0 0 ∧ St W w' (Ob.gone :: tl)) ∧ ((tre n s).1 = 0 → St W w' (Ob.rr q v (tre n s).2.2 :: (tl ++ [Ob.cds v' (tre n s).2.1])) ∧ Fr W v l (tre n s).2.2) := by
  have HUN := Lib.hid (refunp_c w q v s n (h.rr 0 rfl hf))
  have hul := unp_l n s
  have ht : tre n s = if (s.unp n).2.1 ≠ 0 then ((s.unp n).2.1, [], (s.unp n).2.2) else (schk (s.unp n).1, Ls (s.unp n).1, (s.unp n).2.2) := rfl
  obtain ⟨T, hT⟩ : ∃ T, tre n s = T := ⟨_, rfl⟩
  rw [hT] at ht ⊢
  generalize s.unp n = U at HUN ht hul
  obtain ⟨zs, eu, su⟩ := U
  dsimp only at HUN ht hul
  have HT := Lib.hid ht
  have HH := Lib.hid h
  have HF := Lib.hid hf
  have HUL := Lib.hid hul
  clear h ht hT hf hul
  go_enter Tryz.func81, Tryz.ntmps81
  go_wp2_with fail
  refine HUN.out.mono ?_; rintro e w1 ⟨v1, rfl, hI, hk, hb, hr⟩
  obtain ⟨bs, ⟨rfl, hB⟩, hW, hset⟩ := HH.out.focus 0 rfl
  by_cases he : eu = 0
  · have y1 : ((eu : Int) != 0) = false := by rw [he]; rfl
    have ht := HT.out
    rw [if_neg (by simpa using he)] at ht
    have hr1 := hr he
    have hs1 : St W w1 (Ob.rr q v su :: tl) := hset w1 (Ob.rr q v su) [q] ⟨rfl, hr1.1⟩ hk (fun b hb => .inl hb)
    have hf1 : Fr W v l su := ⟨HF.out.1, HUL.out.trans HF.out.2.1, hr1.2.2.1, hr1.2.2.2.1⟩
    have HWD := Lib.hid (sfwords_c w1 v1 zs hI)
    have HS1 := Lib.hid hs1; have HF1 := Lib.hid hf1; have HT2 := Lib.hid ht
    obtain ⟨a1, c1, rfl, _⟩ := hI.sh
    clear HUN HT hr hr1 hs1 hf1 he hk hb hset hW hB ht hI
    go_wp2_with fail
    refine HWD.out.mono ?_; rintro e w2 ⟨v2, rfl, hc, k2, hb2, hv2⟩
    have hs2 := HS1.out.read k2
    have hsh := hc.shape
    go_wp2_with fail
    go_ret2
    rw [HT2.out]
    dsimp only
    refine ⟨v2, rfl, by obtain ⟨a, c, h, _⟩ := hsh; exact ⟨_, _, _, h⟩, fun h0 => ⟨hv2 h0, hs2.lose 0 rfl⟩, fun h0 => ?_⟩
    refine ⟨?_, HF1.out⟩
    have hne : Ls zs ≠ [] ∨ v2 = .slice none 0 0 := by
      left
      unfold Ls
      rw [if_pos h0]
      obtain ⟨m1, _⟩ := schk_ok h0
      have := ((mayS_iff zs).1 m1).1
      intro e
      have e2 : (Ln zs).length = zs.length := by simp [Ln]
      rw [e] at e2; simp at e2; omega
    exact HS1.out.push (Ob.cds v2 (Ls zs)) v2.ownBlock.toList ⟨rfl, hc, hc.lt hne⟩ k2 (fun b hb => hb2 b (by simpa using hb))
  · have y1 : ((eu : Int) != 0) = true := by simp; omega
    have ht := HT.out
    rw [if_pos (by simpa using he)] at ht
    have hs1 : St W w1 (Ob.gone :: tl) := hset w1 Ob.gone [] rfl hk (fun b hb => by simp at hb)
    have HS1 := Lib.hid hs1; have HT2 := Lib.hid ht; have HE := Lib.hid he
    clear HUN HT hr hs1 he hk hb hset hW hB ht hI
    go_wp2_with fail
    go_ret2
    rw [HT2.out]
    exact ⟨_, rfl, ⟨_, _, _, rfl⟩, fun _ => ⟨rfl, HS1.out⟩, fun h => absurd h HE.out⟩
/-- a reader, or what is left of it -/
def rg (e : Nat) (q : Nat) (v : Value) (s : RS) : Ob := if e = 0 then Ob.rr q v s else Ob.gone
theorem St.pushNil {W w : World} {Ps : List Ob} (h : St W w Ps) : St W w (Ps ++ [Ob.cds (.slice none 0 0) []]) :=
  h.push (Ob.cds (.slice none 0 0) []) [] ⟨rfl, Cds6.nix _, by simp [Value.ownBlock]⟩ (Keep.refl _ _) (by simp)
theorem tre_err (n : Int) (s : RS) (h : (tre n s).1 ≠ 0) : (tre n s).2.1 = [] := by
  unfold tre at h ⊢
  by_cases h0 : (s.unp n).2.1 ≠ 0
  · rw [if_pos h0]
  · rw [if_neg h0] at h ⊢
    dsimp only at h ⊢
    unfold Ls; rw [if_neg h]
theorem reftree15_s {W w : World} {tl : List Ob} {q : Nat} {v : Value} {s : RS} {l : List UInt8} (h : St W w (Ob.rr q v s :: tl)) (hf : Fr W v l s) (n : Int) : Calls Tryz.prog 81 #[.pointer (some ⟨q, 0, none⟩), .int .i64 n] w fun e w' =>
    ∃ a n' c, e = .returned (.tuple #[.slice a n' c, .int .i64 (tre n s).1]) ∧ St W w' (rg (tre n s).1 q v (tre n s).2.2 :: (tl ++ [Ob.cds (.slice a n' c) (tre n s).2.1])) ∧ ((tre n s).1 = 0 → Fr W v l (tre n s).2.2) := by
  refine (reftree15_c h hf n).mono ?_
  rintro e w' ⟨v', he, ⟨a, n', c, rfl⟩, hbad, hgood⟩
  refine ⟨a, n', c, he, ?_, fun h0 => (hgood h0).2⟩
  unfold rg
  by_cases h0 : (tre n s).1 = 0
  · rw [if_pos h0]; exact (hgood h0).1
  · rw [if_neg h0, tre_err n s h0]
    obtain ⟨hv, hs⟩ := hbad h0
    rw [hv]
    exact hs.pushNil
def BT (cs : Array Value) (g : Nat) : Ob := Ob.box g cs 105
def nil3 : Array Value := #[.slice none 0 0, .slice none 0 0, .slice none 0 0]
/-- what is read of the trees one by one -/
theorem opn15_steps (trees : Bool) (s : RS) (e2 e3 : Nat) (r2 r3 : RS) (LL LF : List Nat)
    (h2 : ((treB trees s).1 ≠ 0 → e2 = (treB trees s).1) ∧ ((treB trees s).1 = 0 → e2 = (tre 64 (treB trees s).2.2).1 ∧ LL = (tre 64 (treB trees s).2.2).2.1 ∧ r2 = (tre 64 (treB trees s).2.2).2.2))
    (h3 : (e2 ≠ 0 → e3 = e2) ∧ (e2 = 0 → e3 = (tre 64 r2).1 ∧ LF = (tre 64 r2).2.1 ∧ r3 = (tre 64 r2).2.2)) :
    (opn15 trees s).e = e3 ∧ (e3 = 0 → opn15 trees s = ⟨0, (treB trees s).2.1, LL, LF, r3⟩) := by
  unfold opn15
  by_cases a : (treB trees s).1 = 0
  · obtain ⟨b1, b2, b3⟩ := h2.2 a
    rw [if_neg (by simpa using a)]
    by_cases c : e2 = 0
    · obtain ⟨d1, d2, d3⟩ := h3.2 c
      rw [if_neg (by rw [← b1]; simpa using c), ← b3, ← b2, ← d1, ← d2, ← d3]
      exact ⟨rfl, fun h => by rw [h]⟩
    · have d := h3.1 c
      rw [if_pos (by rw [← b1]; exact c)]
      exact ⟨by dsimp only; omega, fun h => absurd (d.symm.trans h) c⟩
  · have b := h2.1 a
    have d := h3.1 (by omega)
    rw [if_pos a]
    exact ⟨by dsimp only; omega, fun h => by omega⟩
set_option maxHeartbeats 4000000 in
theorem refopen15_c {W w : World} {P1 : Ob} {q : Nat} {v : Value} {s : RS} {l : List UInt8} (h : St W w [Ob.rr q v s, P1]) (hf : Fr W v l s) (trees : Bool) : Calls Tryz.prog 45 #[.pointer (some ⟨q, 0, none⟩), .bool trees] w fun e w' =>
    ∃ a1 n1 c1 a2 n2 c2 a3 n3 c3, e = .returned (.tuple #[.agg #[.slice a1 n1 c1, .slice a2 n2 c2, .slice a3 n3 c3], .int .i64 (opn15 trees s).e]) ∧ Keep [] W w' ∧ ((opn15 trees s).e = 0 → St W w' [Ob.rr q v (opn15 trees s).s, P1, Ob.cds (.slice a1 n1 c1) (opn15 trees s).tb, Ob.cds (.slice a2 n2 c2) (opn15 trees s).tl, Ob.cds (.slice a3 n3 c3) (opn15 trees s).tf] ∧ Fr W v l (opn15 trees s).s) := by
  have H1 := h.pushBox #[.slice none 0 0, .slice none 0 0, .slice none 0 0] 105
  have H2 := H1.pushBox #[.slice none 0 0, .slice none 0 0, .slice none 0 0] 105
  simp only [World.size_alloc] at H2
  have HH := Lib.hid H2
  have HF := Lib.hid hf
  have hst := opn15_steps trees s
  obtain ⟨TB, hTB⟩ : ∃ TB, treB trees s = TB := ⟨_, rfl⟩
  rw [hTB] at hst
  obtain ⟨eb, LB, sB⟩ := TB
  dsimp only at hst
  obtain ⟨O, hO⟩ : ∃ O, opn15 trees s = O := ⟨_, rfl⟩
  rw [hO] at hst ⊢
  have HST := Lib.hid hst
  have HTB := Lib.hid hTB
  clear H1 H2 h hf hst hTB hO
  go_enter Tryz.func45, Tryz.ntmps45
  go_upto_if 8 with fail
  obtain ⟨g, hg⟩ : ∃ g, w.heap.size = g := ⟨_, rfl⟩
  rw [hg] at HH ⊢
  clear hg
  go_cut [7] (fun ev wx => ∃ a1 n1 c1, ev = .int .i64 eb ∧ St W wx [rg eb q v sB, P1, BT nil3 g, BT #[.slice a1 n1 c1, .slice none 0 0, .slice none 0 0] (g + 1), Ob.cds (.slice a1 n1 c1) LB] ∧ Hid (eb = 0 → Fr W v l sB))
  case first =>
    clear HST
    cases trees with
    | true =>
      have HT := reftree15_s HH.out HF.out 256
      have htB : tre 256 s = (eb, LB, sB) := HTB.out
      rw [htB] at HT
      have HT := Lib.hid HT
      clear htB HTB
      go_wp2_with fail
      refine HT.out.mono ?_; rintro e w1 ⟨a1, n1, c1, rfl, hS, hF1⟩
      have b6 := hS.blk 3 rfl
      have d0 := b6.cell 0 _ rfl
      have f0 := b6.free 0
      have hS2 := Lib.hid (hS.setBox 3 rfl 0 (.slice a1 n1 c1))
      have hF2 := Lib.hid hF1
      clear HT b6 hS hF1 HH
      go_wp2_with fail
      go_meet
      exact ⟨a1, n1, c1, rfl, hS2.out, hF2.out⟩
    | false =>
      have htB : (0, [], s) = (eb, LB, sB) := HTB.out
      simp only [Prod.mk.injEq] at htB
      obtain ⟨rfl, rfl, rfl⟩ := htB
      clear HTB
      go_wp2_with fail
      go_meet
      exact ⟨none, 0, 0, rfl, HH.out.pushNil, fun _ => HF.out⟩
  case rest =>
    clear HH HTB
    obtain ⟨a1, n1, c1, rfl, hS, HF1⟩ := hcut
    have HS := Lib.hid hS
    clear hS
    obtain ⟨b1, hb1⟩ : ∃ b : Bool, ((eb : Int) == 0) = b := ⟨_, rfl⟩
    go_upto_if 16 with fail
    have HB1 := Lib.hid hb1
    clear hb1
    go_cut [7] (fun ev wx => ∃ (a2 : Option Addr) (n2 c2 : Nat) (e2 : Nat) (LL : List Nat) (r2 : RS), ev = .int .i64 e2 ∧ St W wx [rg e2 q v r2, P1, BT nil3 g, BT #[.slice a1 n1 c1, .slice a2 n2 c2, .slice none 0 0] (g + 1), Ob.cds (.slice a1 n1 c1) LB, Ob.cds (.slice a2 n2 c2) LL] ∧ Hid (e2 = 0 → Fr W v l r2) ∧ Hid ((eb ≠ 0 → e2 = eb) ∧ (eb = 0 → e2 = (tre 64 sB).1 ∧ LL = (tre 64 sB).2.1 ∧ r2 = (tre 64 sB).2.2)))
    case first =>
      cases b1 with
      | true =>
        have he : eb = 0 := by have := HB1.out; simp at this; omega
        subst he
        have HT := Lib.hid (reftree15_s HS.out (HF1.out rfl) 64)
        obtain ⟨T, hT⟩ : ∃ T, tre 64 sB = T := ⟨_, rfl⟩
        rw [hT] at HT
        have HTT := Lib.hid hT
        obtain ⟨e2, LL, r2⟩ := T
        dsimp only at HT
        clear HST hT HB1
        go_wp2_with fail
        refine HT.out.mono ?_; rintro e w2 ⟨a2, n2, c2, rfl, hS, hF2⟩
        have b6 := hS.blk 3 rfl
        have d0 := b6.cell 1 _ rfl
        have f0 := b6.free 1
        have hS2 := Lib.hid (hS.setBox 3 rfl 1 (.slice a2 n2 c2))
        have hF2 := Lib.hid hF2
        clear HT b6 hS HS
        go_wp2_with fail
        go_meet
        exact ⟨a2, n2, c2, e2, LL, r2, rfl, hS2.out, hF2.out, fun h => absurd rfl h, fun _ => by rw [HTT.out]; exact ⟨rfl, rfl, rfl⟩⟩
      | false =>
        have he : eb ≠ 0 := by have := HB1.out; simp at this; omega
        have HE := Lib.hid he
        clear he HST
        go_wp2_with fail
        go_meet
        exact ⟨none, 0, 0, eb, [], sB, rfl, HS.out.pushNil, HF1.out, fun _ => rfl, fun h => absurd h HE.out⟩
    case rest =>
      clear HS HB1 HF1
      obtain ⟨a2, n2, c2, e2, LL, r2, rfl, hS, HF2, HR2⟩ := hcut
      have HS := Lib.hid hS
      clear hS
      obtain ⟨b2, hb2⟩ : ∃ b : Bool, ((e2 : Int) == 0) = b := ⟨_, rfl⟩
      go_upto_if 24 with fail
      have HB1 := Lib.hid hb2
      clear hb2
      go_cut [7] (fun ev wx => ∃ (a3 : Option Addr) (n3 c3 : Nat) (e3 : Nat) (LF : List Nat) (r3 : RS), ev = .int .i64 e3 ∧ St W wx [rg e3 q v r3, P1, BT nil3 g, BT #[.slice a1 n1 c1, .slice a2 n2 c2, .slice a3 n3 c3] (g + 1), Ob.cds (.slice a1 n1 c1) LB, Ob.cds (.slice a2 n2 c2) LL, Ob.cds (.slice a3 n3 c3) LF] ∧ Hid (e3 = 0 → Fr W v l r3) ∧ Hid ((e2 ≠ 0 → e3 = e2) ∧ (e2 = 0 → e3 = (tre 64 r2).1 ∧ LF = (tre 64 r2).2.1 ∧ r3 = (tre 64 r2).2.2)))
      case first =>
        cases b2 with
        | true =>
          have he : e2 = 0 := by have := HB1.out; simp at this; omega
          subst he
          have HT := Lib.hid (reftree15_s HS.out (HF2.out rfl) 64)
          obtain ⟨T, hT⟩ : ∃ T, tre 64 r2 = T := ⟨_, rfl⟩
          rw [hT] at HT
          have HTT := Lib.hid hT
          obtain ⟨e3, LF, r3⟩ := T
          dsimp only at HT
          clear HST hT HB1
          go_wp2_with fail
          refine HT.out.mono ?_; rintro e w3 ⟨a3, n3, c3, rfl, hS, hF3⟩
          have b6 := hS.blk 3 rfl
          have d0 := b6.cell 2 _ rfl
          have f0 := b6.free 2
          have hS2 := Lib.hid (hS.setBox 3 rfl 2 (.slice a3 n3 c3))
          have hF3 := Lib.hid hF3
          clear HT b6 hS HS
          go_wp2_with fail
          go_meet
          exact ⟨a3, n3, c3, e3, LF, r3, rfl, hS2.out, hF3.out, fun h => absurd rfl h, fun _ => by rw [HTT.out]; exact ⟨rfl, rfl, rfl⟩⟩
        | false =>
          have he : e2 ≠ 0 := by have := HB1.out; simp at this; omega
          have HE := Lib.hid he
          clear he HST
          go_wp2_with fail
          go_meet
          exact ⟨none, 0, 0, e2, [], r2, rfl, HS.out.pushNil, HF2.out, fun _ => rfl, fun h => absurd h HE.out⟩
      case rest =>
        clear HS HB1 HF2
        obtain ⟨a3, n3, c3, e3, LF, r3, rfl, hS, HF3, HR3⟩ := hcut
        have b6 := hS.blk 3 rfl
        have b4 := hS.blk 2 rfl
        have d0 := b6.cell 0 _ rfl; have d1 := b6.cell 1 _ rfl; have d2 := b6.cell 2 _ rfl
        have k0 := b4.free 0; have k1 := b4.free 1; have k2 := b4.free 2
        have m0 := b4.cell 0 _ rfl; have m1 := b4.cell 1 _ rfl; have m2 := b4.cell 2 _ rfl
        have h3 := ((hS.setBox 2 rfl 0 (.slice a1 n1 c1)).setBox 2 rfl 1 (.slice a2 n2 c2)).setBox 2 rfl 2 (.slice a3 n3 c3)
        have H3 := Lib.hid h3
        have hb3 := Lib.hid (h3.blk 2 rfl)
        have HF := HST.out e2 e3 r2 r3 LL LF HR2.out HR3.out
        have HFF := Lib.hid HF
        clear hS b6 b4 h3 HF HST
        go_wp2_with fail
        refine bodyPost_ret (results_cellS rfl _ rfl hb3.out _ Tryz.underlying105 rfl (by kernel_rfl)) rfl ?_
        have HF := HFF.out
        refine ⟨a1, n1, c1, a2, n2, c2, a3, n3, c3, by rw [HF.1]; rfl, H3.out.kp, fun h0 => ?_⟩
        have hO := HF.2 (by rw [← HF.1]; exact h0)
        have he3 : e3 = 0 := by rw [← HF.1]; exact h0
        rw [hO]
        have hs := H3.out
        unfold rg at hs
        rw [if_pos he3] at hs
        exact ⟨St.cut [Ob.rr q v r3, P1] [_, _] [_, _, _] hs, HF3.out he3⟩
end Go.Proofs.YthmojejiaeninaaGreat
namespace Go.Proofs.YthmojejiaeninaaGreat
set_option linter.unusedVariables false
set_option linter.unusedSimpArgs false
open Go.ChangeShapes Go.WideShapes Go.ChangeAt Go.RowKit

def Ob.rw (q : Nat) (bits : List Bool) : Ob where
  P w bs := ∃ v : Value, bs = q :: v.ownBlock.toList ∧ Rw w q v bits
  keep := fun ⟨v, h1, h2⟩ k hb => ⟨v, h1, h2.keep k (hb q (by simp [h1])) (fun b hb' => hb b (by simp [h1, hb']))⟩
  lt := fun {w bs} ⟨v, h1, h2⟩ b hb => by
    subst h1
    rcases List.mem_cons.1 hb with rfl | hb
    · exact h2.1.lt
    · exact h2.2.1.lt b (by simpa using hb)
theorem toBits_b8 (l : List UInt8) : toBits l = b8 l := by
  induction l with
  | nil => rfl
  | cons x l ih => rw [b8_cons, ← ih]; rfl
theorem b8_length (l : List UInt8) : (b8 l).length = 8 * l.length := by rw [← toBits_b8, toBits_length]
theorem pad8_same (bs : List Bool) (h : bs.length % 8 = 0) : pad8 bs = bs := by
  unfold pad8; rw [h]; simp
theorem st_rput {W w : World} {Ps : List Ob} (h : St W w Ps) (i : Nat) {q : Nat} {bits : List Bool} (hi : Ps[i]? = some (Ob.rw q bits)) (y n : Nat) (hy : y < 4294967296) (hn : n ≤ 32) (hl : bits.length ≤ 140737488355000) : Calls Tryz.prog 36 #[.pointer (some ⟨q, 0, none⟩), .int .u32 y, .int .i64 n] w fun e w' => e = .returned (.tuple #[]) ∧ St W w' (Ps.set i (Ob.rw q (bits ++ bitsOf y n))) := by
  obtain ⟨bs, ⟨v, rfl, h1⟩, h2, h3⟩ := h.focus i hi
  refine (rput_c w q v bits y n hy h1 hl).mono ?_
  rintro e w' ⟨he, v', hw, hk, hv⟩
  have hc : cln (n : Nat) = n := by unfold cln; omega
  rw [hc] at hw
  refine ⟨he, h3 w' _ _ ⟨v', rfl, hw⟩ hk (fun b hb => ?_)⟩
  rcases List.mem_cons.1 hb with rfl | hb
  · exact .inl (by simp)
  · rcases hv b (by simpa using hb) with h | h
    · exact .inl (by simp [h])
    · exact .inr h
theorem st_rputbytes {W w : World} {Ps : List Ob} (h : St W w Ps) (i j : Nat) (hij : i ≠ j) {q : Nat} {bits : List Bool} {v2 : Value} {l2 : List UInt8} (hi : Ps[i]? = some (Ob.rw q bits)) (hj : Ps[j]? = some (Ob.bytes v2 l2)) (h8 : bits.length % 8 = 0) (hl : bits.length + 8 * l2.length ≤ 140737488353000) : Calls Tryz.prog 34 #[.pointer (some ⟨q, 0, none⟩), v2] w fun e w' => e = .returned (.tuple #[]) ∧ St W w' (Ps.set i (Ob.rw q (bits ++ b8 l2))) := by
  obtain ⟨bs, cs, ⟨v, rfl, h1⟩, ⟨rfl, h2⟩, hap, _, h3⟩ := h.apart i j hij hi hj
  refine (rputbytes_c w q v bits v2 l2 h1 h2 (fun hne b hb => ?_) hl).mono ?_
  · have hin : b ∈ (if l2 = [] then [] else v2.ownBlock.toList) := by rw [if_neg hne]; simp [hb]
    refine ⟨fun e => hap q (by simp) (by rw [← e]; exact hin), fun e => hap b (by simp [e]) hin⟩
  · rintro e w' ⟨he, v', hw, hk, hv⟩
    rw [pad8_same bits h8, toBits_b8] at hw
    refine ⟨he, h3 w' _ _ ⟨v', rfl, hw⟩ hk (fun b hb => ?_)⟩
    rcases List.mem_cons.1 hb with rfl | hb
    · exact .inl (by simp)
    · rcases hv b (by simpa using hb) with h | h
      · exact .inl (by simp [h])
      · exact .inr h
theorem st_rwbytes {W w : World} {Ps : List Ob} (h : St W w Ps) (i : Nat) {q : Nat} {bits : List Bool} (hi : Ps[i]? = some (Ob.rw q bits)) (hl : bits.length ≤ 140737488353000) : Calls Tryz.prog 38 #[.pointer (some ⟨q, 0, none⟩)] w fun e w' => ∃ v', e = .returned v' ∧ OwnB w' v' (ofBits bits) ∧ Keep [] w w' ∧ ∀ b, v'.ownBlock = some b → w.heap.size ≤ b := by
  obtain ⟨bs, ⟨v, _, h1⟩, _⟩ := h.get i hi
  refine (rwbytes_c w q v bits h1 hl).mono ?_
  rintro e w' ⟨v', l', he, ho, hb, hk, hf⟩
  have : l' = ofBits bits := toBits_inj _ _ (by rw [hb, toBits_ofBits])
  subst this
  exact ⟨v', he, ho, hk, hf⟩
end Go.Proofs.YthmojejiaeninaaGreat
namespace Go.Proofs.YthmojejiaeninaaGreat
set_option linter.unusedVariables false
set_option linter.unusedSimpArgs false
set_option maxRecDepth 100000
open Go.ChangeShapes Go.WideShapes Go.ChangeAt Go.RowKit

theorem bits_zero (s : RS) (h : s.E = 0) (hp : s.pos ≤ 8 * s.l.length) : s.bits 0 = (0, s) := by
  unfold RS.bits
  rw [if_neg (by omega), if_neg (by simpa using h), if_neg (by omega)]
  rfl
/-- the objects of the document's Decode -/
def DX (q : Nat) (v : Value) (s : RS) (x : Nat) (o : HS) (vb vl vf : Value) (t : T15) (tl : List Ob) : List Ob := Ob.rr q v s :: Ob.rx x o :: Ob.cds vb t.tb :: Ob.cds vl t.tl :: Ob.cds vf t.tf :: tl
theorem DX_last (q : Nat) (v : Value) (s : RS) (x : Nat) (o : HS) (vb vl vf : Value) (t : T15) (tl : List Ob) (P : Ob) : (DX q v s x o vb vl vf t (tl ++ [P]))[tl.length + 5]? = some P := by
  unfold DX
  rw [List.getElem?_cons_succ, List.getElem?_cons_succ, List.getElem?_cons_succ, List.getElem?_cons_succ, List.getElem?_cons_succ]
  simp
theorem byt15_lt (trees : Bool) (tb : List Nat) (s : RS) (hb : trees = true → Full15 tb ∧ tb.length = 256) (hp : s.pos ≤ 8 * s.l.length) (h : (byt15 trees tb s).2.1 = 0) : (byt15 trees tb s).1 < 256 := by
  unfold byt15 at h ⊢
  cases trees with
  | true =>
    rw [if_pos rfl] at h ⊢
    obtain ⟨i, hi, h1, _⟩ := nextS_cost tb s (hb rfl).1 h hp
    have := (hb rfl).2
    rw [h1]
    show (i : Int).toNat < 256
    omega
  | false => exact bits_lt15 s 8 (by decide)
set_option maxHeartbeats 4000000 in
theorem refone15_c {W w : World} {q x : Nat} {v : Value} {s : RS} {l : List UInt8} {o : HS} {t : T15} {tl : List Ob} {a1 a2 a3 : Option Addr} {n1 c1 n2 c2 n3 c3 : Nat} (h : St W w (DX q v s x o (.slice a1 n1 c1) (.slice a2 n2 c2) (.slice a3 n3 c3) t tl)) (hf : Fr W v l s) (trees : Bool) (hb : trees = true → Full15 t.tb ∧ t.tb.length = 256) (hE : s.E = 0) (hol : o.b.length + 1 ≤ 140737488355328) :
    Calls Tryz.prog 47 #[.pointer (some ⟨q, 0, none⟩), .agg #[.slice a1 n1 c1, .slice a2 n2 c2, .slice a3 n3 c3], .bool trees, .pointer (some ⟨x, 0, none⟩)] w fun e w' => e = .returned (.int .i64 (lit15 trees t.tb s o).1) ∧ Keep [] W w' ∧ ((lit15 trees t.tb s o).1 = 0 → ∃ tl', St W w' (DX q v (lit15 trees t.tb s o).2.2 x (lit15 trees t.tb s o).2.1 (.slice a1 n1 c1) (.slice a2 n2 c2) (.slice a3 n3 c3) t (tl ++ tl')) ∧ Fr W v l (lit15 trees t.tb s o).2.2) := by
  have H1 := h.pushBox #[.slice a1 n1 c1, .slice a2 n2 c2, .slice a3 n3 c3] 105
  have hp : s.pos ≤ 8 * s.l.length := hf.2.2.1.1
  have hz := bits_zero s hE hp
  have hblt := byt15_lt trees t.tb s hb hp
  have hd : lit15 trees t.tb s o = if (byt15 trees t.tb s).2.1 ≠ 0 then ((byt15 trees t.tb s).2.1, o, (byt15 trees t.tb s).2.2) else ((o.lit (UInt8.ofNat (byt15 trees t.tb s).1)).1, (o.lit (UInt8.ofNat (byt15 trees t.tb s).1)).2, (byt15 trees t.tb s).2.2) := rfl
  obtain ⟨R, hR⟩ : ∃ R, lit15 trees t.tb s o = R := ⟨_, rfl⟩
  rw [hR] at hd ⊢
  obtain ⟨B, hB⟩ : ∃ B, byt15 trees t.tb s = B := ⟨_, rfl⟩
  rw [hB] at hd hblt
  obtain ⟨c, eb, sb⟩ := B
  dsimp only at hd hblt
  have HD := Lib.hid hd; have HBY := Lib.hid hB; have HFB := Lib.hid hb
  have HH := Lib.hid H1; have HF := Lib.hid hf
  have he0 : s.err = 0 := by rw [← hf.E]; exact hE
  have HBL := Lib.hid hblt
  clear H1 h hf hd hR hB hb hblt hp hE
  go_enter Tryz.func47, Tryz.ntmps47
  go_upto_region 1 with fail
  obtain ⟨g, hg⟩ : ∃ g, w.heap.size = g := ⟨_, rfl⟩
  rw [hg] at HH ⊢
  clear hg
  generalize w.alloc (.cells #[.slice a1 n1 c1, .slice a2 n2 c2, .slice a3 n3 c3] 105) = wA at HH ⊢
  go_cut [9, 10] (fun cv ev wx => cv = .int .i64 0 ∧ ev = .int .i64 0 ∧ St W wx (DX q v s x o (.slice a1 n1 c1) (.slice a2 n2 c2) (.slice a3 n3 c3) t (tl ++ [BT #[.slice a1 n1 c1, .slice a2 n2 c2, .slice a3 n3 c3] g])))
  case first =>
    have hA : St W wA.drew (Ob.rr q v s :: (Ob.rx x o :: Ob.cds (.slice a1 n1 c1) t.tb :: Ob.cds (.slice a2 n2 c2) t.tl :: Ob.cds (.slice a3 n3 c3) t.tf :: (tl ++ [BT #[.slice a1 n1 c1, .slice a2 n2 c2, .slice a3 n3 c3] g]))) := HH.out.read ((Keep.refl [] wA).drew)
    have ec := hA.rrCell 0 rfl
    have HC := st_rbits hA 0 rfl HF.out 0
    rw [hz] at HC
    have HC := Lib.hid HC
    rw [he0] at ec
    clear hz
    have HA := Lib.hid hA
    clear hA HD HBY HBL HFB
    go_region_with (first | (go_at_call 46; (refine HC.out.mono ?_); (rintro e w3 ⟨rfl, h3, -⟩); (have ec3 := h3.rrCell 0 rfl); (rw [he0] at ec3)))
    all_goals
      go_wp2_with fail
      go_meet
      exact ⟨rfl, rfl, h3⟩
  case rest =>
    clear HH hz
    obtain ⟨rfl, rfl, hS⟩ := hcut
    have HS := Lib.hid hS
    clear hS
    go_upto_if 18 with fail
    go_cut [9, 10] (fun cv ev wx => ∃ z : Int, cv = .int .i64 z ∧ ev = .int .i64 eb ∧ Hid (eb = 0 → z = c) ∧ St W wx (DX q v sb x o (.slice a1 n1 c1) (.slice a2 n2 c2) (.slice a3 n3 c3) t (tl ++ [BT #[.slice a1 n1 c1, .slice a2 n2 c2, .slice a3 n3 c3] g])) ∧ Hid (Fr W v l sb))
    case first =>
      clear HD HBL
      have hp : s.pos ≤ 8 * s.l.length := HF.out.2.2.1.1
      have hby := HBY.out
      unfold byt15 at hby
      cases trees with
      | true =>
        rw [if_pos rfl] at hby
        obtain ⟨hF, _⟩ := HFB.out rfl
        have hc0 : (s.nextS t.tb).2.1 = 0 → (s.nextS t.tb).1 = ((s.nextS t.tb).1.toNat : Int) := fun h0 => by
          obtain ⟨i, _, h1, _⟩ := nextS_cost t.tb s hF h0 hp
          rw [h1]; rfl
        have HN := st_rnext HS.out 0 2 (by decide) rfl rfl HF.out hF.1 hF.2.1 hF.2.2
        generalize s.nextS t.tb = N at hby hc0 HN
        obtain ⟨z, e1, s1⟩ := N
        dsimp only at hby hc0 HN
        simp only [Prod.mk.injEq] at hby
        obtain ⟨rfl, rfl, rfl⟩ := hby
        have HN := Lib.hid HN; have HC := Lib.hid hc0
        have b6 := HS.out.blk (tl.length + 5) (DX_last ..)
        have d0 := b6.cell 0 _ rfl
        clear hF hc0 HBY HFB b6 hp
        go_wp2_with fail
        refine HN.out.mono ?_; rintro e w3 ⟨rfl, hS3, hF3⟩
        go_wp2_with fail
        go_meet
        exact ⟨z, rfl, rfl, HC.out, hS3, hF3⟩
      | false =>
        rw [if_neg (by simp)] at hby
        have HN := st_rbits HS.out 0 rfl HF.out 8
        have hb8 := bits_lt15 s 8 (by decide)
        have h8 : ((8 : Nat) : Int) = 8 := rfl
        rw [h8] at hb8
        generalize s.bits 8 = N at hby HN hb8
        obtain ⟨z, s1⟩ := N
        dsimp only at hby HN hb8
        simp only [Prod.mk.injEq] at hby
        obtain ⟨rfl, hee, rfl⟩ := hby
        have HN := Lib.hid HN
        have HEE := Lib.hid hee
        have hwz : IntKind.i64.wrap (z : Int) = z := by rw [IntKind.wrap_i64]; omega
        clear HBY HFB hp hee
        go_wp2_with fail
        refine HN.out.mono ?_; rintro e w3 ⟨rfl, hS3, hF3⟩
        have ec := hS3.rrCell 0 rfl
        have hEr : s1.err = eb := by rw [← hF3.E]; exact HEE.out
        rw [hEr] at ec
        have HS3 := Lib.hid hS3
        clear hS3 hEr HN
        go_wp2_with fail
        go_meet
        exact ⟨(z : Int), rfl, rfl, fun _ => rfl, HS3.out, hF3⟩
    case rest =>
      clear HS HF HBY HFB he0
      obtain ⟨z, rfl, rfl, HZ, hS, HF⟩ := hcut
      have HS := Lib.hid hS
      clear hS
      by_cases he : eb = 0
      · have y1 : ((eb : Int) != 0) = false := by rw [he]; rfl
        have hd := HD.out
        rw [if_neg (by simpa using he)] at hd
        have hz : z = c := HZ.out he
        have hc := HBL.out he
        have hwc : IntKind.u8.wrap (z : Int) = ((UInt8.ofNat c).toNat : Int) := by
          rw [hz, UInt8.toNat_ofNat', IntKind.wrap_u8]; omega
        have HL := Lib.hid (st_rlit HS.out 1 rfl (UInt8.ofNat c) hol)
        have HD2 := Lib.hid hd
        generalize UInt8.ofNat c = ch at *
        clear hd HD HZ hz hc HBL he HS
        go_wp2_with fail
        refine HL.out.mono ?_; rintro e w4 ⟨rfl, h4⟩
        have hk := h4.kp
        have H4 := Lib.hid h4
        clear h4
        go_wp2_with fail
        go_ret
        rw [HD2.out]
        exact ⟨rfl, hk, fun _ => ⟨_, H4.out, HF.out⟩⟩
      · have y1 : ((eb : Int) != 0) = true := by simp; omega
        have hd := HD.out
        rw [if_pos (by simpa using he)] at hd
        have HD2 := Lib.hid hd
        have HE := Lib.hid he
        have hk := HS.out.kp
        clear hd HD he HBL HZ HS
        go_wp2_with fail
        go_ret
        rw [HD2.out]
        exact ⟨rfl, hk, fun h => absurd h HE.out⟩
theorem len15_eq {tl : List Nat} {s2 s3 : RS} {z : Int} {e : Nat} (h : s2.nextS tl = (z, e, s3)) : len15 tl s2 = if e ≠ 0 then (0, e, s3) else if z = 63 then (63 + (s3.bits 8).1, (s3.bits 8).2.E, (s3.bits 8).2) else (z.toNat, 0, s3) := by
  unfold len15; rw [h]
theorem cop15_eq {low least : Nat} {tl tf : List Nat} {s s1 s2 s4 : RS} {o : HS} {xb n e1 e3 : Nat} {z1 : Int} (h1 : s.bits low = (xb, s1)) (h2 : s1.nextS tf = (z1, e1, s2)) (h3 : len15 tl s2 = (n, e3, s4)) :
    cop15 low least tl tf s o = if s1.E ≠ 0 then (s1.E, o, s1) else if e1 ≠ 0 then (e1, o, s2) else if e3 ≠ 0 then (e3, o, s4) else ((o.copy ((z1.toNat * 2 ^ low + xb + 1 : Nat) : Int) ((n + least : Nat) : Int)).1, (o.copy ((z1.toNat * 2 ^ low + xb + 1 : Nat) : Int) ((n + least : Nat) : Int)).2, s4) := by
  unfold cop15 two15
  rw [h1]; dsimp only; rw [h2]; dsimp only; rw [h3]; dsimp only
  by_cases a : s1.E ≠ 0
  · simp only [if_pos a]
  · simp only [if_neg a]
    by_cases b : e1 ≠ 0
    · simp only [if_pos b]
    · simp only [if_neg b]
set_option maxHeartbeats 8000000 in
theorem refsev15_c {W w : World} {q x : Nat} {v : Value} {s : RS} {l : List UInt8} {o : HS} {t : T15} {tl : List Ob} {a1 a2 a3 : Option Addr} {n1 c1 n2 c2 n3 c3 : Nat} (h : St W w (DX q v s x o (.slice a1 n1 c1) (.slice a2 n2 c2) (.slice a3 n3 c3) t tl)) (hf : Fr W v l s) (low least : Nat) (hlow : low ≤ 7) (hleast : least ≤ 3) (hL : Full15 t.tl ∧ t.tl.length = 64) (hF : Full15 t.tf ∧ t.tf.length = 64) (hol : o.b.length ≤ 100000000000) :
    Calls Tryz.prog 48 #[.pointer (some ⟨q, 0, none⟩), .agg #[.slice a1 n1 c1, .slice a2 n2 c2, .slice a3 n3 c3], .int .i64 low, .int .i64 least, .pointer (some ⟨x, 0, none⟩)] w fun e w' => e = .returned (.int .i64 (cop15 low least t.tl t.tf s o).1) ∧ Keep [] W w' ∧ ((cop15 low least t.tl t.tf s o).1 = 0 → ∃ tl', St W w' (DX q v (cop15 low least t.tl t.tf s o).2.2 x (cop15 low least t.tl t.tf s o).2.1 (.slice a1 n1 c1) (.slice a2 n2 c2) (.slice a3 n3 c3) t (tl ++ tl')) ∧ Fr W v l (cop15 low least t.tl t.tf s o).2.2) := by
  have H1 := h.pushBox #[.slice a1 n1 c1, .slice a2 n2 c2, .slice a3 n3 c3] 105
  obtain ⟨R, hR⟩ : ∃ R, cop15 low least t.tl t.tf s o = R := ⟨_, rfl⟩
  obtain ⟨B1, hB1⟩ : ∃ B, s.bits low = B := ⟨_, rfl⟩
  obtain ⟨xb, s1⟩ := B1
  obtain ⟨N1, hN1⟩ : ∃ N, s1.nextS t.tf = N := ⟨_, rfl⟩
  obtain ⟨z1, e1, s2⟩ := N1
  obtain ⟨L3, hL3⟩ : ∃ N, len15 t.tl s2 = N := ⟨_, rfl⟩
  obtain ⟨n, e3, s4⟩ := L3
  obtain ⟨N2, hN2⟩ : ∃ N, s2.nextS t.tl = N := ⟨_, rfl⟩
  obtain ⟨z2, e2, s3⟩ := N2
  rw [cop15_eq hB1 hN1 hL3] at hR
  have hl3 := len15_eq hN2
  rw [hL3] at hl3
  have hxb := bits_lt15 s low (by omega)
  rw [hB1] at hxb
  dsimp only at hxb
  have hx7 : 2 ^ low ≤ 2 ^ 7 := Nat.pow_le_pow_right (by decide) hlow
  have hxb2 : xb < 128 := by omega
  have HR := Lib.hid hR; have HL3 := Lib.hid hl3; have HB1 := Lib.hid hB1; have HN1 := Lib.hid hN1; have HN2 := Lib.hid hN2; have HLL := Lib.hid hL; have HFF := Lib.hid hF; have HP7 := Lib.hid hx7; have HLN := Lib.hid hL3
  have hrw : cop15 low least t.tl t.tf s o = R := by rw [cop15_eq hB1 hN1 hL3]; exact hR
  rw [hrw]
  have HH := Lib.hid H1; have HF := Lib.hid hf
  have HP2 := Nat.two_pow_pos low
  clear H1 h hf hR hB1 hN1 hN2 hL3 hl3 hL hF hxb hx7 hrw
  go_enter Tryz.func48, Tryz.ntmps48
  go_upto_region 1 with fail
  obtain ⟨g, hg⟩ : ∃ g, w.heap.size = g := ⟨_, rfl⟩
  rw [hg] at HH ⊢
  clear hg
  generalize w.alloc (.cells #[.slice a1 n1 c1, .slice a2 n2 c2, .slice a3 n3 c3] 105) = wA at HH ⊢
  have HH : Hid (St W wA (DX q v s x o (.slice a1 n1 c1) (.slice a2 n2 c2) (.slice a3 n3 c3) t (tl ++ [BT #[.slice a1 n1 c1, .slice a2 n2 c2, .slice a3 n3 c3] g]))) := HH.out
  have HC := st_rbits HH.out 0 rfl HF.out low
  rw [HB1.out] at HC
  have HC := Lib.hid HC
  have hwx : IntKind.i64.wrap (xb : Int) = xb := by rw [IntKind.wrap_i64]; omega
  go_wp2_with fail
  refine HC.out.mono ?_; rintro e w1 ⟨rfl, hS1, hF1⟩
  have HS1 : Hid (St W w1 (DX q v s1 x o (.slice a1 n1 c1) (.slice a2 n2 c2) (.slice a3 n3 c3) t (tl ++ [BT #[.slice a1 n1 c1, .slice a2 n2 c2, .slice a3 n3 c3] g]))) := hS1
  have ec := hS1.rrCell 0 rfl
  have hE1 := hF1.E
  have HF1 := Lib.hid hF1
  clear HH HC HF hS1 hF1 HB1
  by_cases hz1 : s1.E = 0
  · have y1 : ((s1.err : Int) != 0) = false := by simp; omega
    have hR := HR.out
    rw [if_neg (by simpa using hz1)] at hR
    have HR2 := Lib.hid hR
    have hNX := st_rnext HS1.out 0 4 (by decide) rfl rfl HF1.out HFF.out.1.1 HFF.out.1.2.1 HFF.out.1.2.2
    rw [HN1.out] at hNX
    have HNX := Lib.hid hNX
    have b6 := HS1.out.blk (tl.length + 5) (DX_last ..)
    have d2 := b6.cell 2 _ rfl
    have hc0 : e1 = 0 → ∃ i : Nat, i < 64 ∧ z1 = i := fun h0 => by
      have hN := HN1.out
      obtain ⟨i, hi, h1, _⟩ := nextS_cost t.tf s1 HFF.out.1 (by rw [hN]; exact h0) HF1.out.2.2.1.1
      rw [hN] at h1
      exact ⟨i, by have := HFF.out.2; omega, h1⟩
    have HC0 := Lib.hid hc0
    clear hR HR hz1 hE1 b6 hNX hc0
    generalize s1.err = er at *
    go_wp2_with fail
    refine HNX.out.mono ?_; rintro e w2 ⟨rfl, hS2, hF2⟩
    have HS2 : Hid (St W w2 (DX q v s2 x o (.slice a1 n1 c1) (.slice a2 n2 c2) (.slice a3 n3 c3) t (tl ++ [BT #[.slice a1 n1 c1, .slice a2 n2 c2, .slice a3 n3 c3] g]))) := hS2
    have HF2 := Lib.hid hF2
    clear HNX hS2 hF2 HS1 HF1 ec d2 y1 HN1
    by_cases he1 : e1 = 0
    · have y2 : ((e1 : Int) != 0) = false := by rw [he1]; rfl
      obtain ⟨i1, hi1, rfl⟩ := HC0.out he1
      have hR := HR2.out
      rw [if_neg (by simpa using he1), Int.toNat_natCast] at hR
      have HR3 := Lib.hid hR
      have hNX := st_rnext HS2.out 0 3 (by decide) rfl rfl HF2.out HLL.out.1.1 HLL.out.1.2.1 HLL.out.1.2.2
      rw [HN2.out] at hNX
      have HNX := Lib.hid hNX
      have b6 := HS2.out.blk (tl.length + 5) (DX_last ..)
      have d1 := b6.cell 1 _ rfl
      have hc0 : e2 = 0 → ∃ i : Nat, i < 64 ∧ z2 = i := fun h0 => by
        have hN := HN2.out
        obtain ⟨i, hi, h1, _⟩ := nextS_cost t.tl s2 HLL.out.1 (by rw [hN]; exact h0) HF2.out.2.2.1.1
        rw [hN] at h1
        exact ⟨i, by have := HLL.out.2; omega, h1⟩
      have HC1 := Lib.hid hc0
      clear hR HR2 HC0 b6 hNX hc0 he1
      go_wp2_with fail
      refine HNX.out.mono ?_; rintro e w3 ⟨rfl, hS3, hF3⟩
      have HS3 : Hid (St W w3 (DX q v s3 x o (.slice a1 n1 c1) (.slice a2 n2 c2) (.slice a3 n3 c3) t (tl ++ [BT #[.slice a1 n1 c1, .slice a2 n2 c2, .slice a3 n3 c3] g]))) := hS3
      have HF3 := Lib.hid hF3
      clear HNX hS3 hF3 HS2 d1 y2 HN2
      by_cases he2 : e2 = 0
      · have y3 : ((e2 : Int) != 0) = false := by rw [he2]; rfl
        obtain ⟨i2, hi2, rfl⟩ := HC1.out he2
        have hl := HL3.out
        rw [if_neg (by simpa using he2), Int.toNat_natCast] at hl
        have HL4 := Lib.hid hl
        have hnb : e3 = 0 → n ≤ 318 := fun h0 => by
          have := (len15_cost t.tl s2 HLL.out.1 (by rw [HLL.out.2]; decide) (by rw [HLN.out]; exact h0) HF2.out.2.2.1.1).1
          rw [HLN.out] at this; exact this
        have HNB := Lib.hid hnb
        obtain ⟨b63, hb63⟩ : ∃ b : Bool, ((i2 : Int) == 63) = b := ⟨_, rfl⟩
        clear hl HL3 HC1 he2 hnb HF2 HLN
        go_upto_if 51 with fail
        have HB63 := Lib.hid hb63
        clear hb63
        go_cut [14] (fun nv wx => nv = .int .i64 n ∧ Hid (e3 = 0) ∧ St W wx (DX q v s4 x o (.slice a1 n1 c1) (.slice a2 n2 c2) (.slice a3 n3 c3) t (tl ++ [BT #[.slice a1 n1 c1, .slice a2 n2 c2, .slice a3 n3 c3] g])) ∧ Hid (Fr W v l s4))
        case first =>
          have hl := HL4.out
          cases b63 with
          | true =>
            have h63 : (i2 : Int) = 63 := by have := HB63.out; simpa using this
            rw [if_pos h63] at hl
            have hNX := st_rbits HS3.out 0 rfl HF3.out 8
            have hy8 := bits_lt15 s3 8 (by decide)
            have h8 : ((8 : Nat) : Int) = 8 := rfl
            rw [h8] at hy8
            generalize s3.bits 8 = B at hl hNX hy8
            obtain ⟨y, s5⟩ := B
            dsimp only at hl hNX hy8
            simp only [Prod.mk.injEq] at hl
            obtain ⟨hn, he3, rfl⟩ := hl
            have hi2 : i2 = 63 := by omega
            subst hi2
            have HNX := Lib.hid hNX
            have hwy : IntKind.i64.wrap (y : Int) = y := by rw [IntKind.wrap_i64]; omega
            have hws : IntKind.i64.wrap (63 + (y : Int)) = (n : Int) := by rw [IntKind.wrap_i64]; omega
            have HE3 := Lib.hid he3
            clear hNX h63 hn he3 HL4
            go_wp2_with fail
            refine HNX.out.mono ?_; rintro e w4 ⟨rfl, hS4, hF4⟩
            have HS4 : Hid (St W w4 (DX q v s4 x o (.slice a1 n1 c1) (.slice a2 n2 c2) (.slice a3 n3 c3) t (tl ++ [BT #[.slice a1 n1 c1, .slice a2 n2 c2, .slice a3 n3 c3] g]))) := hS4
            have ec4 := hS4.rrCell 0 rfl
            have hE4 : s4.err = e3 := by rw [← hF4.E]; exact HE3.out.symm
            rw [hE4] at ec4
            have HF4 := Lib.hid hF4
            clear HNX hS4 hF4 HS3 hE4 HE3
            by_cases he : e3 = 0
            · have y5 : ((e3 : Int) != 0) = false := by rw [he]; rfl
              have HEE := Lib.hid he
              clear he
              go_wp2_with fail
              go_meet
              exact ⟨rfl, HEE.out, HS4.out, HF4.out⟩
            · have y5 : ((e3 : Int) != 0) = true := by simp; omega
              have hR := HR3.out
              rw [if_pos he] at hR
              have HR4 := Lib.hid hR
              have HEE := Lib.hid he
              have hk := HS4.out.kp
              clear he hR HR3 HF4 HS4
              go_wp2_with fail
              go_ret
              rw [← HR4.out]
              exact ⟨rfl, hk, fun h => absurd h HEE.out⟩
          | false =>
            have h63 : ¬ (i2 : Int) = 63 := by have := HB63.out; simpa using this
            rw [if_neg h63] at hl
            simp only [Prod.mk.injEq] at hl
            obtain ⟨rfl, rfl, rfl⟩ := hl
            clear h63 HL4
            go_wp2_with fail
            go_meet
            exact ⟨rfl, by first | exact rfl | exact True.intro, HS3.out, HF3.out⟩
        case rest =>
          clear HS3 HF3 HL4 HB63
          obtain ⟨rfl, HE3, hS, HF4⟩ := hcut
          have HS := Lib.hid hS
          have hR := HR3.out
          rw [if_neg (by simpa using HE3.out)] at hR
          have HR4 := Lib.hid hR
          have hn := HNB.out HE3.out
          clear hS hR HR3 HNB
          go_wp2_with fail
          go_loopw [12, 16] (fun fv jv wr => ∃ (j f : Nat), j ≤ low ∧ jv = .int .i64 j ∧ fv = .int .i64 f ∧ Hid (f = i1 * 2 ^ j) ∧ f ≤ 8192 ∧ ∃ m, wr = wc.drewN m) (fun _ jv _ => low - (intOf jv).toNat)
          case atStart => exact ⟨0, i1, Nat.zero_le _, rfl, rfl, by simp [Hid], by omega, 0, rfl⟩
          case round =>
            obtain ⟨j, f, hj, rfl, rfl, HFE, hf8, m, rfl⟩ := hrel
            by_cases hlt : j < low
            · have z1 : (j : Int) < (low : Int) := by omega
              have hf2 : Hid (f * 2 = i1 * 2 ^ (j + 1)) := by unfold Hid; rw [HFE.out, Nat.pow_succ, Nat.mul_assoc]
              have hfb : f * 2 ≤ 8192 := by
                rw [hf2.out]
                have h1 : 2 ^ (j + 1) ≤ 2 ^ 7 := Nat.pow_le_pow_right (by decide) (by omega)
                have h2 : i1 * 2 ^ (j + 1) ≤ 63 * 2 ^ 7 := Nat.mul_le_mul (by omega) h1
                omega
              go_wp2_with fail
              go_roundw
              case rel => exact ⟨j + 1, f * 2, by omega, by go_num, by go_num, hf2, hfb, _, rfl⟩
              case measure => simp [intOf]; omega
            · obtain rfl : j = low := by omega
              have z1 : ¬ (j : Int) < (j : Int) := by omega
              have hR := HR4.out
              rw [← HFE.out] at hR
              have HR5 := Lib.hid hR
              have hw1 : IntKind.i64.wrap ((f : Int) + (xb : Int)) = (f : Int) + (xb : Int) := by rw [IntKind.wrap_i64]; omega
              have hw2 : IntKind.i64.wrap ((f : Int) + (xb : Int) + 1) = ((f + xb + 1 : Nat) : Int) := by rw [IntKind.wrap_i64]; omega
              have hw3 : IntKind.i64.wrap ((n : Int) + (least : Int)) = ((n + least : Nat) : Int) := by rw [IntKind.wrap_i64]; omega
              have HCP := Lib.hid (st_rcopy (HS.out.read ((Keep.refl [] wc).drewN m)) 1 rfl ((f + xb + 1 : Nat) : Int) ((n + least : Nat) : Int) (by omega) (by split <;> omega))
              clear hR HR4 HFE HS
              go_wp2_with fail
              refine HCP.out.mono ?_; rintro e w5 ⟨rfl, h5⟩
              have hk := h5.kp
              have H5 := Lib.hid h5
              clear h5
              go_wp2_with fail
              go_ret
              rw [← HR5.out]
              exact ⟨rfl, hk, fun _ => ⟨_, H5.out, HF4.out⟩⟩
      · have y3 : ((e2 : Int) != 0) = true := by simp; omega
        have hl := HL3.out
        rw [if_pos he2] at hl
        simp only [Prod.mk.injEq] at hl
        obtain ⟨_, hee, _⟩ := hl
        have hR := HR3.out
        rw [if_pos (by rw [hee]; exact he2), hee] at hR
        have HR4 := Lib.hid hR
        have HEE := Lib.hid he2
        have hk := HS3.out.kp
        clear he2 hR HR3 HL3 HC1 HS3 HF3 hee
        go_wp2_with fail
        go_ret
        rw [← HR4.out]
        exact ⟨rfl, hk, fun h => absurd h HEE.out⟩
    · have y2 : ((e1 : Int) != 0) = true := by simp; omega
      have hR := HR2.out
      rw [if_pos he1] at hR
      have HR4 := Lib.hid hR
      have HEE := Lib.hid he1
      have hk := HS2.out.kp
      clear he1 hR HR2 HC0 HS2 HF2
      go_wp2_with fail
      go_ret
      rw [← HR4.out]
      exact ⟨rfl, hk, fun h => absurd h HEE.out⟩
  · have y1 : ((s1.err : Int) != 0) = true := by simp; omega
    have hR := HR.out
    rw [if_pos hz1, hE1] at hR
    have HR4 := Lib.hid hR
    have hee : s1.err ≠ 0 := by omega
    have HEE := Lib.hid hee
    have hk := HS1.out.kp
    clear hz1 hR HR HS1 HF1 hE1 hee
    go_wp2_with fail
    go_ret
    rw [← HR4.out]
    exact ⟨rfl, hk, fun h => absurd h HEE.out⟩
end Go.Proofs.YthmojejiaeninaaGreat
namespace Go.Proofs.YthmojejiaeninaaGreat
set_option linter.unusedVariables false
set_option linter.unusedSimpArgs false
set_option maxRecDepth 100000
open Go.ChangeShapes Go.WideShapes Go.ChangeAt Go.RowKit

theorem refparams15_c (w : World) (large trees : Bool) : Calls Tryz.prog 32 #[.bool large, .bool trees] w fun e w' => e = .returned (.tuple #[.int .i64 (win15 large), .int .i64 (low15 large), .int .i64 (least15 trees)]) ∧ w = w' := by
  cases large <;> cases trees <;>
  · go_enter Tryz.func32, Tryz.ntmps32
    go_wp2_with fail
    go_ret3
    exact ⟨rfl, rfl⟩
theorem refdec15_neg (w : World) (v : Value) (large trees : Bool) (size : Int) (h : size < 0) : Calls Tryz.prog 17 #[v, .bool large, .bool trees, .int .i64 size] w fun e w' => e = .returned (.tuple #[.slice none 0 0, .int .i64 0, .int .i64 2]) ∧ w = w' := by
  have HP := Lib.hid (refparams15_c w large trees)
  go_enter Tryz.func17, Tryz.ntmps17
  go_wp2_with fail
  refine HP.out.mono ?_; rintro e w1 ⟨rfl, rfl⟩
  clear HP
  generalize win15 large = A
  generalize low15 large = B
  generalize least15 trees = C
  go_wp2_with fail
  go_ret3
  exact ⟨rfl, rfl⟩
theorem refdec15_zero (w : World) (v : Value) (b : List UInt8) (large trees : Bool) (hb : Bs w v b) : Calls Tryz.prog 17 #[v, .bool large, .bool trees, .int .i64 0] w fun e w' => e = .returned (.tuple #[.slice none 0 0, .int .i64 0, .int .i64 (if b.length = 0 then 0 else 5 : Nat)]) ∧ ∃ n, w' = w.drewN n := by
  have HP := Lib.hid (refparams15_c w large trees)
  obtain ⟨a, c, rfl, _, _⟩ := hb.shape
  clear hb
  by_cases h0 : b.length = 0
  · rw [if_pos h0]
    have z1 : decide (0 < b.length) = false := by rw [h0]; rfl
    have z2 : decide ((0 : Int) < (b.length : Int)) = false := by rw [h0]; rfl
    clear h0
    go_enter Tryz.func17, Tryz.ntmps17
    go_wp2_with fail
    refine HP.out.mono ?_; rintro e w1 ⟨rfl, rfl⟩
    clear HP
    generalize win15 large = A
    generalize low15 large = B
    generalize least15 trees = C
    go_wp2_with fail
    go_ret3
    exact ⟨rfl, 0, rfl⟩
  · rw [if_neg h0]
    have z1 : decide (0 < b.length) = true := by simp; omega
    have z2 : decide ((0 : Int) < (b.length : Int)) = true := by simp; omega
    clear h0
    go_enter Tryz.func17, Tryz.ntmps17
    go_wp2_with fail
    refine HP.out.mono ?_; rintro e w1 ⟨rfl, rfl⟩
    clear HP
    generalize win15 large = A
    generalize low15 large = B
    generalize least15 trees = C
    go_wp2_with fail
    go_ret3
    exact ⟨rfl, 0, rfl⟩
set_option maxHeartbeats 8000000 in
theorem refdec15_ok (w : World) (v : Value) (b : List UInt8) (large trees : Bool) (size : Nat) (hb : Bs w v b) (hl : b.length ≤ 100000) (hs : (size : Int) ≤ 9223372036854775807) (h0 : size ≠ 0) :
    Calls Tryz.prog 17 #[v, .bool large, .bool trees, .int .i64 size] w fun e w' => ∃ v', e = .returned (.tuple #[v', .int .i64 (dec15 b large trees size).2.1, .int .i64 (dec15 b large trees size).2.2]) ∧ Bs w' v' (dec15 b large trees size).1 ∧ Keep [] w w' := by
  have HP := Lib.hid (refparams15_c w large trees)
  have hsz1 : decide ((size : Int) < 0) = false := by simp
  have hsz2 : ((size : Int) == 0) = false := by rw [beq_eq_false_iff_ne]; omega
  obtain ⟨R, hR⟩ : ∃ R, dec15 b large trees size = R := ⟨_, rfl⟩
  rw [hR]
  unfold dec15 at hR
  rw [if_neg (by omega), if_neg (by omega), Int.toNat_natCast] at hR
  have hgood := opn15_good trees ⟨b, 0, true, 0⟩
  have hwin : win15 large ≤ 65536 := by unfold win15; split <;> decide
  have hlow : low15 large ≤ 7 := by unfold low15; split <;> decide
  have hleast : 1 ≤ least15 trees ∧ least15 trees ≤ 3 := by unfold least15; split <;> decide
  generalize win15 large = win at *
  generalize low15 large = low at *
  generalize least15 trees = least at *
  obtain ⟨a, c, rfl, _, _⟩ := hb.shape
  have HW := (St.nil w).pushBox #[.slice a b.length c, .int .i64 0, .int .i64 0] 100
  have HW1 : St w (w.alloc (.cells #[.slice a b.length c, .int .i64 0, .int .i64 0] 100)) [Ob.rr w.heap.size (.slice a b.length c) ⟨b, 0, true, 0⟩] := HW
  have HW2 := HW1.push (Ob.rx (w.heap.size + 1) ⟨win, size, true, []⟩) [w.heap.size + 1] (w' := (w.alloc (.cells #[.slice a b.length c, .int .i64 0, .int .i64 0] 100)).alloc (.cells #[.int .i64 win, .int .i64 size, .bool true, .slice none 0 0] 103)) ⟨.slice none 0 0, rfl, by
    have := Blk.new (w.alloc (.cells #[.slice a b.length c, .int .i64 0, .int .i64 0] 100)) #[.int .i64 win, .int .i64 size, .bool true, .slice none 0 0] 103
    rw [World.size_alloc] at this
    exact this, OwnB.nil _, by simp [Value.ownBlock], by show size ≤ 9223372036854775807; omega, hwin⟩ ((Keep.refl [] _).alloc _) (by intro z hz; simp at hz; subst hz; simp)
  have HFR : Fr w (.slice a b.length c) b ⟨b, 0, true, 0⟩ := ⟨hb, rfl, ⟨Nat.zero_le _, by show b.length ≤ 140737488355328; omega, by show 0 < 100; decide⟩, rfl⟩
  have HFF := Lib.hid HFR
  have HH := Lib.hid HW2
  have HR := Lib.hid hR
  have HGO := Lib.hid hgood
  clear hb HW HW1 HW2 HFR hR hgood
  go_enter Tryz.func17, Tryz.ntmps17
  go_wp2_with fail
  refine HP.out.mono ?_; rintro e w1 ⟨rfl, rfl⟩
  clear HP
  go_wp2_with fail
  obtain ⟨g, hg⟩ : ∃ g, w.heap.size = g := ⟨_, rfl⟩
  rw [hg] at HH ⊢
  clear hg
  have HOP := Lib.hid (refopen15_c HH.out HFF.out trees)
  obtain ⟨t, ht⟩ : ∃ t, opn15 trees ⟨b, 0, true, 0⟩ = t := ⟨_, rfl⟩
  rw [ht] at HOP HR HGO
  clear ht HH
  refine HOP.out.mono ?_; rintro e w2 ⟨a1, n1, c1, a2, n2, c2, a3, n3, c3, rfl, K2, hgo⟩
  clear HOP
  by_cases he : t.e = 0
  · obtain ⟨hS, hF⟩ := hgo he
    obtain ⟨tok, tl', tp⟩ := HGO.out he (Nat.zero_le _)
    have hR := HR.out
    rw [if_neg (by simpa using he)] at hR
    have HR2 := Lib.hid hR
    have hP := hS.pushBox #[.slice a1 n1 c1, .slice a2 n2 c2, .slice a3 n3 c3] 105
    have HQ := Lib.hid hP
    rw [he]
    have HTK := Lib.hid tok
    have HTE := Lib.hid he
    have HF := Lib.hid hF
    have HTL := Lib.hid tl'
    clear hS hP hF tok tl' tp hR HR HGO hgo K2 he
    go_wp2_with fail
    obtain ⟨g6, hg6⟩ : ∃ g6, w2.heap.size = g6 := ⟨_, rfl⟩
    rw [hg6] at HQ ⊢
    clear hg6
    generalize w2.alloc (.cells #[.slice a1 n1 c1, .slice a2 n2 c2, .slice a3 n3 c3] 105) = w3 at HQ ⊢
    have HQ : Hid (St w w3 (DX g (.slice a b.length c) t.s (g + 1) ⟨win, size, true, []⟩ (.slice a1 n1 c1) (.slice a2 n2 c2) (.slice a3 n3 c3) t (BT #[.slice a1 n1 c1, .slice a2 n2 c2, .slice a3 n3 c3] g6 :: []))) := HQ.out
    go_loopw [17, 18] (fun ev nv wr => ∃ (er n : Nat), ev = .int .i64 er ∧ nv = .int .i64 n ∧ n ≤ 8 * b.length + 1 ∧ Keep [] w wr ∧ Hid (er ≠ 0 → ([], 0, er) = R) ∧ Hid (er = 0 → ∃ (F : Nat) (o : HS) (s : RS) (tl : List Ob), St w wr (DX g (.slice a b.length c) s (g + 1) o (.slice a1 n1 c1) (.slice a2 n2 c2) (.slice a3 n3 c3) t (BT #[.slice a1 n1 c1, .slice a2 n2 c2, .slice a3 n3 c3] g6 :: tl)) ∧ Fr w (.slice a b.length c) b s ∧ dec15L trees low least t F o s n = R ∧ F + n = 8 * b.length + 1 ∧ 2 * n ≤ s.pos ∧ o.b.length ≤ 400 * n ∧ o.most = size ∧ o.b.length ≤ size)) (fun _ nv _ => 8 * b.length + 2 - (intOf nv).toNat)
    case atStart => exact ⟨0, 0, rfl, rfl, Nat.zero_le _, HQ.out.kp, fun h => absurd rfl h, fun _ => ⟨8 * b.length + 1, _, _, [], HQ.out, HF.out, HR2.out, by omega, Nat.zero_le _, Nat.zero_le _, rfl, Nat.zero_le _⟩⟩
    case round =>
      clear HQ HF HR2
      obtain ⟨er, n, rfl, rfl, hn, hKK, HE, HG⟩ := hrel
      by_cases her : er = 0
      · obtain ⟨F, o, s, tl, hS, hF, hdl, hFn, h2n, hob, hom, hobs⟩ := HG.out her
        have e1 : ((er : Int) == 0) = true := by rw [her]; rfl
        have e2 : ((er : Int) != 0) = false := by rw [her]; rfl
        have hsp : s.pos ≤ 8 * b.length := by have := hF.2.2.1.1; rw [hF.2.1] at this; exact this
        obtain ⟨F', rfl⟩ : ∃ F', F = F' + 1 := ⟨F - 1, by omega⟩
        rw [dec15L, hom] at hdl
        obtain ⟨vo, hX⟩ := hS.rx 1 rfl
        obtain ⟨ao, no, co, rfl⟩ := hX.2.1.shape
        obtain rfl : no = o.b.length := by obtain ⟨_, _, e, _⟩ := hX.2.1.bs; simp only [Value.slice.injEq] at e; exact e.2.1
        have co3 := hX.1.cell 3 _ rfl
        have HX := Lib.hid hX.2.1.bs
        have HQ := Lib.hid hS
        have HF := Lib.hid hF
        have HDL := Lib.hid hdl
        clear HE HG hX hS hF hdl
        by_cases hfull : o.b.length < size
        · have q1 : decide (o.b.length < size) = true := by simpa using hfull
          have q2 : decide ((o.b.length : Int) < (size : Int)) = true := by simpa using hfull
          have hdl := HDL.out
          rw [if_neg (by omega)] at hdl
          have hst := step15_cost trees low least t s o (by omega) hleast.1 HTK.out
          have hse : step15 trees low least t s o = if (s.bits 1).2.E ≠ 0 then ((s.bits 1).2.E, o, (s.bits 1).2) else if (s.bits 1).1 = 1 then lit15 trees t.tb (s.bits 1).2 o else cop15 low least t.tl t.tf (s.bits 1).2 o := rfl
          obtain ⟨S5, hS5⟩ : ∃ S5, step15 trees low least t s o = S5 := ⟨_, rfl⟩
          rw [hS5] at hst hse hdl
          have hBT := st_rbits HQ.out 0 rfl HF.out 1
          have hb2 := bits_lt15 s 1 (by decide)
          have h11 : ((1 : Nat) : Int) = 1 := rfl
          rw [h11] at hb2
          generalize s.bits 1 = B1 at hse hBT hb2
          obtain ⟨bit, s1⟩ := B1
          dsimp only at hse hBT hb2
          obtain ⟨e5, o5, s5⟩ := S5
          dsimp only at hst hdl
          have HBT := Lib.hid hBT
          have HSE := Lib.hid hse
          have HST := Lib.hid hst
          have HDL := Lib.hid hdl
          have hs9 : IntKind.i64.wrap ((n : Int) + 1) = ((n + 1 : Nat) : Int) := by rw [IntKind.wrap_i64]; omega
          have hlb : s.l = b := HF.out.2.1
          have HLB := Lib.hid hlb
          have HHP : Hid (s.pos ≤ 8 * s.l.length) := by unfold Hid; rw [hlb]; exact hsp
          clear hst hse hdl hBT hS5 hlb HX
          subst her
          go_wp2_with fail
          refine HBT.out.mono ?_; rintro e w4 ⟨rfl, hS4, hF4⟩
          have HS4 : Hid (St w w4 (DX g (.slice a b.length c) s1 (g + 1) o (.slice a1 n1 c1) (.slice a2 n2 c2) (.slice a3 n3 c3) t (BT #[.slice a1 n1 c1, .slice a2 n2 c2, .slice a3 n3 c3] g6 :: tl))) := hS4
          have HF4 := Lib.hid hF4
          have ec := hS4.rrCell 0 rfl
          have hE4 := hF4.E
          have bb6 := HS4.out.blk 5 rfl
          have t0 := bb6.cell 0 _ rfl
          have t1 := bb6.cell 1 _ rfl
          have t2 := bb6.cell 2 _ rfl
          clear HBT hS4 hF4 HQ HF bb6 q1 q2 hfull co3
          by_cases hE1 : s1.E = 0
          · have x1 : ((s1.err : Int) == 0) = true := by simp; omega
            have hse := HSE.out
            rw [if_neg (by simpa using hE1)] at hse
            have hE0 : s1.err = 0 := by omega
            rw [hE0] at ec
            have HE1 := Lib.hid hE1
            clear hE4 hE1
            by_cases hbit : bit = 1
            · have x2 : ((bit : Int) == 1) = true := by rw [hbit]; rfl
              rw [if_pos hbit] at hse
              have HON := refone15_c HS4.out HF4.out trees HTK.out.1 HE1.out (by omega)
              rw [← hse] at HON
              have HON := Lib.hid HON
              clear hse HSE hbit x1 hE0
              go_wp2_with fail
              refine HON.out.mono ?_; rintro e w5 ⟨rfl, hk5, h5⟩
              have H5 := Lib.hid h5
              dsimp only
              clear HON h5 ec
              go_wp2_with fail
              go_roundw
              case rel =>
                refine ⟨e5, n + 1, rfl, by first | rfl | simp, by omega, hk5, fun h => ?_, fun h => ?_⟩
                · have := HDL.out; rw [if_pos h] at this; exact this
                · obtain ⟨tl', h6, h7⟩ := H5.out h
                  have hdl := HDL.out
                  rw [if_neg (by simpa using h)] at hdl
                  obtain ⟨m1, m2, m3, m4, m5, m6, m7⟩ := HST.out h HHP.out (by omega)
                  exact ⟨F', o5, s5, tl ++ tl', h6, h7, hdl, by omega, by omega, by omega, by omega, by omega⟩
              case measure => simp [intOf]; omega
            · have x2 : ((bit : Int) == 1) = false := by rw [beq_eq_false_iff_ne]; omega
              rw [if_neg hbit] at hse
              have HON := refsev15_c HS4.out HF4.out low least hlow hleast.2 HTK.out.2.1 HTK.out.2.2 (by omega)
              rw [← hse] at HON
              have HON := Lib.hid HON
              clear hse HSE hbit x1 hE0
              go_wp2_with fail
              refine HON.out.mono ?_; rintro e w5 ⟨rfl, hk5, h5⟩
              have H5 := Lib.hid h5
              dsimp only
              clear HON h5 ec
              go_wp2_with fail
              go_roundw
              case rel =>
                refine ⟨e5, n + 1, rfl, by first | rfl | simp, by omega, hk5, fun h => ?_, fun h => ?_⟩
                · have := HDL.out; rw [if_pos h] at this; exact this
                · obtain ⟨tl', h6, h7⟩ := H5.out h
                  have hdl := HDL.out
                  rw [if_neg (by simpa using h)] at hdl
                  obtain ⟨m1, m2, m3, m4, m5, m6, m7⟩ := HST.out h HHP.out (by omega)
                  exact ⟨F', o5, s5, tl ++ tl', h6, h7, hdl, by omega, by omega, by omega, by omega, by omega⟩
              case measure => simp [intOf]; omega
          · have x1 : ((s1.err : Int) == 0) = false := by rw [beq_eq_false_iff_ne]; omega
            have hse := HSE.out
            rw [if_pos hE1, hE4] at hse
            simp only [Prod.mk.injEq] at hse
            obtain ⟨he5, _, _⟩ := hse
            have hk := HS4.out.kp
            have hee : s1.err ≠ 0 := by omega
            have HEE : Hid (e5 ≠ 0) := by unfold Hid; omega
            rw [← he5] at ec x1
            clear HSE hE4 hE1 hee he5
            go_wp2_with fail
            go_roundw
            case rel => exact ⟨e5, n + 1, rfl, by first | rfl | simp, by omega, hk, fun h => by have := HDL.out; rw [if_pos h] at this; exact this, fun h => absurd h HEE.out⟩
            case measure => simp [intOf]; omega
        · have q1 : decide (o.b.length < size) = false := by simpa using hfull
          have q2 : decide ((o.b.length : Int) < (size : Int)) = false := by simpa using hfull
          have hdl := HDL.out
          rw [if_pos (by omega)] at hdl
          have HLF := Lib.hid (st_rleft HQ.out 0 rfl HF.out)
          by_cases h8 : 8 ≤ s.left
          · have r1 : decide ((8 : Int) ≤ (s.left : Int)) = true := by simp; omega
            have r2 : decide (8 ≤ s.left) = true := by simpa using h8
            rw [if_pos h8] at hdl
            have HD2 := Lib.hid hdl
            clear hdl HDL h8 HX HQ HF
            go_wp2_with fail
            refine HLF.out.mono ?_; rintro e w6 ⟨rfl, m, rfl⟩
            go_wp2_with fail
            go_ret3
            exact ⟨.slice none 0 0, by rw [← HD2.out]; rfl, by rw [← HD2.out]; exact Bs.nil _, hKK.drewN m⟩
          · have r1 : decide ((8 : Int) ≤ (s.left : Int)) = false := by simp; omega
            have r2 : decide (8 ≤ s.left) = false := by simpa using h8
            rw [if_neg h8] at hdl
            have HD2 := Lib.hid hdl
            have co4 : ∀ m, (wr.drewN m).cell? ⟨g + 1, 3, none⟩ = some (.slice ao o.b.length co) := fun m => co3
            clear hdl HDL h8 HQ HF
            go_wp2_with fail
            refine HLF.out.mono ?_; rintro e w6 ⟨rfl, m, rfl⟩
            have co5 := co4 m
            go_wp2_with fail
            go_ret3
            exact ⟨.slice ao o.b.length co, by rw [← HD2.out]; rfl, by rw [← HD2.out]; exact HX.out.keep ((Keep.refl [] wr).drewN m) (by simp), hKK.drewN m⟩
      · have e1 : ((er : Int) == 0) = false := by rw [beq_eq_false_iff_ne]; omega
        have e2 : ((er : Int) != 0) = true := by simp; omega
        have HD2 := Lib.hid (HE.out her)
        clear HE HG her
        go_wp2_with fail
        go_ret3
        exact ⟨.slice none 0 0, by rw [← HD2.out]; rfl, by rw [← HD2.out]; exact Bs.nil _, hKK⟩
  · have e1 : ((t.e : Int) == 0) = false := by rw [beq_eq_false_iff_ne]; omega
    have e2 : ((t.e : Int) != 0) = true := by simp; omega
    have hR := HR.out
    rw [if_pos he] at hR
    have HR2 := Lib.hid hR
    have K3 : Keep [] w (w2.alloc (.cells #[.slice a1 n1 c1, .slice a2 n2 c2, .slice a3 n3 c3] 105)) := K2.alloc _
    clear hR HR he HGO hgo
    go_wp2_with fail
    refine wp_loop_rounds 1 ?_
    rw [rounds_succ]
    go_wp2_with fail
    go_ret3
    exact ⟨.slice none 0 0, by rw [← HR2.out]; rfl, by rw [← HR2.out]; exact Bs.nil _, K3⟩
theorem refdec15_c (w : World) (v : Value) (b : List UInt8) (large trees : Bool) (size : Int) (hb : Bs w v b) (hl : b.length ≤ 100000) (hs : (Lit.int .i64 size).wf = true) :
    Calls Tryz.prog 17 #[v, .bool large, .bool trees, .int .i64 size] w fun e w' => ∃ v', e = .returned (.tuple #[v', .int .i64 (dec15 b large trees size).2.1, .int .i64 (dec15 b large trees size).2.2]) ∧ Bs w' v' (dec15 b large trees size).1 ∧ Keep [] w w' := by
  have hs2 : -9223372036854775808 ≤ size ∧ size ≤ 9223372036854775807 := by simpa [Lit.wf, IntKind.min, IntKind.max, IntKind.bits, IntKind.signed] using hs
  by_cases h : size < 0
  · have hd : dec15 b large trees size = ([], 0, 2) := by unfold dec15; rw [if_pos h]
    rw [hd]
    refine (refdec15_neg w v large trees size h).mono ?_
    rintro e w' ⟨rfl, rfl⟩
    exact ⟨_, rfl, Bs.nil _, Keep.refl _ _⟩
  · obtain ⟨m, rfl⟩ : ∃ m : Nat, size = m := ⟨size.toNat, by omega⟩
    by_cases h0 : m = 0
    · subst h0
      have hd : dec15 b large trees ((0 : Nat) : Int) = ([], 0, if b.length = 0 then 0 else 5) := by
        unfold dec15; rw [if_neg h, if_pos (show ((0 : Nat) : Int) = 0 from rfl)]; split <;> rfl
      rw [hd]
      refine (refdec15_zero w v b large trees hb).mono ?_
      rintro e w' ⟨rfl, n, rfl⟩
      exact ⟨_, rfl, Bs.nil _, (Keep.refl _ _).drewN n⟩
    · exact refdec15_ok w v b large trees m hb hl hs2.2 h0
end Go.Proofs.YthmojejiaeninaaGreat
namespace Go.Proofs.YthmojejiaeninaaGreat
set_option linter.unusedVariables false
set_option linter.unusedSimpArgs false
set_option maxRecDepth 100000
open Go.ChangeShapes Go.WideShapes Go.ChangeAt Go.RowKit

theorem packS_len (zs : List Int) (h : schk zs = 0) : packS zs = packL (Ln zs) ∧ (packL (Ln zs)).length ≤ 257 := by
  obtain ⟨m1, _⟩ := schk_ok h
  obtain ⟨_, hl, _, h256⟩ := full_of h
  have := pk_len (Ln zs) 1
  refine ⟨by unfold packS; rw [if_pos m1], ?_⟩
  have : (packL (Ln zs)).length = (pk 1 (Ln zs)).length + 1 := rfl
  omega
theorem tkb15_len (trees : Bool) (low least : Nat) (LB LL LF : List Nat) (hlow : low ≤ 7) (hB : trees = true → ∀ i, len LB i ≤ 16) (hL : ∀ i, len LL i ≤ 16) (hF : ∀ i, len LF i ≤ 16) (t : Tk) : (tkb15 trees low least LB LL LF t).length ≤ 64 := by
  unfold tkb15
  have b := hF ((t.dist - 1).toNat / 2 ^ low)
  have c := hL (min (t.len - least).toNat 63)
  split
  · rw [List.length_append, bitsOf_length]
    split
    · rename_i h; have a := hB h t.lit.toNat; rw [bitsOf_length]; omega
    · rw [bitsOf_length]; omega
  · simp only [List.length_append, bitsOf_length]
    split <;> simp only [bitsOf_length, List.length_nil] <;> omega
theorem at_last4 (a b c d : Ob) (tl : List Ob) (P : Ob) : (a :: b :: c :: d :: (tl ++ [P]))[tl.length + 4]? = some P := by
  rw [List.getElem?_cons_succ, List.getElem?_cons_succ, List.getElem?_cons_succ, List.getElem?_cons_succ]
  simp
theorem len16 {zs : List Int} (h : schk zs = 0) (i : Nat) : len (Ln zs) i ≤ 16 := by
  obtain ⟨hF, _⟩ := full_of h
  by_cases hi : i < (Ln zs).length
  · exact hF.1 i hi
  · unfold len; rw [List.getD_eq_getElem?_getD, List.getElem?_eq_none (by omega)]; exact Nat.zero_le _
/-- the bytes of a tree are put behind -/
theorem hd15_len (trees : Bool) (zb zl zf : List Int) (hb : trees = true → schk zb = 0 ∧ zb.length = 256) (hl : schk zl = 0 ∧ zl.length = 64) (hf : schk zf = 0 ∧ zf.length = 64) : (hd15 trees (Ln zb) (Ln zl) (Ln zf)).length ≤ 10000 := by
  have h1 := (packS_len zl hl.1).2
  have h2 := (packS_len zf hf.1).2
  unfold hd15
  rw [List.length_append, List.length_append, b8_length, b8_length]
  split
  · rename_i h; have h3 := (packS_len zb (hb h).1).2; rw [b8_length]; omega
  · simp; omega
set_option maxHeartbeats 8000000 in
theorem refwrite15_c (w : World) (large trees : Bool) (vb vl vf vt : Value) (zb zl zf : List Int) (ts : List Tk) (hvb : Is .i64 w vb zb) (hvl : Is .i64 w vl zl) (hvf : Is .i64 w vf zf) (hvt : Ts w vt ts)
    (hb : trees = true → schk zb = 0 ∧ zb.length = 256) (hl : schk zl = 0 ∧ zl.length = 64) (hf : schk zf = 0 ∧ zf.length = 64) (hts : ∀ t ∈ ts, tkOk15 (low15 large) (least15 trees) t) (hn : ts.length ≤ 1000) :
    Calls Tryz.prog 15 #[.bool large, .bool trees, vb, vl, vf, vt] w fun e w' => ∃ v', e = .returned v' ∧ Bs w' v' (wr15 trees (low15 large) (least15 trees) (Ln zb) (Ln zl) (Ln zf) ts) ∧ Keep [] w w' := by
  have HP := Lib.hid (refparams15_c w large trees)
  have hlow : low15 large ≤ 7 := by unfold low15; split <;> decide
  have hleast : 1 ≤ least15 trees ∧ least15 trees ≤ 3 := by unfold least15; split <;> decide
  have hwr : wr15 trees (low15 large) (least15 trees) (Ln zb) (Ln zl) (Ln zf) ts = ofBits (hd15 trees (Ln zb) (Ln zl) (Ln zf) ++ ts.flatMap (tkb15 trees (low15 large) (least15 trees) (Ln zb) (Ln zl) (Ln zf))) := rfl
  have htl := tkb15_len trees (low15 large) (least15 trees) (Ln zb) (Ln zl) (Ln zf) hlow
  have hdl := hd15_len trees zb zl zf hb hl hf
  generalize win15 large = win at *
  generalize low15 large = low at *
  generalize least15 trees = least at *
  have hpk := hd15 trees (Ln zb) (Ln zl) (Ln zf)
  obtain ⟨R, hR⟩ : ∃ R, wr15 trees low least (Ln zb) (Ln zl) (Ln zf) ts = R := ⟨_, rfl⟩
  rw [hR] at hwr ⊢
  have HWR := Lib.hid hwr
  clear hwr hR hpk
  obtain ⟨ab, cb, rfl, _⟩ := hvb.sh
  obtain ⟨al, cl, rfl, _⟩ := hvl.sh
  obtain ⟨af, cf, rfl, _⟩ := hvf.sh
  obtain ⟨at', ct, rfl, _⟩ := hvt.sh
  have HVB := Lib.hid hvb; have HVL := Lib.hid hvl; have HVF := Lib.hid hvf; have HVT := Lib.hid hvt
  have HB := Lib.hid hb; have HL := Lib.hid hl; have HFz := Lib.hid hf; have HTS := Lib.hid hts; have HTL := Lib.hid htl; have HDL := Lib.hid hdl
  have hP := (St.nil w).push (Ob.rw w.heap.size []) [w.heap.size] (w' := w.alloc (.cells #[.slice none 0 0] 73)) ⟨.slice none 0 0, rfl, Blk.new _ _ _, OwnB.nil _, by simp [Value.ownBlock]⟩ ((Keep.refl [] _).alloc _) (by intro z hz; simp at hz; omega)
  have HS := Lib.hid hP
  clear hvb hvl hvf hvt hb hl hf hts hP htl hdl
  go_enter Tryz.func15, Tryz.ntmps15
  go_wp2_with fail
  refine HP.out.mono ?_; rintro e w1 ⟨rfl, rfl⟩
  clear HP
  go_upto_if 42 with fail
  obtain ⟨q, hq⟩ : ∃ q, w.heap.size = q := ⟨_, rfl⟩
  rw [hq] at HS ⊢
  clear hq
  generalize w.alloc (.cells #[.slice none 0 0] 73) = w1 at HS ⊢
  go_cut [] (fun wx => St w wx [Ob.rw q (if trees then b8 (packL (Ln zb)) else [])])
  case first =>
    cases trees with
    | true =>
      have hpb := packS_len zb (HB.out rfl).1
      have HPK := sfpack_c w1 _ zb (HVB.out.keep HS.out.kp (by simp))
      rw [hpb.1] at HPK
      have HPK := Lib.hid HPK
      have hpb2 := hpb.2
      clear hpb HWR HTL HDL HVL HVF HVT HL HFz HTS
      go_wp2_with fail
      refine HPK.out.mono ?_; rintro e w2 ⟨v2, rfl, hB2, k2, hb2⟩
      have hS2 := HS.out.pushBs hB2 k2 hb2
      have HPB := Lib.hid (st_rputbytes hS2 0 1 (by decide) rfl rfl rfl (by simp; omega))
      obtain ⟨a2, c2, rfl, _, _⟩ := hB2.shape
      clear HPK HS hB2 k2 hb2 hS2 hpb2
      go_wp2_with fail
      refine HPB.out.mono ?_; rintro e w3 ⟨rfl, h3⟩
      have H3 := Lib.hid (St.cut [_] [_] [] h3)
      clear h3 HPB
      go_wp2_with fail
      go_meet
      have := H3.out
      simpa using this
    | false =>
      clear HWR HTL HDL HVL HVF HVT HL HFz HTS HB HVB
      go_wp2_with fail
      go_meet
      exact HS.out
  case rest =>
    clear HS
    have hB8 : (if trees then b8 (packL (Ln zb)) else []).length % 8 = 0 ∧ (if trees then b8 (packL (Ln zb)) else []).length ≤ 5000 := by
      cases trees with
      | true => rw [if_pos rfl, b8_length]; have := (packS_len zb (HB.out rfl).1).2; omega
      | false => simp
    have hhd : hd15 trees (Ln zb) (Ln zl) (Ln zf) = ((if trees then b8 (packL (Ln zb)) else []) ++ b8 (packL (Ln zl))) ++ b8 (packL (Ln zf)) := rfl
    have HHD := Lib.hid hhd
    generalize (if trees then b8 (packL (Ln zb)) else []) = B0 at hcut hB8 HHD
    have hk := hcut.kp
    have hpl := packS_len zl HL.out.1
    have HPK := sfpack_c wc _ zl (HVL.out.keep hk (by simp))
    rw [hpl.1] at HPK
    have HPK := Lib.hid HPK
    have hpl2 := hpl.2
    have HC := Lib.hid hcut
    clear hpl hcut hk hhd
    go_wp2_with fail
    refine HPK.out.mono ?_; rintro e w2 ⟨v2, rfl, hB2, k2, hb2⟩
    have hS2 := HC.out.pushBs hB2 k2 hb2
    have HPB := Lib.hid (st_rputbytes hS2 0 1 (by decide) rfl rfl hB8.1 (by omega))
    obtain ⟨a2, c2, rfl, _, _⟩ := hB2.shape
    clear HPK HC hB2 k2 hb2 hS2
    go_wp2_with fail
    refine HPB.out.mono ?_; rintro e w3 ⟨rfl, h3⟩
    have h3 : St w w3 [Ob.rw q (B0 ++ b8 (packL (Ln zl)))] := St.cut [_] [_] [] h3
    have hB9 : (B0 ++ b8 (packL (Ln zl))).length % 8 = 0 ∧ (B0 ++ b8 (packL (Ln zl))).length ≤ 8000 := by rw [List.length_append, b8_length]; omega
    clear HPB hB8 hpl2
    have hk := h3.kp
    have hpl := packS_len zf HFz.out.1
    have HPK := sfpack_c w3 _ zf (HVF.out.keep hk (by simp))
    rw [hpl.1] at HPK
    have HPK := Lib.hid HPK
    have hpl2 := hpl.2
    have HC := Lib.hid h3
    generalize hB1 : B0 ++ b8 (packL (Ln zl)) = B1 at *
    clear hpl h3 hk hB1
    go_wp2_with fail
    refine HPK.out.mono ?_; rintro e w4 ⟨v4, rfl, hB4, k4, hb4⟩
    have hS4 := HC.out.pushBs hB4 k4 hb4
    have HPB := Lib.hid (st_rputbytes hS4 0 1 (by decide) rfl rfl hB9.1 (by omega))
    obtain ⟨a4, c4, rfl, _, _⟩ := hB4.shape
    clear HPK HC hB4 k4 hb4 hS4
    go_wp2_with fail
    refine HPB.out.mono ?_; rintro e w5 ⟨rfl, h5⟩
    have h5 : St w w5 [Ob.rw q (hd15 trees (Ln zb) (Ln zl) (Ln zf))] := by rw [HHD.out]; exact St.cut [_] [_] [] h5
    clear HPB hB9 hpl2
    obtain ⟨H0, hH0⟩ : ∃ H0, hd15 trees (Ln zb) (Ln zl) (Ln zf) = H0 := ⟨_, rfl⟩
    rw [hH0] at HWR HDL h5
    clear hH0 HHD
    have HWB := Lib.hid (sfwords_c w5 _ zb (HVB.out.keep h5.kp (by simp)))
    have H5 := Lib.hid h5
    clear h5
    go_wp2_with fail
    refine HWB.out.mono ?_; rintro e w6 ⟨vb6, rfl, hc6, k6, f6, n6⟩
    have hne : Ls zb ≠ [] ∨ vb6 = .slice none 0 0 := by
      by_cases h0 : schk zb = 0
      · left
        obtain ⟨_, e, p, _⟩ := full_of h0
        unfold Ls; rw [if_pos h0]; intro e2; rw [e2] at e; simp at e; omega
      · exact .inr (n6 h0)
    have h6 := H5.out.push (Ob.cds vb6 (Ls zb)) vb6.ownBlock.toList ⟨rfl, hc6, hc6.lt hne⟩ k6 (fun b hb => f6 b (by simpa using hb))
    obtain ⟨a6, c6, rfl, _⟩ := hc6.shape
    have H6 := Lib.hid h6
    clear HWB hc6 k6 f6 n6 hne h6 H5
    have hlsl : Ls zl = Ln zl := by unfold Ls; rw [if_pos HL.out.1]
    have HWL := sfwords_c w6 _ zl (HVL.out.keep H6.out.kp (by simp))
    rw [hlsl] at HWL
    have HWL := Lib.hid HWL
    clear hlsl
    generalize schk zb = eb
    go_wp2_with fail
    refine HWL.out.mono ?_; rintro e w7 ⟨vb7, rfl, hc7, k7, f7, n7⟩
    have hne : Ln zl ≠ [] ∨ vb7 = .slice none 0 0 := by
      left
      obtain ⟨_, e, p, _⟩ := full_of HL.out.1
      intro e2; rw [e2] at e; simp at e; omega
    have h7 := H6.out.push (Ob.cds vb7 (Ln zl)) vb7.ownBlock.toList ⟨rfl, hc7, hc7.lt hne⟩ k7 (fun b hb => f7 b (by simpa using hb))
    obtain ⟨a7, c7, rfl, _⟩ := hc7.shape
    have H7 := Lib.hid h7
    clear HWL hc7 k7 f7 n7 hne h7 H6
    have hlsl : Ls zf = Ln zf := by unfold Ls; rw [if_pos HFz.out.1]
    have HWF := sfwords_c w7 _ zf (HVF.out.keep H7.out.kp (by simp))
    rw [hlsl] at HWF
    have HWF := Lib.hid HWF
    clear hlsl
    rw [HL.out.1]
    go_wp2_with fail
    refine HWF.out.mono ?_; rintro e w8 ⟨vb8, rfl, hc8, k8, f8, n8⟩
    have hne : Ln zf ≠ [] ∨ vb8 = .slice none 0 0 := by
      left
      obtain ⟨_, e, p, _⟩ := full_of HFz.out.1
      intro e2; rw [e2] at e; simp at e; omega
    have h8 := H7.out.push (Ob.cds vb8 (Ln zf)) vb8.ownBlock.toList ⟨rfl, hc8, hc8.lt hne⟩ k8 (fun b hb => f8 b (by simpa using hb))
    obtain ⟨a8, c8, rfl, _⟩ := hc8.shape
    have H8 := Lib.hid h8
    clear HWF hc8 k8 f8 n8 hne h8 H7
    rw [HFz.out.1]
    obtain ⟨TK, hTK⟩ : ∃ TK, tkb15 trees low least (Ln zb) (Ln zl) (Ln zf) = TK := ⟨_, rfl⟩
    rw [hTK] at HWR HTL
    have HTK := Lib.hid hTK
    have hT64 : ∀ t, (TK t).length ≤ 64 := HTL.out (fun e i => len16 (HB.out e).1 i) (fun i => len16 HL.out.1 i) (fun i => len16 HFz.out.1 i)
    have HT64 := Lib.hid hT64
    clear hTK hT64 HTL
    have h8 : St w w8 [Ob.rw q H0, Ob.cds (.slice a6 (Ls zb).length c6) (Ls zb), Ob.cds (.slice a7 (Ln zl).length c7) (Ln zl), Ob.cds (.slice a8 (Ln zf).length c8) (Ln zf)] := H8.out
    have H8 := Lib.hid h8
    clear h8
    have hLlen : (Ln zl).length = 64 := by rw [(full_of HL.out.1).2.1]; exact HL.out.2
    have hFlen : (Ln zf).length = 64 := by rw [(full_of HFz.out.1).2.1]; exact HFz.out.2
    have HL16 := Lib.hid (fun i => len16 HL.out.1 i)
    have HF16 := Lib.hid (fun i => len16 HFz.out.1 i)
    have HBT : Hid (trees = true → Ls zb = Ln zb ∧ (Ln zb).length = 256 ∧ ∀ i, len (Ln zb) i ≤ 16) := fun e => ⟨by unfold Ls; rw [if_pos (HB.out e).1], by rw [(full_of (HB.out e).1).2.1]; exact (HB.out e).2, fun i => len16 (HB.out e).1 i⟩
    clear HVB HVL HVF HB HL HFz
    generalize Ls zb = TB at *
    generalize Ln zb = LB at *
    generalize Ln zl = LL at *
    generalize Ln zf = LF at *
    rw [hLlen, hFlen] at H8 ⊢
    go_wp2_with fail
    go_loopw [27] (fun iv wr => ∃ (k : Nat) (tl : List Ob), k ≤ ts.length ∧ iv = .int .i64 k ∧ St w wr (Ob.rw q (H0 ++ (ts.take k).flatMap TK) :: Ob.cds (.slice a6 TB.length c6) TB :: Ob.cds (.slice a7 64 c7) LL :: Ob.cds (.slice a8 64 c8) LF :: tl)) (fun iv _ => ts.length - (intOf iv).toNat)
    case atStart => exact ⟨0, [], Nat.zero_le _, rfl, by simpa using H8.out⟩
    case round =>
      clear H8
      obtain ⟨k, tl, hk, rfl, hS⟩ := hrel
      by_cases hlt : k < ts.length
      · have hb64 : (H0 ++ (ts.take k).flatMap TK).length ≤ 10000 + 64 * k := by
          have : ∀ l : List Tk, (l.flatMap TK).length ≤ 64 * l.length := by
            intro l
            induction l with
            | nil => simp
            | cons t l ih => rw [List.flatMap_cons, List.length_append, List.length_cons]; have := HT64.out t; omega
          have h1 := this (ts.take k)
          have h2 : (ts.take k).length ≤ k := by rw [List.length_take]; omega
          rw [List.length_append]
          have := HDL.out
          omega
        have hsn : (H0 ++ (ts.take k).flatMap TK) ++ TK ts[k] = H0 ++ (ts.take (k + 1)).flatMap TK := by
          rw [List.take_succ_eq_append_getElem hlt, List.flatMap_append, List.append_assoc]; simp
        have HSN := Lib.hid hsn
        obtain ⟨B, hB⟩ : ∃ B, H0 ++ (ts.take k).flatMap TK = B := ⟨_, rfl⟩
        rw [hB] at hS hb64 HSN
        clear hB hsn
        obtain ⟨b, off, cap, hv, e1, e2, e3⟩ := (HVT.out.keep hS.kp (by simp)).at k hlt
        simp only [Value.slice.injEq] at hv
        obtain ⟨rfl, h2, rfl⟩ := hv
        clear h2
        have hok := HTS.out _ (List.getElem_mem hlt)
        obtain ⟨t, ht⟩ : ∃ t, ts[k] = t := ⟨_, rfl⟩
        rw [ht] at e1 e2 e3 hok HSN
        have hs2 := hS.pushBox #[.int .u8 t.lit.toNat, .int .i64 t.dist, .int .i64 t.len] 42
        obtain ⟨g, hg⟩ : ∃ g, wr.heap.size = g := ⟨_, rfl⟩
        have HS2 : Hid (St w (wr.alloc (.cells #[.int .u8 t.lit.toNat, .int .i64 t.dist, .int .i64 t.len] 42)) (Ob.rw q B :: Ob.cds (.slice a6 TB.length c6) TB :: Ob.cds (.slice a7 64 c7) LL :: Ob.cds (.slice a8 64 c8) LF :: (tl ++ [Ob.box wr.heap.size #[.int .u8 t.lit.toNat, .int .i64 t.dist, .int .i64 t.len] 42]))) := hs2
        rw [hg] at HS2
        have HOK := Lib.hid hok
        have HTT := HTK.out
        have hTt : tkb15 trees low least LB LL LF t = TK t := by rw [HTT]
        unfold tkb15 at hTt
        have HTt := Lib.hid hTt
        have HG := Lib.hid hg
        clear hS hs2 hok ht HTT hTt hg
        by_cases h0 : t.len = 0
        · have hTt := HTt.out
          rw [if_pos h0] at hTt
          have HT2 := Lib.hid hTt
          rw [h0] at e3 HS2
          have H1 := Lib.hid (st_rput HS2.out 0 rfl 1 1 (by decide) (by decide) (by omega))
          clear hTt HTt h0 HOK
          go_wp2_with fail
          rw [HG.out]
          refine H1.out.mono ?_; rintro e w1 ⟨rfl, h1⟩
          have h1 : St w w1 (Ob.rw q (B ++ bitsOf 1 1) :: Ob.cds (.slice a6 TB.length c6) TB :: Ob.cds (.slice a7 64 c7) LL :: Ob.cds (.slice a8 64 c8) LF :: (tl ++ [Ob.box g #[.int .u8 t.lit.toNat, .int .i64 t.dist, .int .i64 0] 42])) := h1
          have hlit := t.lit.toNat_lt
          obtain ⟨z, hz⟩ : ∃ z, t.lit.toNat = z := ⟨_, rfl⟩
          rw [hz] at HT2 h1 hlit
          rw [hz] at *
          have bt := h1.blk (tl.length + 4) (at_last4 ..)
          have d0 := bt.cell 0 _ rfl
          have hB1 : (B ++ bitsOf 1 1).length ≤ 90000 := by rw [List.length_append, bitsOf_length]; omega
          clear H1 HS2 e1 e2 e3
          cases trees with
          | true =>
            have hT2 := HT2.out
            rw [if_pos rfl] at hT2
            obtain ⟨hTB, h256, h16⟩ := HBT.out rfl
            subst hTB
            have x1 : z < TB.length := by omega
            have x2 : (z : Int) < (TB.length : Int) := by omega
            have x3 : decide (z < TB.length) = true := by simpa using x1
            have x4 : decide ((z : Int) < (TB.length : Int)) = true := by simpa using x2
            obtain ⟨bB, oB, pB, hvB, f0, f1⟩ := (h1.cds 1 rfl).1.at z x1
            simp only [Value.slice.injEq] at hvB
            obtain ⟨rfl, h2, rfl⟩ := hvB
            clear h2
            have hsc := scode_lt TB z
            have h16z := h16 z
            have hpw : 2 ^ len TB z ≤ 2 ^ 16 := Nat.pow_le_pow_right (by decide) h16z
            obtain ⟨sc, hsce⟩ : ∃ sc, scode TB z = sc := ⟨_, rfl⟩
            obtain ⟨ln, hlne⟩ : ∃ ln, len TB z = ln := ⟨_, rfl⟩
            rw [hsce] at f0 hT2 hsc
            rw [hlne] at f1 hT2 hsc h16z hpw
            have hd := h1.read ((Keep.refl [] w1).drew)
            have H2 := Lib.hid (st_rput hd 0 rfl sc ln (by omega) (by omega) (by omega))
            have HT3 := Lib.hid hT2
            clear hsce hlne hd h16 hT2 HT2 hsc hpw h1 bt HBT hz h256
            go_wp2_with fail
            go_still_tail 13, (by kernel_rfl)
            change wpList _ _ _ _ _ w1.drew
            go_wp2_with fail
            refine H2.out.mono ?_; rintro e w2 ⟨rfl, h2⟩
            have H3 := Lib.hid h2
            clear H2 h2 d0 f0 f1
            go_wp2_with fail
            go_roundw
            case rel =>
              refine ⟨k + 1, tl ++ [Ob.box g #[.int .u8 z, .int .i64 t.dist, .int .i64 0] 42], by omega, by first | rfl | simp, ?_⟩
              rw [← HSN.out, ← HT3.out, ← List.append_assoc]
              exact H3.out
            case measure => simp [intOf]; omega
          | false =>
            have hT2 := HT2.out
            rw [if_neg (by simp)] at hT2
            have H2 := Lib.hid (st_rput h1 0 rfl z 8 (by omega) (by decide) (by omega))
            have HT3 := Lib.hid hT2
            have hwz : IntKind.u32.wrap (z : Int) = z := by rw [IntKind.wrap_u32]; omega
            clear hT2 HT2 h1 bt HBT hz
            go_wp2_with fail
            refine H2.out.mono ?_; rintro e w2 ⟨rfl, h2⟩
            have H3 := Lib.hid h2
            clear H2 h2 d0
            go_wp2_with fail
            go_roundw
            case rel =>
              refine ⟨k + 1, tl ++ [Ob.box g #[.int .u8 z, .int .i64 t.dist, .int .i64 0] 42], by omega, by first | rfl | simp, ?_⟩
              rw [← HSN.out, ← HT3.out, ← List.append_assoc]
              exact H3.out
            case measure => simp [intOf]; omega
        · have hTt := HTt.out
          rw [if_neg h0] at hTt
          obtain ⟨g1, g2, g3, g4⟩ : (least : Int) ≤ t.len ∧ t.len ≤ least + 318 ∧ 1 ≤ t.dist ∧ t.dist ≤ 64 * 2 ^ low := by
            rcases HOK.out with ⟨a, _⟩ | b
            · exact absurd a h0
            · exact b
          obtain ⟨n, hn'⟩ : ∃ n : Nat, t.len = (n : Int) + least := ⟨(t.len - least).toNat, by omega⟩
          obtain ⟨d, hd'⟩ : ∃ d : Nat, t.dist = (d : Int) + 1 := ⟨(t.dist - 1).toNat, by omega⟩
          have en : (t.len - least).toNat = n := by omega
          have ed : (t.dist - 1).toNat = d := by omega
          have hn318 : n ≤ 318 := by omega
          have h2low : 2 ^ low ≤ 2 ^ 7 := Nat.pow_le_pow_right (by decide) hlow
          have hd64 : d < 64 * 2 ^ low := by
            have : ((64 * 2 ^ low : Nat) : Int) = 64 * 2 ^ low := by simp
            omega
          have hd8191 : d ≤ 8191 := by omega
          have hdd : d / 2 ^ low < 64 := (Nat.div_lt_iff_lt_mul (Nat.two_pow_pos low)).2 hd64
          rw [en, ed] at hTt
          have HT2 := Lib.hid hTt
          have hlen0 : (t.len == 0) = false := by rw [beq_eq_false_iff_ne]; exact h0
          have hws1 : IntKind.i64.wrap (t.len - least) = (n : Int) := by rw [IntKind.wrap_i64]; omega
          have hws2 : IntKind.i64.wrap (t.dist - 1) = (d : Int) := by rw [IntKind.wrap_i64]; omega
          have HW1 : Hid (∀ ww, Calls Tryz.prog 37 #[.int .i64 (n : Int), .int .i64 0, .int .i64 318] ww fun e w' => e = .returned (.int .i64 (n : Int)) ∧ ∃ m, w' = ww.drewN m) := fun ww => (within_c n 0 318 ww (by omega)).mono (fun e w' h => by
            rw [show max (0 : Int) (min n 318) = n by omega] at h
            exact ⟨h.1, 0, h.2.symm⟩)
          have HW2 : Hid (∀ ww, Calls Tryz.prog 37 #[.int .i64 (d : Int), .int .i64 0, .int .i64 8191] ww fun e w' => e = .returned (.int .i64 (d : Int)) ∧ ∃ m, w' = ww.drewN m) := fun ww => (within_c d 0 8191 ww (by omega)).mono (fun e w' h => by
            rw [show max (0 : Int) (min d 8191) = d by omega] at h
            exact ⟨h.1, 0, h.2.symm⟩)
          have HNL := Lib.hid hn'; have HD64 := Lib.hid hd64; have HDD := Lib.hid hdd; have H2L := Lib.hid h2low
          clear hTt HTt h0 HOK g1 g2 g3 g4 hn' hd' en ed hd64 hdd h2low HBT
          go_wp2_with fail
          rw [HG.out]
          generalize wr.alloc (.cells #[.int .u8 t.lit.toNat, .int .i64 t.dist, .int .i64 t.len] 42) = w1 at HS2 ⊢
          have bt := HS2.out.blk (tl.length + 4) (at_last4 ..)
          have d1 := bt.cell 1 _ rfl
          have d2 := bt.cell 2 _ rfl
          clear e1 e2 e3 bt
          go_quiet (first | (go_at_call 37; with_reducible exact Calls.quiet_of (HW1.out _)) | (go_at_call 37; with_reducible exact Calls.quiet_of (HW2.out _)))
          generalize tl ++ [Ob.box g #[.int .u8 t.lit.toNat, .int .i64 t.dist, .int .i64 t.len] 42] = TL at HS2
          have H1 := Lib.hid (fun m => st_rput (HS2.out.read ((Keep.refl [] w1).drewN m)) 0 rfl 0 1 (by decide) (by decide) (by omega))
          clear HS2 HW1 HW2 d1 d2 hws1 hws2 hlen0
          go_wp2_with fail
          refine (H1.out _).mono ?_; rintro e w2 ⟨rfl, h2⟩
          have h2 : St w w2 (Ob.rw q (B ++ bitsOf 0 1) :: Ob.cds (.slice a6 TB.length c6) TB :: Ob.cds (.slice a7 64 c7) LL :: Ob.cds (.slice a8 64 c8) LF :: TL) := h2
          have H2 := Lib.hid (st_rput h2 0 rfl d low (by omega) (by omega) (by rw [List.length_append, bitsOf_length]; omega))
          have hwd : IntKind.u32.wrap (d : Int) = d := by rw [IntKind.wrap_u32]; omega
          clear H1 h2
          go_wp2_with fail
          refine H2.out.mono ?_; rintro e w3 ⟨rfl, h3⟩
          have h3 : St w w3 (Ob.rw q ((B ++ bitsOf 0 1) ++ bitsOf d low) :: Ob.cds (.slice a6 TB.length c6) TB :: Ob.cds (.slice a7 64 c7) LL :: Ob.cds (.slice a8 64 c8) LF :: TL) := h3
          have H3 := Lib.hid h3
          clear H2 h3 hwd
          go_wp2_with fail
          go_loopw [30, 31] (fun dv jv wx => ∃ (j x m : Nat), j ≤ low ∧ jv = .int .i64 j ∧ dv = .int .i64 x ∧ x ≤ 8191 ∧ Hid (x = d / 2 ^ j) ∧ wx = w3.drewN m) (fun _ jv _ => low - (intOf jv).toNat)
          case atStart => exact ⟨0, d, 0, Nat.zero_le _, rfl, rfl, hd8191, by simp [Hid], rfl⟩
          case round =>
            obtain ⟨j, x, m, hj, rfl, rfl, hx8, HX, rfl⟩ := hrel
            by_cases hjl : j < low
            · have z1 : (j : Int) < (low : Int) := by omega
              have hx2 : Hid (x / 2 = d / 2 ^ (j + 1)) := by unfold Hid; rw [HX.out, Nat.div_div_eq_div_mul, Nat.pow_succ]
              have hx9 : x / 2 ≤ 8191 := by omega
              go_wp2_with fail
              go_roundw
              case rel => exact ⟨j + 1, x / 2, _, by omega, by go_num, by go_num, hx9, hx2, rfl⟩
              case measure => simp [intOf]; omega
            · obtain rfl : j = low := by omega
              have z1 : ¬ (j : Int) < (j : Int) := by omega
              have hx64 : x < 64 := by rw [HX.out]; exact HDD.out
              have x2 : (x : Int) < 64 := by omega
              have hrd := H3.out.read ((Keep.refl [] w3).drewN m)
              obtain ⟨bF, oF, pF, hvF, f0, f1⟩ := (hrd.cds 3 rfl).1.at x (by omega)
              simp only [Value.slice.injEq] at hvF
              obtain ⟨rfl, hv2, rfl⟩ := hvF
              clear hv2
              have hsc := scode_lt LF x
              have h16z := HF16.out x
              have hpw : 2 ^ len LF x ≤ 2 ^ 16 := Nat.pow_le_pow_right (by decide) h16z
              have hT2 := HT2.out
              rw [← HX.out] at hT2
              obtain ⟨sc, hsce⟩ : ∃ sc, scode LF x = sc := ⟨_, rfl⟩
              obtain ⟨ln, hlne⟩ : ∃ ln, len LF x = ln := ⟨_, rfl⟩
              rw [hsce] at f0 hT2 hsc
              rw [hlne] at f1 hT2 hsc h16z hpw
              have hd := hrd.read ((Keep.refl [] _).drew)
              have H4 := Lib.hid (st_rput hd 0 rfl sc ln (by omega) (by omega) (by simp only [List.length_append, bitsOf_length]; omega))
              have HT3 := Lib.hid hT2
              clear hsce hlne hd hT2 HT2 hsc hpw hrd H3 HX
              generalize w3.drewN m = w4 at f0 f1 H4 ⊢
              go_wp2_with fail
              go_still_tail 11, (by kernel_rfl)
              change wpList _ _ _ _ _ w4.drew
              go_wp2_with fail
              refine H4.out.mono ?_; rintro e w5 ⟨rfl, h5⟩
              have h5 : St w w5 (Ob.rw q (((B ++ bitsOf 0 1) ++ bitsOf d j) ++ bitsOf sc ln) :: Ob.cds (.slice a6 TB.length c6) TB :: Ob.cds (.slice a7 64 c7) LL :: Ob.cds (.slice (some ⟨bF, oF, none⟩) 64 c8) LF :: TL) := h5
              have H5 := Lib.hid h5
              clear H4 h5 f0 f1
              obtain ⟨y, hy⟩ : ∃ y : Nat, min n 63 = y := ⟨_, rfl⟩
              have hy63 : y ≤ 63 := by omega
              have HYN : Hid ((63 ≤ n → y = 63) ∧ (¬ 63 ≤ n → y ≠ 63)) := ⟨fun h => by omega, fun h => by omega⟩
              have HW3 : Hid (∀ ww, Calls Tryz.prog 37 #[.int .i64 (n : Int), .int .i64 0, .int .i64 63] ww fun e w' => e = .returned (.int .i64 (y : Int)) ∧ ww = w') := fun ww => (within_c n 0 63 ww (by omega)).mono (fun e w' h => by
                rw [show max (0 : Int) (min (n : Int) 63) = y by omega] at h
                exact h)
              have hT2 := HT3.out
              rw [hy] at hT2
              have HT2 := Lib.hid hT2
              clear hT2 HT3 hy
              go_wp2_with fail
              refine (HW3.out _).mono ?_; rintro e w5' ⟨rfl, rfl⟩
              have y2 : (y : Int) < 64 := by omega
              obtain ⟨bL, oL, pL, hvL, f0, f1⟩ := (H5.out.cds 2 rfl).1.at y (by omega)
              simp only [Value.slice.injEq] at hvL
              obtain ⟨rfl, hv2, rfl⟩ := hvL
              clear hv2
              have hsc := scode_lt LL y
              have h16z := HL16.out y
              have hpw : 2 ^ len LL y ≤ 2 ^ 16 := Nat.pow_le_pow_right (by decide) h16z
              have hT2 := HT2.out
              obtain ⟨sl, hsce⟩ : ∃ sl, scode LL y = sl := ⟨_, rfl⟩
              obtain ⟨ll, hlne⟩ : ∃ ll, len LL y = ll := ⟨_, rfl⟩
              rw [hsce] at f0 hT2 hsc
              rw [hlne] at f1 hT2 hsc h16z hpw
              have hd := H5.out.read ((Keep.refl [] _).drew)
              have H6 := Lib.hid (st_rput hd 0 rfl sl ll (by omega) (by omega) (by simp only [List.length_append, bitsOf_length]; omega))
              have HT3 := Lib.hid hT2
              clear hsce hlne hd hT2 HT2 hsc hpw H5 HW3
              go_wp2_with fail
              go_still_tail 11, (by kernel_rfl)
              change wpList _ _ _ _ _ w5.drew
              go_wp2_with fail
              refine H6.out.mono ?_; rintro e w6 ⟨rfl, h6⟩
              have h6 : St w w6 (Ob.rw q ((((B ++ bitsOf 0 1) ++ bitsOf d j) ++ bitsOf sc ln) ++ bitsOf sl ll) :: Ob.cds (.slice a6 TB.length c6) TB :: Ob.cds (.slice (some ⟨bL, oL, none⟩) 64 c7) LL :: Ob.cds (.slice (some ⟨bF, oF, none⟩) 64 c8) LF :: TL) := h6
              have H7 := Lib.hid h6
              clear H6 h6 f0 f1
              by_cases h63 : 63 ≤ n
              · have hy1 : y = 63 := HYN.out.1 h63
                have hT2 := HT3.out
                rw [if_pos h63] at hT2
                obtain ⟨u, hu⟩ : ∃ u, n - 63 = u := ⟨_, rfl⟩
                rw [hu] at hT2
                have HT2 := Lib.hid hT2
                have H8 := Lib.hid (st_rput H7.out 0 rfl u 8 (by omega) (by decide) (by simp only [List.length_append, bitsOf_length]; omega))
                have hws : IntKind.i64.wrap ((n : Int) - 63) = (u : Int) := by rw [IntKind.wrap_i64]; omega
                have hwu : IntKind.u32.wrap (u : Int) = u := by rw [IntKind.wrap_u32]; omega
                subst hy1
                clear hT2 HT3 HYN H7 hu h63
                go_wp2_with fail
                refine H8.out.mono ?_; rintro e w7 ⟨rfl, h7⟩
                have H9 := Lib.hid h7
                clear h7 H8
                go_wp2_with fail
                go_roundw
                case rel =>
                  refine ⟨k + 1, TL, by omega, by first | rfl | simp, ?_⟩
                  rw [← HSN.out, ← HT2.out]
                  simp only [← List.append_assoc]
                  exact H9.out
                case measure => simp [intOf]; omega
              · have hy1 : ((y : Int) == 63) = false := by rw [beq_eq_false_iff_ne]; have := HYN.out.2 h63; omega
                have hT2 := HT3.out
                rw [if_neg h63, List.append_nil] at hT2
                have HT2 := Lib.hid hT2
                clear hT2 HT3 HYN h63
                go_wp2_with fail
                go_roundw
                case rel =>
                  refine ⟨k + 1, TL, by omega, by first | rfl | simp, ?_⟩
                  rw [← HSN.out, ← HT2.out]
                  simp only [← List.append_assoc]
                  exact H7.out
                case measure => simp [intOf]; omega
      · obtain rfl : k = ts.length := by omega
        rw [List.take_length] at hS
        have hb64 : (H0 ++ ts.flatMap TK).length ≤ 10000 + 64 * ts.length := by
          have : ∀ l : List Tk, (l.flatMap TK).length ≤ 64 * l.length := by
            intro l
            induction l with
            | nil => simp
            | cons t l ih => rw [List.flatMap_cons, List.length_append, List.length_cons]; have := HT64.out t; omega
          have h1 := this ts
          rw [List.length_append]
          have := HDL.out
          omega
        have HBY := Lib.hid (st_rwbytes hS 0 rfl (by omega))
        have hk := hS.kp
        clear hS hb64 hlt
        go_wp2_with fail
        refine HBY.out.mono ?_; rintro e w9 ⟨v9, rfl, ho, k9, _⟩
        go_wp2_with fail
        go_ret
        rw [← HWR.out] at ho
        exact ⟨v9, rfl, ho.bs, hk.trans k9 (by simp)⟩
end Go.Proofs.YthmojejiaeninaaGreat
