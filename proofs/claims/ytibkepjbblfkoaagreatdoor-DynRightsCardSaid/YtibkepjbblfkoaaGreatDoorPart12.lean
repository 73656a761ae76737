/- Texts put together: Can2 Can3 Can4 Can5 Can6 Can DynMath5 -/
import Derived.Test.YtibkepjbblfkoaaGreatDoorPart10
import Derived.Test.YtibkepjbblfkoaaGreatDoorPart14
import Derived.Laws.Tables
import Derived.BigRegion
import Derived.Laws.BitsAllLaws
import Derived.Test.YtibkepjbblfkoaaGreatDoorPart5
import Derived.Test.YtibkepjbblfkoaaGreatDoorPart3
namespace Go.Proofs.YtibkepjbblfkoaaGreatDoor
set_option linter.unusedVariables false
set_option linter.unusedSimpArgs false
open Go.ChangeShapes Go.WideShapes Go.ChangeAt Go.RowKit

set_option maxHeartbeats 2000000 in
theorem can_check (w : World) (v : Value) (zs : List Int) (h : Is .i64 w v zs) : Calls Tryz.prog 31 #[v] w fun e w' => e = .returned (.int .i64 (chk zs)) ∧ Keep [] w w' := by
  have HM := Lib.hid (canmaybe_c w v zs h)
  cases hm : mayB zs with
  | false =>
    have HC := Lib.hid (chk_bad hm)
    go_enter Tryz.func31, Tryz.ntmps31
    go_wp2_with fail
    refine HM.out.mono ?_; rintro e w1 ⟨rfl, n, rfl⟩
    rw [hm]
    go_wp2_with fail
    go_ret
    exact ⟨by rw [HC.out]; rfl, (Keep.refl [] w).drewN n⟩
  | true =>
    have HK := Lib.hid (fun n => counts_c (w.drewN n) v zs (h.drewN n) hm)
    have HW := Lib.hid (fun w => weight_c w (Ln zs) (acc_le zs hm) (by rw [Ln_length]; exact ((may_iff zs).1 hm).1))
    have HY := Lib.hid (acc16 (Ln zs) (may_Ln hm))
    have HC : Hid (chk zs = if wt (Ln zs) = 0 then 4 else if 65536 < wt (Ln zs) then 2 else if wt (Ln zs) < 65536 then 3 else 1) := by
      unfold Hid chk; rw [hm]; rfl
    have hle := acc_le zs hm 16 (by omega)
    rw [HY.out] at hle
    go_enter Tryz.func31, Tryz.ntmps31
    go_wp2_with fail
    refine HM.out.mono ?_; rintro e w1 ⟨rfl, n, rfl⟩
    rw [hm]
    clear hm
    go_wp2_with fail
    refine (HK.out n).mono ?_; rintro e w1 ⟨rfl, k1⟩
    have K1 := ((Keep.refl [] w).drewN n).trans k1 (by simp)
    go_wp2_with fail
    refine (HW.out w1).mono ?_; rintro e w2 ⟨rfl, k2⟩
    have K2 := K1.trans k2 (by simp)
    rw [HY.out]
    generalize wt (Ln zs) = y at HC hle
    clear HM HK HW HY k1 k2 K1 h
    by_cases h0 : y = 0
    · rw [if_pos h0] at HC
      subst h0
      go_wp2_with fail
      go_ret
      exact ⟨by rw [HC.out]; rfl, K2⟩
    rw [if_neg h0] at HC
    have b0 : ((y : Int) == 0) = false := by simp; omega
    by_cases h1 : 65536 < y
    · rw [if_pos h1] at HC
      have b1 : decide ((y : Int) < 65536) = false := by simp; omega
      have b2 : ((y : Int) == 65536) = false := by simp; omega
      clear h0 h1
      go_wp2_with fail
      go_ret
      exact ⟨by rw [HC.out]; rfl, K2⟩
    rw [if_neg h1] at HC
    by_cases h2 : y < 65536
    · rw [if_pos h2] at HC
      have b2 : decide ((y : Int) < 65536) = true := by simp; omega
      clear h0 h1 h2
      go_wp2_with fail
      go_ret
      exact ⟨by rw [HC.out]; rfl, K2⟩
    rw [if_neg h2] at HC
    obtain rfl : y = 65536 := by omega
    clear h0 h1 h2
    go_wp2_with fail
    go_ret
    exact ⟨by rw [HC.out]; rfl, K2⟩
/-- the next word of each length, k symbols on -/
def nx (L : List Nat) (k n : Nat) : Nat := if n = 0 then 0 else fst L n + (L.take k).count n
theorem nx_zero (L : List Nat) : BL (nx L 0) = BL (fst L) := by
  congr 1; funext n
  unfold nx
  split
  · rename_i h; subst h; rfl
  · simp
theorem nx_skip (L : List Nat) (k : Nat) (hk : k < L.length) (h : len L k = 0) : nx L (k + 1) = nx L k := by
  funext n
  unfold nx
  by_cases h0 : n = 0
  · rw [if_pos h0, if_pos h0]
  · rw [if_neg h0, if_neg h0, List.take_succ_eq_append_getElem hk, List.count_append, ← len_get L k hk, h]
    simp [List.count_cons, Ne.symm h0]
theorem nx_take (L : List Nat) (k : Nat) (hk : k < L.length) (h : 0 < len L k) : (fun i => if i = len L k then wd L k + 1 else nx L k i) = nx L (k + 1) := by
  funext n
  unfold nx
  rw [List.take_succ_eq_append_getElem hk, List.count_append, ← len_get L k hk]
  by_cases h0 : n = len L k
  · subst h0
    rw [if_pos rfl, if_neg (by omega)]
    simp [wd, rk]; omega
  · rw [if_neg h0]
    by_cases h1 : n = 0
    · rw [if_pos h1, if_pos h1]
    · rw [if_neg h1, if_neg h1]
      simp [List.count_cons, Ne.symm h0]
theorem nx_at (L : List Nat) (k : Nat) (h : 0 < len L k) : nx L k (len L k) = wd L k := by unfold nx; rw [if_neg (by omega)]; rfl
/-- the row's cells, k symbols on -/
def CsK (cs : Array Value) (L : List Nat) (k : Nat) : Prop := cs.size = L.length * 2 ∧ ∀ j, j < L.length → cs[j * 2]? = some (.int .u32 (if j < k then (code L j : Int) else 0)) ∧ cs[j * 2 + 1]? = some (.int .i64 (if j < k then (len L j : Int) else 0))
theorem CsK.made (L : List Nat) : CsK (madeCells #[.int .u32 0, .int .i64 0] (L.length * 2)) L 0 := by
  refine ⟨by rw [size_madeCells], fun j hj => ?_⟩
  rw [if_neg (by omega), if_neg (by omega)]
  unfold madeCells
  have e1 : j * 2 % 2 = 0 := by omega
  have e2 : (j * 2 + 1) % 2 = 1 := by omega
  constructor
  · rw [Array.getElem?_map, Array.getElem?_range, if_pos (by omega)]; simp
  · rw [Array.getElem?_map, Array.getElem?_range, if_pos (by omega)]; simp [e2]
theorem CsK.skip {cs : Array Value} {L : List Nat} {k : Nat} (h : CsK cs L k) (h0 : len L k = 0) : CsK cs L (k + 1) := by
  refine ⟨h.1, fun j hj => ?_⟩
  have h1 := h.2 j hj
  by_cases e : j = k
  · subst e
    rw [if_neg (by omega), if_neg (by omega)] at h1
    rw [if_pos (by omega), if_pos (by omega)]
    simpa [code, h0, tr] using h1
  · have : (j < k + 1) = (j < k) := by simp; omega
    simpa only [this] using h1
theorem CsK.take {cs : Array Value} {L : List Nat} {k : Nat} (h : CsK cs L k) (hk : k < L.length) :
    CsK ((cs.setIfInBounds (k * 2) (.int .u32 (code L k))).setIfInBounds (k * 2 + 1) (.int .i64 (len L k))) L (k + 1) := by
  refine ⟨by simpa using h.1, fun j hj => ?_⟩
  have hs := h.1
  simp only [Array.getElem?_setIfInBounds, Array.size_setIfInBounds]
  by_cases e : j = k
  · subst e
    simp [hs]
    omega
  · have a1 : ¬ k * 2 + 1 = j * 2 := by omega
    have a2 : ¬ k * 2 = j * 2 := by omega
    have a3 : ¬ k * 2 + 1 = j * 2 + 1 := by omega
    have a4 : ¬ k * 2 = j * 2 + 1 := by omega
    have h1 := h.2 j hj
    have : (j < k + 1) = (j < k) := by simp; omega
    simp only [if_neg a1, if_neg a2, if_neg a3, if_neg a4, this]
    exact h1
theorem CsK.cds {w : World} {b : Nat} {cs : Array Value} {L : List Nat} (hb : Blk w b cs 62) (h : CsK cs L L.length) (hm : L.length ≤ maxLen) : Cds w (.slice (some ⟨b, 0, none⟩) L.length L.length) L := by
  refine ⟨_, _, rfl, Nat.le_refl _, hm, by simp, ?_⟩
  intro x hx i hi j hj
  obtain rfl : _ = x := Option.some.inj hx
  have h1 := h.2 i hi
  rw [if_pos hi, if_pos hi] at h1
  have e : ∀ m, ((⟨b, 0, none⟩ : Addr).add m) = ⟨b, m, none⟩ := fun m => by cases m <;> simp [Addr.add]
  rw [e]
  obtain rfl | rfl : j = 0 ∨ j = 1 := by omega
  · rw [Nat.add_zero, hb.cell (i * 2) _ h1.1]; simp
  · rw [hb.cell (i * 2 + 1) _ h1.2]; simp
set_option maxHeartbeats 2000000 in
theorem codes_err (w : World) (v : Value) (zs : List Int) (h : Is .i64 w v zs) (h0 : werr zs ≠ 0) : Calls Tryz.prog 24 #[v] w fun e w' => e = .returned (.tuple #[.slice none 0 0, .int .i64 (werr zs)]) ∧ Keep [] w w' := by
  have HC := Lib.hid (can_check w v zs h)
  by_cases h5 : chk zs = 5
  · have n5 : (((chk zs : Nat) : Int) == 5) = true := by simp; omega
    have hw : Hid (werr zs = 2) := by unfold Hid werr; rw [if_pos h5]
    generalize chk zs = ck at n5 HC
    clear h5 h h0
    go_enter Tryz.func24, Tryz.ntmps24
    go_wp2_with fail
    refine HC.out.mono ?_; rintro e w1 ⟨rfl, k1⟩
    go_wp2_with fail
    go_ret2
    exact ⟨by rw [hw.out]; rfl, k1⟩
  · have h2 : chk zs = 2 := by
      unfold werr at h0
      rw [if_neg h5] at h0
      by_cases e : chk zs = 2
      · exact e
      · rw [if_neg e] at h0; omega
    have n5 : (((chk zs : Nat) : Int) == 5) = false := by simp; omega
    have n2 : (((chk zs : Nat) : Int) == 2) = true := by simp; omega
    have hw : Hid (werr zs = 6) := by unfold Hid werr; rw [if_neg h5, if_pos h2]
    generalize chk zs = ck at n5 n2 HC
    clear h5 h2 h h0
    go_enter Tryz.func24, Tryz.ntmps24
    go_wp2_with fail
    refine HC.out.mono ?_; rintro e w1 ⟨rfl, k1⟩
    go_wp2_with fail
    go_ret2
    exact ⟨by rw [hw.out]; rfl, k1⟩
set_option maxRecDepth 100000 in
set_option maxHeartbeats 4000000 in
theorem cancodes_ok (w : World) (v : Value) (zs : List Int) (h : Is .i64 w v zs) (h0 : werr zs = 0) : Calls Tryz.prog 24 #[v] w fun e w' => ∃ v', e = .returned (.tuple #[v', .int .i64 0]) ∧ Cds w' v' (Ln zs) ∧ Keep [] w w' ∧ ∀ b, v'.ownBlock = some b → w.heap.size ≤ b := by
  obtain ⟨hm, hwt⟩ := werr_ok h0
  have hL := may_Ln hm
  have hlen : zs.length ≤ 4096 := ((may_iff zs).1 hm).1
  have HG := Lib.hid (fun i hi => may_get hm i hi)
  have n5 : (((chk zs : Nat) : Int) == 5) = false := by
    by_cases e : chk zs = 5
    · unfold werr at h0; rw [if_pos e] at h0; omega
    · simp; omega
  have n2 : (((chk zs : Nat) : Int) == 2) = false := by
    by_cases e : chk zs = 2
    · unfold werr at h0; rw [e] at h0; simp at h0
    · simp; omega
  have hN := Ln_length zs
  have HC := Lib.hid (can_check w v zs h)
  have HK := Lib.hid (fun w1 (k : Keep [] w w1) => counts_c w1 v zs (h.keep k (by simp)) hm)
  have HF := Lib.hid (fun w => firsts_c w (Ln zs) (fst_le zs hm) (by rw [hN]; exact hlen))
  have hmk := fun w' => run_make_codes w' zs.length hlen
  have HI := Lib.hid (fun i hi => h.at i hi)
  have HWL := Lib.hid (fun i hi => wd_lt (Ln zs) i hi hL hwt)
  have hz := (zero_of_info (P := Tryz.prog) lenInfo).1
  rw [← BL_zero] at hz
  generalize hZ : BL (fun _ => 0) = Z at hz
  have hz17 : Z.size = 17 := by rw [← hZ, BL_size]
  clear hZ
  obtain ⟨a, cap, rfl, _, _⟩ := h.shape
  generalize chk zs = ck at n5 n2 HC
  generalize Ln zs = L at hL hwt HG hN HK HF HWL ⊢
  have HN := Lib.hid hN; clear hN hm h0 h hL hwt
  go_enter Tryz.func24, Tryz.ntmps24
  go_wp2_with fail
  refine HC.out.mono ?_; rintro e w1 ⟨rfl, k1⟩
  go_wp2_with fail
  refine (HK.out _ k1).mono ?_; rintro e w2 ⟨rfl, k2⟩
  have K2 := k1.trans k2 (by simp)
  go_wp2_with fail
  refine (HF.out w2).mono ?_; rintro e w3 ⟨rfl, k3⟩
  have K3 := K2.trans k3 (by simp)
  clear k1 k2 k3 K2
  have hb0 := Blk.new w3 Z 91
  go_wp2_with (refine wpList_storeL rfl _ _ rfl _ _ rfl rfl _ _ hb0 hz17 ?_)
  have hb1 := (hb0.setRow (BL (fst L))).alloc (.cells (madeCells #[.int .u32 0, .int .i64 0] (zs.length * 2)) 62)
  have hb2 : Blk (((w3.alloc (.cells Z 91)).setRow w3.heap.size (BL (fst L))).alloc (.cells (madeCells #[.int .u32 0, .int .i64 0] (zs.length * 2)) 62)) (w3.heap.size + 1) (madeCells #[.int .u32 0, .int .i64 0] (zs.length * 2)) 62 := by
    have := Blk.new ((w3.alloc (.cells Z 91)).setRow w3.heap.size (BL (fst L))) (madeCells #[.int .u32 0, .int .i64 0] (zs.length * 2)) 62
    simpa using this
  have K4 : Keep [] w (((w3.alloc (.cells Z 91)).setRow w3.heap.size (BL (fst L))).alloc (.cells (madeCells #[.int .u32 0, .int .i64 0] (zs.length * 2)) 62)) :=
    ((K3.alloc _).trans (Keep.setRow _) (fun x hx => .inr (by simp at hx; have := K3.size; omega))).alloc _
  generalize ((w3.alloc (.cells Z 91)).setRow w3.heap.size (BL (fst L))).alloc (.cells (madeCells #[.int .u32 0, .int .i64 0] (zs.length * 2)) 62) = w4 at hb1 hb2 K4 ⊢
  have hg0 := K3.size
  have HCM := Lib.hid (CsK.made L)
  clear hb0 K3
  generalize w3.heap.size = nb at hb1 hb2 hg0 ⊢
  go_loopw [22] (fun i wr => ∃ (k : Nat) (cs : Array Value), k ≤ zs.length ∧ i = .int .i64 k ∧ Blk wr nb (BL (nx L k)) 91 ∧ Blk wr (nb + 1) cs 62 ∧ Hid (CsK cs L k) ∧ Keep [] w wr) (fun i _ => zs.length - (intOf i).toNat)
  case atStart => exact ⟨0, _, by omega, rfl, by rw [nx_zero]; exact hb1, hb2, by have := HCM.out; rw [HN.out] at this; exact this, K4⟩
  case round =>
    clear hb1 hb2 K4
    obtain ⟨k, cs, hk, rfl, hb1, hb2, HCs, K⟩ := hrel
    by_cases hlt : k < zs.length
    · obtain ⟨b, off, cap', hv, e1⟩ := HI.out k hlt
      simp only [Value.slice.injEq] at hv
      obtain ⟨rfl, hvv, rfl⟩ := hv
      clear hvv
      obtain ⟨g1, g2⟩ := HG.out k hlt
      rw [g1] at e1
      have e2 := K.cellW e1
      have hkL : k < L.length := by rw [HN.out]; exact hlt
      clear g1 e1
      by_cases h0 : len L k = 0
      · have hs := nx_skip L k hkL h0
        have HC2 : Hid (CsK cs L (k + 1)) := HCs.out.skip h0
        rw [← hs] at hb1
        rw [h0] at e2
        clear hs h0 HCs g2
        go_wp2_with fail
        go_roundw
        case rel => exact ⟨k + 1, cs, by omega, by go_num, hb1, hb2, HC2, K⟩
        case measure => simp [intOf]; omega
      · have hpos : 0 < len L k := by omega
        have hwl := HWL.out k hkL hpos
        have hw2 : wd L k < 65536 := Nat.lt_of_lt_of_le hwl (Nat.pow_le_pow_right (by decide) g2)
        have c0 := hb1.cell (len L k) _ (BL_get _ _ (by omega))
        rw [nx_at L k hpos] at c0
        have f0 := hb1.free (len L k)
        have HNX : Hid ((fun i => if i = len L k then wd L k + 1 else nx L k i) = nx L (k + 1)) := nx_take L k hkL hpos
        have hg1 : w.heap.size ≤ nb + 1 := by omega
        have ht := turn_code (wd L k) (len L k) g2
        have HT := Lib.hid (fun w => turn_c (wd L k) (len L k) w (by omega))
        rw [ht, show tr (len L k) (wd L k) 0 = code L k from rfl] at HT
        have hsz := HCs.out.1
        have HC2 : Hid (CsK _ L (k + 1)) := HCs.out.take hkL
        have s0 : k * 2 < cs.size := by rw [hsz]; omega
        have s1 : k * 2 + 1 < cs.size := by rw [hsz]; omega
        have d0 := hb2.cell (k * 2) _ (Array.getElem?_eq_getElem s0)
        have d1 := hb2.cell (k * 2 + 1) _ (Array.getElem?_eq_getElem s1)
        have p0 := hb2.free (k * 2)
        have p1 := hb2.free (k * 2 + 1)
        have hm1 : (0 : Int) < len L k := by omega
        generalize hzz : len L k = z at *
        generalize hyy : wd L k = y at *
        generalize hcc : code L k = cd at *
        clear ht hwl hsz HCs hzz hyy hcc h0
        go_wp2_with fail
        refine (HT.out _).mono ?_; rintro e w6 ⟨rfl, rfl⟩
        go_wp2_with fail
        go_roundw
        case rel =>
          refine ⟨k + 1, _, by omega, by go_num, ?_, ?_, HC2, ((K.setCell (.inr hg1) _).setCell (.inr hg1) _).setCell (.inr hg0) _⟩
          · have := ((hb1.other (p := ⟨nb + 1, k * 2, none⟩) (by simp) (.int .u32 cd)).other (p := ⟨nb + 1, k * 2 + 1, none⟩) (by simp) (.int .i64 z)).set z (.int .i64 (y + 1 : Nat))
            rw [BL_set _ _ _ (by omega), HNX.out] at this
            exact this
          · exact ((hb2.set (k * 2) (.int .u32 cd)).set (k * 2 + 1) (.int .i64 z)).other (p := ⟨nb, z, none⟩) (by simp) _
        case measure => simp [intOf]; omega
    · obtain rfl : k = zs.length := by omega
      have hcds := CsK.cds (L := L) hb2 (by rw [HN.out]; exact HCs.out) (by rw [HN.out]; unfold maxLen; omega)
      rw [HN.out] at hcds
      go_wp2_with fail
      go_ret2
      exact ⟨_, rfl, hcds, K, fun b hb => by simp [Value.ownBlock] at hb; omega⟩
theorem can_codes (w : World) (v : Value) (zs : List Int) (h : Is .i64 w v zs) : Calls Tryz.prog 24 #[v] w fun e w' => ∃ v', e = .returned (.tuple #[v', .int .i64 (werr zs)]) ∧ Cds w' v' (Lw zs) ∧ Keep [] w w' ∧ (∀ b, v'.ownBlock = some b → w.heap.size ≤ b) ∧ (werr zs ≠ 0 → v' = .slice none 0 0) := by
  unfold Lw
  by_cases h0 : werr zs = 0
  · rw [if_pos h0]
    refine (cancodes_ok w v zs h h0).mono ?_
    rintro e w' ⟨v', rfl, a, b, c⟩
    exact ⟨v', by rw [h0]; rfl, a, b, c, fun h => absurd h0 h⟩
  · rw [if_neg h0]
    refine (codes_err w v zs h h0).mono ?_
    rintro e w' ⟨rfl, b⟩
    exact ⟨_, rfl, Cds.nix _, b, by simp [Value.ownBlock], fun _ => rfl⟩
end Go.Proofs.YtibkepjbblfkoaaGreatDoor
namespace Go.Proofs.YtibkepjbblfkoaaGreatDoor
set_option linter.unusedVariables false
set_option linter.unusedSimpArgs false
open Go.ChangeShapes Go.WideShapes Go.ChangeAt Go.RowKit

/-- the cells of a Decoder -/
def DC (b : Bool) (lg : Int) (f g h : Nat → Nat) (sy : Value) (sh : List Value) : List Value :=
  .bool b :: .int .i64 lg :: ((List.range 17).map fun n => Value.int .i64 (f n)) ++ ((List.range 17).map fun n => Value.int .i64 (g n)) ++ ((List.range 17).map fun n => Value.int .i64 (h n)) ++ sy :: sh
/-- the cells of a Decoder that New did not make -/
def pz : Array Value := (DC false 0 (fun _ => 0) (fun _ => 0) (fun _ => 0) (.slice none 0 0) (List.replicate 1024 (.int .i16 0))).toArray
set_option maxRecDepth 100000 in
theorem decInfo : (Tryz.prog.info? 123).map (fun i => (i.zero, i.size)) = some (some (.agg pz), 1078) := by kernel_rfl
set_option maxRecDepth 100000 in
theorem decBuilt (lg : Int) (f g h : Nat → Nat) : Tryz.prog.built 123 [(0, .bool true), (1, .int .i64 lg), (2, .agg (BL f)), (3, .agg (BL g)), (4, .agg (BL h))] = some (DC true lg f g h (.slice none 0 0) (List.replicate 1024 (.int .i16 0))).toArray := by kernel_rfl
theorem same_res (x a c q : Nat) (h1 : x % q = c) (h2 : a % q = c) (h3 : a ≤ x) (h4 : x < a + q) : x = a := by
  have := Nat.sub_mod_eq_zero_of_mod_eq (h1.trans h2.symm)
  rw [Nat.mod_eq_of_lt (by omega)] at this
  omega
/-- the cells from cs on: bits that begin with the word cd of n bits, below a, tell symbol s -/
def Laid (cs cs' : Array Value) (s cd n a : Nat) : Prop := cs'.size = cs.size ∧ (∀ i, i < 54 → cs'[i]? = cs[i]?) ∧
  ∀ x, x < 512 → ((x % 2 ^ n = cd ∧ x < a) → cs'[54 + x * 2]? = some (.int .i16 s) ∧ cs'[54 + x * 2 + 1]? = some (.int .i16 n)) ∧
    (¬ (x % 2 ^ n = cd ∧ x < a) → cs'[54 + x * 2]? = cs[54 + x * 2]? ∧ cs'[54 + x * 2 + 1]? = cs[54 + x * 2 + 1]?)
theorem Laid.start (cs : Array Value) (s cd n : Nat) (h : cd < 2 ^ n) : Laid cs cs s cd n cd :=
  ⟨rfl, fun _ _ => rfl, fun x hx => ⟨fun ⟨h1, h2⟩ => by
    have := Nat.mod_le x (2 ^ n)
    omega, fun _ => ⟨rfl, rfl⟩⟩⟩
theorem Laid.step {cs cs' : Array Value} {s cd n a : Nat} (h : Laid cs cs' s cd n a) (hs : cs.size = 1078) (ha : a < 512) (hr : a % 2 ^ n = cd) :
    Laid cs ((cs'.setIfInBounds (54 + a * 2) (.int .i16 s)).setIfInBounds (54 + a * 2 + 1) (.int .i16 n)) s cd n (a + 2 ^ n) := by
  obtain ⟨h1, h2, h3⟩ := h
  refine ⟨by simpa using h1, fun i hi => ?_, fun x hx => ?_⟩
  · rw [Array.getElem?_setIfInBounds, if_neg (by omega), Array.getElem?_setIfInBounds, if_neg (by omega)]
    exact h2 i hi
  · obtain ⟨h4, h5⟩ := h3 x hx
    have hq : 0 < 2 ^ n := Nat.two_pow_pos n
    by_cases e : x = a
    · subst e
      refine ⟨fun _ => ?_, fun hn => absurd ⟨hr, by omega⟩ hn⟩
      simp only [Array.getElem?_setIfInBounds, Array.size_setIfInBounds]
      simp [h1, hs]; omega
    · have g1 : ¬ 54 + a * 2 + 1 = 54 + x * 2 := by omega
      have g2 : ¬ 54 + a * 2 = 54 + x * 2 := by omega
      have g3 : ¬ 54 + a * 2 + 1 = 54 + x * 2 + 1 := by omega
      have g4 : ¬ 54 + a * 2 = 54 + x * 2 + 1 := by omega
      simp only [Array.getElem?_setIfInBounds, Array.size_setIfInBounds, if_neg g1, if_neg g2, if_neg g3, if_neg g4]
      refine ⟨fun ⟨a1, a2⟩ => h4 ⟨a1, ?_⟩, fun hn => h5 fun ⟨a1, a2⟩ => hn ⟨a1, by omega⟩⟩
      rcases Nat.lt_or_ge x a with h | h
      · exact h
      · exact absurd (same_res x a cd _ a1 hr h a2) e
set_option maxRecDepth 100000 in
set_option maxHeartbeats 4000000 in
theorem layshort_c (w : World) (q : Nat) (cs : Array Value) (s cd n : Nat) (hb : Blk w q cs 123) (hsz : cs.size = 1078) (hs : s < 4096) (hn0 : 0 < n) (hn : n ≤ 16) (hcd : cd < 2 ^ n) :
    Calls Tryz.prog 76 #[.pointer (some ⟨q, 0, none⟩), .int .i64 s, .agg #[.int .u32 cd, .int .i64 n]] w fun e w' => e = .returned (.tuple #[]) ∧ Keep [q] w w' ∧ ∃ cs', Blk w' q cs' 123 ∧ (n ≤ 9 → Laid cs cs' s cd n 512) ∧ (9 < n → cs' = cs) := by
  have KA : Keep [q] w (w.alloc (.cells #[.int .u32 cd, .int .i64 n] 62)) := (Keep.refl [q] w).alloc _
  have hA := hb.alloc (.cells #[.int .u32 cd, .int .i64 n] 62)
  have hB := Blk.new w #[.int .u32 cd, .int .i64 n] 62
  have hq := hb.lt
  have b0 := hB.cell 0 _ rfl
  have b1 := hB.cell 1 _ rfl
  by_cases h9 : 9 < n
  · have h9' : decide ((9 : Int) < n) = true := by simp; omega
    go_enter Tryz.func76, Tryz.ntmps76
    go_wp2_with fail
    refine bodyPost_ret (results_none rfl _ _ _) rfl ?_
    exact ⟨rfl, KA, cs, hA, fun h => absurd h (by omega), fun _ => rfl⟩
  · have h16 : 2 ^ n ≤ 512 := Nat.pow_le_pow_right (n := 2) (j := 9) (by decide) (by omega)
    have HLs := Lib.hid (Laid.start cs s cd n hcd)
    have HST := Lib.hid (fun cs' a => @Laid.step cs cs' s cd n a)
    have hp : 0 < 2 ^ n := Nat.two_pow_pos n
    have hsh : (2 : Int) ^ n = ((2 ^ n : Nat) : Int) := by simp
    have HMOD := Lib.hid (fun a => Nat.add_mod_right a (2 ^ n))
    have HM0 := Lib.hid (Nat.mod_eq_of_lt hcd)
    clear hb
    generalize hQ : 2 ^ n = Q at *
    go_enter Tryz.func76, Tryz.ntmps76
    go_wp2_with fail
    generalize w.alloc (.cells #[.int .u32 cd, .int .i64 n] 62) = wA at KA hA hB b0 b1 ⊢
    go_loopw [6] (fun i wr => ∃ (a : Nat) (cs' : Array Value), a ≤ 1024 ∧ i = .int .i64 a ∧ Hid (a % Q = cd) ∧ Hid (Laid cs cs' s cd n a) ∧ Blk wr q cs' 123 ∧ Blk wr w.heap.size #[.int .u32 cd, .int .i64 n] 62 ∧ Keep [q] w wr) (fun i _ => 1024 - (intOf i).toNat)
    case atStart => exact ⟨cd, cs, by omega, rfl, HM0.out, HLs.out, hA, hB, KA⟩
    case round =>
      clear hA hB b0 b1 KA
      obtain ⟨a, cs', ha, rfl, HR, HL, hA, hB, KA⟩ := hrel
      by_cases hlt : a < 512
      · have b1 := hB.cell 1 _ rfl
        have HL2 := Lib.hid (HST.out cs' a HL.out hsz hlt HR.out)
        have HR2 : Hid ((a + Q) % Q = cd) := by unfold Hid; rw [HMOD.out]; exact HR.out
        have hsz' : cs'.size = 1078 := by rw [HL.out.1]; exact hsz
        have hd512 : (a : Int) < 512 := by omega
        have hw1 : IntKind.i16.wrap (s : Int) = s := by rw [IntKind.wrap]; simp [IntKind.bits, IntKind.signed]; omega
        have hw2 : IntKind.i16.wrap (n : Int) = n := by rw [IntKind.wrap]; simp [IntKind.bits, IntKind.signed]; omega
        have hA1 := hA.keep ((Keep.refl [] wr).drew) (by simp)
        have hB1 := hB.keep ((Keep.refl [] wr).drew) (by simp)
        have K1 := KA.drew
        clear HL HR
        go_wp2_with fail
        go_still_tail 11, (by kernel_rfl)
        change wpList _ _ _ _ _ wr.drew
        generalize wr.drew = w2 at hA1 hB1 K1 ⊢
        have d0 := hA1.cell (54 + a * 2) _ (Array.getElem?_eq_getElem (by omega))
        have d1 := hA1.cell (54 + a * 2 + 1) _ (Array.getElem?_eq_getElem (by omega))
        have p0 := hA1.free (54 + a * 2)
        have p1 := hA1.free (54 + a * 2 + 1)
        have hA2 := (hA1.set (54 + a * 2) (.int .i16 s)).set (54 + a * 2 + 1) (.int .i16 n)
        have hqw : w.heap.size ≠ q := by omega
        have hB2 := (hB1.other (p := ⟨q, 54 + a * 2, none⟩) hqw (.int .i16 s)).other (p := ⟨q, 54 + a * 2 + 1, none⟩) hqw (.int .i16 n)
        have K2 := (K1.setCell (p := ⟨q, 54 + a * 2, none⟩) (by simp) (.int .i16 s)).setCell (p := ⟨q, 54 + a * 2 + 1, none⟩) (by simp) (.int .i16 n)
        have b2 := hB2.cell 1 _ rfl
        clear hA1 hB1 K1 b1 hA hB KA
        go_wp2_with fail
        go_roundw
        case rel => exact ⟨a + Q, _, by omega, by go_num, HR2, HL2, hA2, hB2, K2⟩
        case measure => simp [intOf]; omega
      · have hd512 : ¬ (a : Int) < 512 := by omega
        have HE : Hid (Laid cs cs' s cd n 512) := by
          obtain ⟨h1, h2, h3⟩ := HL.out
          refine ⟨h1, h2, fun x hx => ?_⟩
          obtain ⟨h4, h5⟩ := h3 x hx
          exact ⟨fun ⟨a1, a2⟩ => h4 ⟨a1, by omega⟩, fun hn => h5 fun ⟨a1, a2⟩ => hn ⟨a1, hx⟩⟩
        clear HL HR hlt
        go_wp2_with fail
        go_end0
        first | exact ⟨rfl, KA, cs', hA, fun _ => HE.out, fun h => absurd h h9⟩ | exact ⟨rfl, KA, cs', hA, fun _ => HE.out⟩
end Go.Proofs.YtibkepjbblfkoaaGreatDoor
namespace Go.Proofs.YtibkepjbblfkoaaGreatDoor
set_option linter.unusedVariables false
set_option linter.unusedSimpArgs false
open Go.ChangeShapes Go.WideShapes Go.ChangeAt Go.RowKit

/-- a decoder's head: what is known of the lengths -/
def Hd (cs : Array Value) (L : List Nat) : Prop := cs.size = 1078 ∧ cs[0]? = some (.bool true) ∧ cs[1]? = some (.int .i64 (longest L)) ∧
  ∀ n, n < 17 → cs[2 + n]? = some (.int .i64 (cnt L n)) ∧ cs[19 + n]? = some (.int .i64 (fst L n)) ∧ cs[36 + n]? = some (.int .i64 (stt L n))
/-- how many symbols have words -/
def syN (L : List Nat) : Nat := stt L (longest L) + cnt L (longest L)
/-- the place of a symbol's word among all -/
def syAt (L : List Nat) (i : Nat) : Nat := stt L (len L i) + rk L i
theorem stt_mono (L : List Nat) (a b : Nat) (h : a ≤ b) : stt L a ≤ stt L b := by
  induction b with
  | zero => obtain rfl : a = 0 := by omega
            exact Nat.le_refl _
  | succ b ih =>
    by_cases e : a = b + 1
    · subst e; exact Nat.le_refl _
    · have := ih (by omega); rw [stt]; omega
theorem rk_lt_cnt (L : List Nat) (i : Nat) (hi : i < L.length) (h : 0 < len L i) : rk L i < cnt L (len L i) := by
  unfold cnt; rw [if_neg (by omega)]; exact rk_lt L i hi
theorem syAt_lt (L : List Nat) (i : Nat) (hi : i < L.length) (h : 0 < len L i) : syAt L i < syN L := by
  have h1 := rk_lt_cnt L i hi h
  have h2 := stt_mono L (len L i + 1) (longest L + 1) (by have := longest_ge L i; omega)
  rw [stt, stt] at h2
  unfold syAt syN; omega
theorem syAt_ne (L : List Nat) (i k : Nat) (hik : i < k) (hk : k < L.length) (h : 0 < len L i) (h' : 0 < len L k) : syAt L i ≠ syAt L k := by
  have h1 := rk_lt_cnt L i (by omega) h
  have h2 := rk_lt_cnt L k hk h'
  unfold syAt
  rcases Nat.lt_trichotomy (len L i) (len L k) with e | e | e
  · have := stt_mono L (len L i + 1) (len L k) e
    rw [stt] at this; omega
  · have h3 := count_take_lt L i k (len L i) hik (by omega) rfl
    unfold rk
    rw [← e]; omega
  · have := stt_mono L (len L k + 1) (len L i) e
    rw [stt] at this; omega
/-- the symbols' row, k symbols on -/
def Sy (ss : Array Value) (L : List Nat) (k : Nat) : Prop := ss.size = syN L ∧ ∀ i, i < k → i < L.length → 0 < len L i → ss[syAt L i]? = some (.int .i64 i)
theorem Sy.skip {ss : Array Value} {L : List Nat} {k : Nat} (h : Sy ss L k) (h0 : len L k = 0) : Sy ss L (k + 1) :=
  ⟨h.1, fun i hi hl hp => h.2 i (by by_cases e : i = k; (subst e; omega); omega) hl hp⟩
theorem Sy.take {ss : Array Value} {L : List Nat} {k : Nat} (h : Sy ss L k) (hk : k < L.length) (h0 : 0 < len L k) : Sy (ss.setIfInBounds (syAt L k) (.int .i64 k)) L (k + 1) := by
  refine ⟨by simpa using h.1, fun i hi hl hp => ?_⟩
  rw [Array.getElem?_setIfInBounds]
  by_cases e : i = k
  · subst e
    rw [if_pos rfl, if_pos (by rw [h.1]; exact syAt_lt L i hk h0)]
  · rw [if_neg (fun e2 => syAt_ne L i k (by omega) hk hp h0 e2.symm)]
    exact h.2 i (by omega) hl hp
/-- what is looked up at once, k symbols on -/
def ShT (cs : Array Value) (L : List Nat) (k : Nat) : Prop := ∀ x, x < 512 →
  (∃ i, i < k ∧ i < L.length ∧ 0 < len L i ∧ len L i ≤ 9 ∧ x % 2 ^ len L i = code L i ∧ cs[54 + x * 2]? = some (.int .i16 i) ∧ cs[54 + x * 2 + 1]? = some (.int .i16 (len L i))) ∨
  ((∀ i, i < k → i < L.length → 0 < len L i → len L i ≤ 9 → x % 2 ^ len L i ≠ code L i) ∧ cs[54 + x * 2]? = some (.int .i16 0) ∧ cs[54 + x * 2 + 1]? = some (.int .i16 0))
theorem ShT.skip {cs : Array Value} {L : List Nat} {k : Nat} (h : ShT cs L k) (h0 : len L k = 0 ∨ 9 < len L k) : ShT cs L (k + 1) := by
  intro x hx
  rcases h x hx with ⟨i, h1, h2⟩ | ⟨h1, h2⟩
  · exact .inl ⟨i, by omega, h2⟩
  · refine .inr ⟨fun i hi => ?_, h2⟩
    by_cases e : i = k
    · subst e; omega
    · exact h1 i (by omega)
theorem ShT.take {cs cs' : Array Value} {L : List Nat} {k : Nat} (h : ShT cs L k) (hk : k < L.length) (h0 : 0 < len L k) (h9 : len L k ≤ 9) (hl : Laid cs cs' k (code L k) (len L k) 512) : ShT cs' L (k + 1) := by
  intro x hx
  obtain ⟨h1, h2⟩ := hl.2.2 x hx
  by_cases e : x % 2 ^ len L k = code L k
  · exact .inl ⟨k, by omega, hk, h0, h9, e, h1 ⟨e, hx⟩⟩
  · obtain ⟨e1, e2⟩ := h2 (fun h => e h.1)
    rw [e1, e2]
    rcases h x hx with ⟨i, h1, h2⟩ | ⟨h1, h2⟩
    · exact .inl ⟨i, by omega, h2⟩
    · refine .inr ⟨fun i hi => ?_, h2⟩
      by_cases e' : i = k
      · subst e'; exact fun _ _ _ => e
      · exact h1 i (by omega)
theorem Hd.laid {cs cs' : Array Value} {L : List Nat} {s cd n a : Nat} (h : Hd cs L) (hl : Laid cs cs' s cd n a) : Hd cs' L := by
  obtain ⟨h1, h2, h3, h4⟩ := h
  refine ⟨by rw [hl.1, h1], by rw [hl.2.1 0 (by omega), h2], by rw [hl.2.1 1 (by omega), h3], fun n hn => ?_⟩
  rw [hl.2.1 _ (by omega), hl.2.1 _ (by omega), hl.2.1 _ (by omega)]
  exact h4 n hn
theorem Hd.sy {cs : Array Value} {L : List Nat} (h : Hd cs L) (u : Value) : Hd (cs.setIfInBounds 53 u) L := by
  obtain ⟨h1, h2, h3, h4⟩ := h
  refine ⟨by simpa using h1, ?_, ?_, fun n hn => ?_⟩
  · rw [Array.getElem?_setIfInBounds, if_neg (by omega), h2]
  · rw [Array.getElem?_setIfInBounds, if_neg (by omega), h3]
  · simp only [Array.getElem?_setIfInBounds, if_neg (show ¬ 53 = 2 + n by omega), if_neg (show ¬ 53 = 19 + n by omega), if_neg (show ¬ 53 = 36 + n by omega)]
    exact h4 n hn
theorem ShT.sy {cs : Array Value} {L : List Nat} {k : Nat} (h : ShT cs L k) (u : Value) : ShT (cs.setIfInBounds 53 u) L k := by
  intro x hx
  simp only [Array.getElem?_setIfInBounds, if_neg (show ¬ 53 = 54 + x * 2 by omega), if_neg (show ¬ 53 = 54 + x * 2 + 1 by omega)]
  exact h x hx
def r1024 : List Value := List.replicate 1024 (Value.int .i16 0)
theorem r1024_len : r1024.length = 1024 := by unfold r1024; exact List.length_replicate
theorem r1024_get (j : Nat) (h : j < 1024) : r1024[j]? = some (.int .i16 0) := by unfold r1024; rw [List.getElem?_replicate, if_pos h]
def dcl (L : List Nat) : List Value := DC true (longest L) (cnt L) (fst L) (stt L) (.slice none 0 0) []
def dc0 (L : List Nat) : Array Value := (dcl L ++ r1024).toArray
theorem dcl_len (L : List Nat) : (dcl L).length = 54 := rfl
theorem dcl_head (L : List Nat) : (dcl L)[0]? = some (.bool true) ∧ (dcl L)[1]? = some (.int .i64 (longest L)) ∧ ∀ n, n < 17 → (dcl L)[2 + n]? = some (.int .i64 (cnt L n)) ∧ (dcl L)[19 + n]? = some (.int .i64 (fst L n)) ∧ (dcl L)[36 + n]? = some (.int .i64 (stt L n)) := by
  refine ⟨rfl, rfl, fun n hn => ?_⟩
  obtain rfl | rfl | rfl | rfl | rfl | rfl | rfl | rfl | rfl | rfl | rfl | rfl | rfl | rfl | rfl | rfl | rfl : n = 0 ∨ n = 1 ∨ n = 2 ∨ n = 3 ∨ n = 4 ∨ n = 5 ∨ n = 6 ∨ n = 7 ∨ n = 8 ∨ n = 9 ∨ n = 10 ∨ n = 11 ∨ n = 12 ∨ n = 13 ∨ n = 14 ∨ n = 15 ∨ n = 16 := by omega
  all_goals exact ⟨rfl, rfl, rfl⟩
theorem dc0_lo (L : List Nat) (i : Nat) (h : i < 54) : (dc0 L)[i]? = (dcl L)[i]? := by
  unfold dc0; rw [List.getElem?_toArray, List.getElem?_append_left (by rw [dcl_len]; exact h)]
theorem dc0_hi (L : List Nat) (j : Nat) (h : j < 1024) : (dc0 L)[54 + j]? = some (.int .i16 0) := by
  unfold dc0; rw [List.getElem?_toArray, List.getElem?_append_right (by rw [dcl_len]; omega), dcl_len, Nat.add_sub_cancel_left, r1024_get j h]
theorem dc0_hd (L : List Nat) : Hd (dc0 L) L := by
  obtain ⟨h0, h1, h2⟩ := dcl_head L
  refine ⟨by unfold dc0; rw [List.size_toArray, List.length_append, dcl_len, r1024_len], by rw [dc0_lo _ _ (by omega), h0], by rw [dc0_lo _ _ (by omega), h1], fun n hn => ?_⟩
  rw [dc0_lo _ _ (by omega), dc0_lo _ _ (by omega), dc0_lo _ _ (by omega)]
  exact h2 n hn
theorem dc0_sh (L : List Nat) : ShT (dc0 L) L 0 := fun x hx => .inr ⟨fun i hi => by omega, dc0_hi L _ (by omega), by rw [Nat.add_assoc]; exact dc0_hi L _ (by omega)⟩
set_option maxRecDepth 100000 in
theorem dc0_built (L : List Nat) : Tryz.prog.built 123 [(0, .bool true), (1, .int .i64 (longest L)), (2, .agg (BL (cnt L))), (3, .agg (BL (fst L))), (4, .agg (BL (stt L)))] = some (dc0 L) := decBuilt _ _ _ _
theorem wpQuiet_op {P : Program} {ops : Array Oper} {Q : Act → Prop} {a : Act} {o : Oper} {rest : List Oper} {w : World} (hw : Region.wanted o (yielded ops a.tmps) = true) (v : Value)
    (hl : ∀ p : Kept w, (execOp a.eval o).run P p.x = .ok (.value v) p.x) (h : wpQuiet P ops (fun w' => ∃ p : Kept w, w' = p.x) Q rest (a.put o.dst v)) : wpQuiet P ops (fun w' => ∃ p : Kept w, w' = p.x) Q (o :: rest) a := by
  unfold wpQuiet
  rw [if_pos hw]
  refine ⟨v, ?_, h⟩
  rintro _ ⟨p, rfl⟩
  unfold Oper.quietAt
  rw [hl p]
  exact ⟨rfl, rfl⟩
theorem wpQuiet_build {P : Program} {ops : Array Oper} {Q : Act → Prop} {a : Act} {o : Oper} {rest : List Oper} {w : World} (ty : TypeId) (parts : Array (Nat × Operand)) (ho : o.op = .build ty parts) (hw : Region.wanted o (yielded ops a.tmps) = true)
    (vs : List (Nat × Value)) (hv : (parts.map fun (i, x) => (i, a.eval x)).toList = vs) (c : Array Value) (hc : P.built ty vs = some c)
    (h : wpQuiet P ops (fun w' => ∃ p : Kept w, w' = p.x) Q rest (a.put o.dst (.agg c))) : wpQuiet P ops (fun w' => ∃ p : Kept w, w' = p.x) Q (o :: rest) a := by
  refine wpQuiet_op hw _ (fun p => ?_) h
  have := run_build (P := P) p.x ty (parts.map fun (i, x) => (i, a.eval x)) c (by rw [hv]; exact hc)
  unfold execOp
  simp only [ho, Sem.run_bind, Sem.run_pure, Result.andThen_ok, this]
end Go.Proofs.YtibkepjbblfkoaaGreatDoor
namespace Go.Proofs.YtibkepjbblfkoaaGreatDoor
set_option linter.unusedVariables false
set_option linter.unusedSimpArgs false
open Go.ChangeShapes Go.WideShapes Go.ChangeAt Go.RowKit

theorem infoInt : (Tryz.prog.info? 3).map (fun i => (i.zero.map (·.cells), i.size, i.bytes)) = some (some #[.int .i64 0], 1, 8) := by kernel_rfl
theorem run_make_ints (w : World) (n : Nat) (hn : n ≤ 100000) : (Instr.makeSlice 22 (.int .i64 (n : Int)) (.int .i64 (n : Int))).run Tryz.prog w = .ok (.slice (some ⟨w.heap.size, 0, none⟩) n n) (w.alloc (.cells (madeCells #[.int .i64 0] (n * 1)) 3)) := by
  obtain ⟨i, hi, hzz⟩ := Option.map_eq_some_iff.1 infoInt
  simp only [Prod.mk.injEq] at hzz
  obtain ⟨hz, hs, hb⟩ := hzz
  obtain ⟨z, hz, hzc⟩ := Option.map_eq_some_iff.1 hz
  have := run_make (P := Tryz.prog) (w := w) 22 3 i z Tryz.underlying22 hi hz .i64 .i64 n n (by omega) (by omega) (by rw [hb]; omega) (by omega)
  rw [this, hzc, hs]
  simp
/-- a decoder, k symbols on -/
def Mk (w : World) (q sb nb : Nat) (L : List Nat) (k : Nat) : Prop := ∃ cs ss, Blk w q cs 123 ∧ Hd cs L ∧ cs[53]? = some (.slice (some ⟨sb, 0, none⟩) (syN L) (syN L)) ∧ ShT cs L k ∧ Blk w sb ss 3 ∧ Sy ss L k
def ns (L : List Nat) (k n : Nat) : Nat := stt L n + if n = 0 then 0 else (L.take k).count n
theorem ns_zero (L : List Nat) : ns L 0 = stt L := by funext n; simp [ns]
theorem ns_at (L : List Nat) (k : Nat) (h : 0 < len L k) : ns L k (len L k) = syAt L k := by unfold ns; rw [if_neg (by omega)]; rfl
theorem ns_skip (L : List Nat) (k : Nat) (hk : k < L.length) (h : len L k = 0) : ns L (k + 1) = ns L k := by
  funext n
  unfold ns
  by_cases h0 : n = 0
  · rw [if_pos h0, if_pos h0]
  · rw [if_neg h0, if_neg h0, List.take_succ_eq_append_getElem hk, List.count_append, ← len_get L k hk, h]
    simp [List.count_cons, Ne.symm h0]
theorem ns_take (L : List Nat) (k : Nat) (hk : k < L.length) (h : 0 < len L k) : (fun i => if i = len L k then syAt L k + 1 else ns L k i) = ns L (k + 1) := by
  funext n
  unfold ns
  rw [List.take_succ_eq_append_getElem hk, List.count_append, ← len_get L k hk]
  by_cases h0 : n = len L k
  · subst h0
    rw [if_pos rfl, if_neg (by omega)]
    simp [syAt, rk]; omega
  · rw [if_neg h0]
    by_cases h1 : n = 0
    · rw [if_pos h1, if_pos h1]
    · rw [if_neg h1, if_neg h1]
      simp [List.count_cons, Ne.symm h0]
theorem syN_le (L : List Nat) (h : L.length ≤ 4096) (hl : longest L ≤ 16) : syN L ≤ 17 * 4096 := by
  have h1 := stt_le L (longest L + 1)
  rw [stt] at h1
  unfold syN
  have := Nat.mul_le_mul (show longest L + 1 ≤ 17 by omega) h
  omega
theorem Sy.made (L : List Nat) (N : Nat) (h : syN L = N) : Sy (madeCells #[.int .i64 0] N) L 0 := ⟨by rw [size_madeCells, h], fun i hi => by omega⟩
theorem Hd.start {w : World} {q : Nat} {cs : Array Value} {L : List Nat} (h : Hd cs L) (hb : Blk w q cs 123) : w.rangeAt q 36 ((List.range 17).map fun n => Value.int .i64 (stt L n)) := by
  intro j v hv
  have hj : j < 17 := by
    have := (List.getElem?_eq_some_iff.1 hv).1
    simpa using this
  simp only [List.getElem?_map, List.getElem?_range hj, Option.map_some, Option.some.injEq] at hv
  rw [← hv]
  exact hb.cell (36 + j) _ (h.2.2.2 j hj).2.2
theorem Mk.keep {w w' : World} {q sb nb : Nat} {L S : List Nat} {k : Nat} (h : Mk w q sb nb L k) (K : Keep S w w') (hq : q ∉ S) (hs : sb ∉ S) : Mk w' q sb nb L k := by
  obtain ⟨cs, ss, a, b, c, d, e, f⟩ := h
  exact ⟨cs, ss, a.keep K hq, b, c, d, e.keep K hs, f⟩
theorem Mk.skip {w : World} {q sb nb : Nat} {L : List Nat} {k : Nat} (h : Mk w q sb nb L k) (h0 : len L k = 0) : Mk w q sb nb L (k + 1) := by
  obtain ⟨cs, ss, a, b, c, d, e, f⟩ := h
  exact ⟨cs, ss, a, b, c, d.skip (.inl h0), e, f.skip h0⟩
theorem cannew_err (w : World) (v : Value) (zs : List Int) (h : Is .i64 w v zs) (h0 : werr zs ≠ 0) : Calls Tryz.prog 57 #[v] w fun e w' => e = .returned (.tuple #[.pointer none, .int .i64 (werr zs)]) ∧ Keep [] w w' := by
  have HC := Lib.hid (can_codes w v zs h)
  have hb : (((werr zs : Nat) : Int) != 0) = true := by simp; omega
  generalize werr zs = er at hb HC h0 ⊢
  clear h
  go_enter Tryz.func57, Tryz.ntmps57
  go_wp2_with fail
  refine HC.out.mono ?_; rintro e w1 ⟨v', rfl, _, k1, _, _⟩
  clear HC h0
  go_wp2_with fail
  go_ret2
  exact ⟨rfl, k1⟩
set_option maxRecDepth 100000 in
set_option maxHeartbeats 8000000 in
theorem cannew_ok (w : World) (v : Value) (zs : List Int) (h : Is .i64 w v zs) (h0 : werr zs = 0) : Calls Tryz.prog 57 #[v] w fun e w' => ∃ q sb nb, e = .returned (.tuple #[.pointer (some ⟨q, 0, none⟩), .int .i64 0]) ∧ Keep [] w w' ∧ Mk w' q sb nb (Ln zs) (Ln zs).length ∧ w.heap.size ≤ q ∧ w.heap.size ≤ sb ∧ q ≠ sb := by
  obtain ⟨hm, hwt⟩ := werr_ok h0
  have hL := may_Ln hm
  have hlen : zs.length ≤ 4096 := ((may_iff zs).1 hm).1
  have hN := Ln_length zs
  have HC := Lib.hid (cancodes_ok w v zs h h0)
  have HK := Lib.hid (fun w1 (k : Keep [] w w1) => counts_c w1 v zs (h.keep k (by simp)) hm)
  have HF := Lib.hid (fun w => firsts_c w (Ln zs) (fst_le zs hm) (by rw [hN]; exact hlen))
  have HS := Lib.hid (fun w => starts_c w (Ln zs) (by rw [hN]; exact hlen))
  have HG := Lib.hid (fun w => blongest_c w (Ln zs) hL)
  have hsyn := syN_le (Ln zs) (by rw [hN]; exact hlen) (longest_le _ 16 hL)
  have hlg := longest_le (Ln zs) 16 hL
  have hz := (zero_of_info (P := Tryz.prog) lenInfo).1
  rw [← BL_zero] at hz
  generalize hZ : BL (fun _ => 0) = Z at hz
  have hz17 : Z.size = 17 := by rw [← hZ, BL_size]
  clear hZ
  have HLL := Lib.hid (may_Ln hm)
  obtain ⟨a, cap, rfl, _, _⟩ := h.shape
  generalize Ln zs = L at hL hwt hN HK HF HS HG HC hsyn hlg HLL ⊢
  have HN := Lib.hid hN; clear hN hm h0 h hL
  go_enter Tryz.func57, Tryz.ntmps57
  go_wp2_with fail
  refine HC.out.mono ?_; rintro e w1 ⟨v', rfl, hcd, k1, hfr⟩
  clear HC
  go_wp2_with fail
  refine (HK.out w1 k1).mono ?_; rintro e w2 ⟨rfl, k2⟩
  have K2 : Keep [] w1 w2 := k2
  clear k2 HK
  have hb0 := Blk.new w2 Z 91
  go_wp2_with (refine wpList_storeL rfl _ _ rfl _ _ rfl rfl _ _ hb0 hz17 ?_)
  have hb1 := hb0.setRow (BL (cnt L))
  have K3 : Keep [] w1 ((w2.alloc (.cells Z 91)).setRow w2.heap.size (BL (cnt L))) := (K2.alloc _).trans (Keep.setRow _) (fun x hx => .inr (by simp at hx; have := K2.size; omega))
  generalize (w2.alloc (.cells Z 91)).setRow w2.heap.size (BL (cnt L)) = w3 at hb1 K3 ⊢
  generalize w2.heap.size = cb at hb1 ⊢
  clear hb0 K2
  have hld : ∀ p : Kept w3, (Instr.loadAt 91 (.pointer (some ⟨cb, 0, none⟩))).run Tryz.prog p.x = .ok (.agg (BL (cnt L))) p.x :=
    fun p => (hb1.keep p.h (by simp)).load (P := Tryz.prog) _ Tryz.underlying91 rfl (by rw [BL_size]; exact lenSize)
  have HLD := Lib.hid hld
  clear hld
  refine wp_region_kept_tail 8 (by kernel_rfl) (by kernel_rfl) ?_
  simp only [List.take_succ_cons, List.take_zero, List.drop_succ_cons, List.drop_zero]
  refine wpQuiet_loadA 91 _ rfl rfl _ rfl _ HLD.out ?_
  quiet_step ((go_at_call 74; with_reducible exact kept_of (HG.out _)))
  refine wpQuiet_loadA 91 _ rfl rfl _ rfl _ HLD.out ?_
  refine wpQuiet_loadA 91 _ rfl rfl _ rfl _ HLD.out ?_
  quiet_step ((go_at_call 48; with_reducible exact kept_of (HF.out _)))
  refine wpQuiet_loadA 91 _ rfl rfl _ rfl _ HLD.out ?_
  quiet_step ((go_at_call 75; with_reducible exact kept_of (HS.out _)))
  refine wpQuiet_build 123 _ rfl (by kernel_rfl) [(0, .bool true), (1, .int .i64 (longest L)), (2, .agg (BL (cnt L))), (3, .agg (BL (fst L))), (4, .agg (BL (stt L)))] (by kernel_rfl) (dc0 L) (dc0_built L) ?_
  refine wpQuiet_nil ?_
  rintro _ ⟨⟨w4, k4⟩, rfl⟩
  have K4 := K3.trans k4 (by simp)
  have hb2 := hb1.keep k4 (by simp)
  clear HLD HG HF HS hb1 K3 k4
  rename_i w4
  simp only [Act.put, List.setIfInBounds_toArray, List.set_cons_succ, List.set_cons_zero]
  go_wp2_with fail
  have hq0 := Blk.new w4 (dc0 L) 123
  have hb3 := hb2.alloc (.cells (dc0 L) 123)
  have K5 := K4.alloc (.cells (dc0 L) 123)
  have hcq : cb ≠ w4.heap.size := by have := hb2.lt; omega
  have hq1 : w1.heap.size ≤ w4.heap.size := K4.size
  have hqs : (w4.alloc (.cells (dc0 L) 123)).heap.size = w4.heap.size + 1 := by simp
  generalize w4.alloc (.cells (dc0 L) 123) = w5 at hq0 hb3 K5 hqs ⊢
  generalize w4.heap.size = q at hq0 hcq hq1 hqs ⊢
  clear hb2 K4
  have HH := dc0_hd L
  have d1 := hq0.cell 1 _ HH.2.2.1
  have d2 := hq0.cell (36 + longest L) _ (HH.2.2.2 (longest L) (by omega)).2.2
  have d3 := hb3.cell (longest L) _ (BL_get _ _ (by omega))
  have s1 : 53 < (dc0 L).size := by rw [HH.1]; omega
  have d53 : ∀ o, (w5.alloc o).cell? ⟨q, 53, none⟩ = some ((dc0 L)[53]'s1) := fun o => (hq0.alloc o).cell 53 _ (Array.getElem?_eq_getElem s1)
  have p53 : ∀ o, (w5.alloc o).frozen? ⟨q, 53, none⟩ = false := fun o => (hq0.alloc o).free 53
  have hmk := fun w' => run_make_ints w' (syN L) (by omega)
  have hw1 : IntKind.i64.wrap ((stt L (longest L) : Int) + cnt L (longest L)) = syN L := by
    rw [IntKind.wrap_i64]; unfold syN at hsyn ⊢; omega
  have HSS := Lib.hid hsyn
  have hlgi : (longest L : Int) < 17 := by omega
  generalize hN : syN L = N at hw1 hmk hsyn HSS
  generalize stt L (longest L) = A at d2 hw1
  generalize cnt L (longest L) = B at d3 hw1
  generalize (dc0 L)[53] = c53 at d53
  generalize longest L = lg at d1 d2 d3 hlgi hlg
  clear HH
  go_region
  subst hN
  have hq5 := hq0.lt
  have hS := ((hq0.set 53 (.slice (some ⟨q + 1, 0, none⟩) (syN L) (syN L))).alloc (.cells (madeCells #[.int .i64 0] (syN L)) 3)).keep ((Keep.refl [] _).drew) (by simp)
  have hC := ((hb3.other (p := ⟨q, 53, none⟩) hcq (.slice (some ⟨q + 1, 0, none⟩) (syN L) (syN L))).alloc (.cells (madeCells #[.int .i64 0] (syN L)) 3)).keep ((Keep.refl [] _).drew) (by simp)
  have hY : Blk ((w5.setCell ⟨q, 53, none⟩ (.slice (some ⟨q + 1, 0, none⟩) (syN L) (syN L))).alloc (.cells (madeCells #[.int .i64 0] (syN L)) 3)).drew (q + 1) (madeCells #[.int .i64 0] (syN L)) 3 := by
    have := (Blk.new (w5.setCell ⟨q, 53, none⟩ (.slice (some ⟨q + 1, 0, none⟩) (syN L) (syN L))) (madeCells #[.int .i64 0] (syN L)) 3).keep ((Keep.refl [] _).drew) (by simp)
    simpa [hqs] using this
  have K6 : Keep [] w1 ((w5.setCell ⟨q, 53, none⟩ (.slice (some ⟨q + 1, 0, none⟩) (syN L) (syN L))).alloc (.cells (madeCells #[.int .i64 0] (syN L)) 3)).drew := ((K5.setCell (.inr hq1) _).alloc _).drew
  have hz6 : ((w5.setCell ⟨q, 53, none⟩ (.slice (some ⟨q + 1, 0, none⟩) (syN L) (syN L))).alloc (.cells (madeCells #[.int .i64 0] (syN L)) 3)).drew.heap.size = q + 2 := by simp [World.drew, hqs]
  generalize ((w5.setCell ⟨q, 53, none⟩ (.slice (some ⟨q + 1, 0, none⟩) (syN L) (syN L))).alloc (.cells (madeCells #[.int .i64 0] (syN L)) 3)).drew = w6 at hS hC hY K6 hz6 ⊢
  have h53 : ((dc0 L).setIfInBounds 53 (.slice (some ⟨q + 1, 0, none⟩) (syN L) (syN L)))[53]? = some (.slice (some ⟨q + 1, 0, none⟩) (syN L) (syN L)) := by
    rw [Array.getElem?_setIfInBounds, if_pos rfl, if_pos s1]
  have HMk : Mk w6 q (q + 1) (q + 2) L 0 := ⟨_, _, hS, (dc0_hd L).sy _, h53, (dc0_sh L).sy _, hY, Sy.made L _ rfl⟩
  have HMK := Lib.hid HMk
  have hrng := ((dc0_hd L).sy (.slice (some ⟨q + 1, 0, none⟩) (syN L) (syN L))).start hS
  have HR := Lib.hid hrng
  clear hS hY HMk hrng d1 d2 d3 d53 p53 hq0 hb3 K5 hmk hw1 HSS s1 h53 hC hlgi hq5 hqs
  obtain ⟨av, capv, hv', hvl⟩ := hcd.shape
  subst hv'
  have hb7 : Blk (w6.alloc (.cells Z 91)) (q + 2) Z 91 := by rw [← hz6]; exact Blk.new w6 Z _
  go_wp2_with (first
    | refine wpList_load_mid rfl 91 _ rfl q 36 rfl _ _ HR.out Tryz.underlying91 rfl (by exact lenSize) ?_
    | refine wpList_storeL rfl _ _ rfl _ (stt L) rfl rfl _ _ hb7 hz17 ?_)
  have hb8 := hb7.setRow (BL (stt L))
  have hq0 : q < w6.heap.size := by omega
  have HM8 := Lib.hid ((HMK.out.keep ((Keep.refl [] w6).alloc (.cells Z 91)) (by simp) (by simp)).keep (Keep.setRow (g := q + 2) (BL (stt L))) (by simp) (by simp))
  have K8 : Keep [] w1 ((w6.alloc (.cells Z 91)).setRow (q + 2) (BL (stt L))) := (K6.alloc _).trans (Keep.setRow _) (fun x hx => .inr (by simp at hx; omega))
  have hq8 : ((w6.alloc (.cells Z 91)).setRow (q + 2) (BL (stt L))).heap.size = q + 3 := by simp [hz6]
  generalize (w6.alloc (.cells Z 91)).setRow (q + 2) (BL (stt L)) = w8 at hb8 HM8 K8 hq8 ⊢
  clear hb7 HMK HR K6 hz6 hq0
  have HCD := Lib.hid (fun w' (k : Keep [] w1 w') i hi => (hcd.keep k (by simp)).at i hi)
  have HLY := Lib.hid (fun w q cs s cd n a b c d e => layshort_c w q cs s cd n a b c d e)
  clear hcd
  go_loopw [56] (fun i wr => ∃ k : Nat, k ≤ L.length ∧ i = .int .i64 k ∧ Hid (Mk wr q (q + 1) (q + 2) L k) ∧ Blk wr (q + 2) (BL (ns L k)) 91 ∧ Keep [] w1 wr) (fun i _ => L.length - (intOf i).toNat)
  case atStart => exact ⟨0, by omega, rfl, HM8.out, by rw [ns_zero]; exact hb8, K8⟩
  case round =>
    clear hb8 HM8 K8 hq8
    obtain ⟨k, hk, rfl, HM, hb, K⟩ := hrel
    by_cases hlt : k < L.length
    · obtain ⟨b, off, cap', hv, e0, e1⟩ := HCD.out wr K k hlt
      simp only [Value.slice.injEq] at hv
      obtain ⟨rfl, hvv, rfl⟩ := hv
      clear hvv
      have hl16 : len L k ≤ 16 := by rw [len_get L k hlt]; exact HLL.out _ (List.getElem_mem hlt)
      by_cases h0 : len L k = 0
      · have HM2 : Hid (Mk wr q (q + 1) (q + 2) L (k + 1)) := HM.out.skip h0
        have hb' := hb
        rw [← ns_skip L k hlt h0] at hb'
        rw [h0] at e1
        have HA : Hid (Mk (wr.alloc (.cells #[.int .u32 (code L k), .int .i64 0] 62)) q (q + 1) (q + 2) L (k + 1)) := HM2.out.keep ((Keep.refl [] wr).alloc _) (by simp) (by simp)
        have HB := hb'.alloc (.cells #[.int .u32 (code L k), .int .i64 0] 62)
        have HK := K.alloc (.cells #[.int .u32 (code L k), .int .i64 0] 62)
        clear h0 hb HM HM2
        go_wp2_with fail
        go_roundw
        case rel => exact ⟨k + 1, by omega, by go_num, HA, HB, HK⟩
        case measure => simp [intOf]; omega
      · have hpos : 0 < len L k := by omega
        have HMo := HM.out
        obtain ⟨cs, ss, m1, m2, m3, m4, m5, m6⟩ := HMo
        have hcdl : code L k < 2 ^ len L k := code_lt L k
        have hsl := syAt_lt L k hlt hpos
        have HNS := Lib.hid (ns_take L k hlt hpos)
        have HSY := Lib.hid (m6.take hlt hpos)
        have hsz := m2.1
        have HA := Lib.hid (fun cs' (h9 : len L k ≤ 9) hl => m4.take (cs' := cs') hlt hpos h9 hl)
        have HHD := Lib.hid m2
        have HSK := Lib.hid (fun h => m4.skip (.inr h))
        -- the copy of the word
        have A1 := m1.alloc (.cells #[.int .u32 (code L k), .int .i64 (len L k)] 62)
        have A5 := m5.alloc (.cells #[.int .u32 (code L k), .int .i64 (len L k)] 62)
        have AB := hb.alloc (.cells #[.int .u32 (code L k), .int .i64 (len L k)] 62)
        have AN := Blk.new wr #[.int .u32 (code L k), .int .i64 (len L k)] 62
        have AK := K.alloc (.cells #[.int .u32 (code L k), .int .i64 (len L k)] 62)
        have hq := m1.lt
        have hsb := m5.lt
        have hnb := hb.lt
        have hssz := m6.1
        have hnat := ns_at L k hpos
        have Hm3 := Lib.hid m3
        have hlp : (0 : Int) < len L k := by omega
        have hl17 : (len L k : Int) < 17 := by omega
        have hne : ((len L k : Int) == 0) = false := by simp; omega
        have hw16 : k < 4096 := by have := HN.out; omega
        clear HM hb m1 m2 m4 m5 m6 h0
        generalize code L k = cd at *
        generalize hzz : len L k = z at *
        go_upto_region 12 with fail
        have AR : Keep [] w1 (wr.alloc (.cells #[.int .u32 cd, .int .i64 z] 62)).drew := AK.drew
        have A1d := A1.keep ((Keep.refl [] _).drew) (by simp)
        have A5d := A5.keep ((Keep.refl [] _).drew) (by simp)
        have ABd := AB.keep ((Keep.refl [] _).drew) (by simp)
        have ANd := AN.keep ((Keep.refl [] _).drew) (by simp)
        have c53 := A1.cell 53 _ m3
        have c1 := AN.cell 1 _ rfl
        have cz := AB.cell z _ (BL_get _ _ (by omega))
        rw [hnat] at cz
        have hsr : 0 < wr.heap.size := by omega
        generalize wr.alloc (.cells #[.int .u32 cd, .int .i64 z] 62) = wB at A1 A5 AB AN AK AR A1d A5d ABd ANd c53 c1 cz ⊢
        generalize wr.heap.size = r at AN ANd hq hsb hnb c1 hsr ⊢
        have hyN : (syAt L k : Int) < syN L := by omega
        have hyi : IntKind.i64.wrap ((syAt L k : Int) + 1) = syAt L k + 1 := by rw [IntKind.wrap_i64]; omega
        generalize hyy : syAt L k = y at *
        generalize hNN : syN L = N at *
        go_still_tail 10, (by kernel_rfl)
        change wpList _ _ _ _ _ wB.drew
        generalize wB.drew = wC at A1d A5d ABd ANd AR ⊢
        clear A1 A5 AB AN AK c53 c1 cz
        have p1 := A5d.free y
        have d1 := A5d.cell y _ (Array.getElem?_eq_getElem (by omega))
        have B5 := A5d.set y (.int .i64 k)
        have B1 := A1d.other (p := ⟨q + 1, y, none⟩) (by simp) (.int .i64 k)
        have BB := ABd.other (p := ⟨q + 1, y, none⟩) (by simp) (.int .i64 k)
        have BN := ANd.other (p := ⟨q + 1, y, none⟩) (by simp; omega) (.int .i64 k)
        have BR : Keep [] w1 (wC.setCell ⟨q + 1, y, none⟩ (.int .i64 k)) := AR.setCell (.inr (by simp; omega)) _
        clear A1d A5d ABd ANd AR
        go_upto_region 13 with fail
        generalize wC.setCell ⟨q + 1, y, none⟩ (.int .i64 k) = wD at B1 B5 BB BN BR ⊢
        clear p1 d1
        have n1 := BN.cell 1 _ rfl
        have nz := BB.cell z _ (BL_get _ _ (by omega))
        rw [hnat] at nz
        have fz := BB.free z
        have CB := BB.set z (.int .i64 (y + 1 : Nat))
        rw [BL_set _ _ _ (by omega), HNS.out] at CB
        have C1 := B1.other (p := ⟨q + 2, z, none⟩) (by simp) (.int .i64 (y + 1 : Nat))
        have C5 := B5.other (p := ⟨q + 2, z, none⟩) (by simp) (.int .i64 (y + 1 : Nat))
        have CN := BN.other (p := ⟨q + 2, z, none⟩) (by simp; omega) (.int .i64 (y + 1 : Nat))
        have CR : Keep [] w1 (wD.setCell ⟨q + 2, z, none⟩ (.int .i64 (y + 1 : Nat))) := BR.setCell (.inr (by simp; omega)) _
        have ec : (Value.int .i64 ((y + 1 : Nat) : Int)) = Value.int .i64 ((y : Int) + 1) := by simp
        rw [ec] at CB C1 C5 CN CR
        clear B1 B5 BB BN BR ec
        go_upto_region 14 with fail
        generalize wD.setCell ⟨q + 2, z, none⟩ (.int .i64 ((y : Int) + 1)) = wE at CB C1 C5 CN CR ⊢
        clear n1 nz fz
        have e0 := CN.cell 0 _ rfl
        have e1 := CN.cell 1 _ rfl
        go_wp2_with fail
        refine (HLY.out wE q cs k cd z C1 hsz hw16 hpos hl16 hcdl).mono ?_
        rintro e wF ⟨rfl, kF, cs', F1, F2, F3⟩
        have FR : Keep [] w1 wF := CR.trans kF (fun x hx => .inr (by simp at hx; omega))
        have FB := CB.keep kF (by simp)
        have F5 := C5.keep kF (by simp)
        subst hNN
        have FM : Hid (Mk wF q (q + 1) (q + 2) L (k + 1)) := by
          by_cases h9 : z ≤ 9
          · have hl := F2 h9
            exact ⟨cs', _, F1, HHD.out.laid hl, by rw [hl.2.1 53 (by omega)]; exact m3, HA.out _ h9 hl, F5, HSY.out⟩
          · obtain rfl := F3 (by omega)
            exact ⟨_, _, F1, HHD.out, m3, HSK.out (by omega), F5, HSY.out⟩
        clear F1 F2 F3 F5 kF CB C1 C5 CN CR e0 e1 HSY HA HSK HHD Hm3 m3
        go_wp2_with fail
        go_roundw
        case rel => exact ⟨k + 1, by omega, by go_num, FM, FB, FR⟩
        case measure => simp [intOf]; omega
    · obtain rfl : k = L.length := by omega
      have HMo := HM.out
      have h1 := k1.size
      go_wp2_with fail
      go_ret2
      exact ⟨q, q + 1, q + 2, rfl, k1.trans K (by simp), HMo, by omega, by omega, by omega⟩
end Go.Proofs.YtibkepjbblfkoaaGreatDoor
namespace Go.Proofs.YtibkepjbblfkoaaGreatDoor
set_option linter.unusedVariables false
set_option linter.unusedSimpArgs false
open Go.ChangeShapes Go.WideShapes Go.ChangeAt Go.RowKit

/-- block q is a decoder made of lengths L, bs its blocks -/
def Dec (w : World) (q : Nat) (bs L : List Nat) : Prop := ∃ sb, bs = [q, sb] ∧ q ≠ sb ∧ Mk w q sb 0 L L.length ∧ (∀ x ∈ L, x ≤ 16) ∧ wt L ≤ 65536 ∧ L.length ≤ 4096
theorem Dec.keep {w w' : World} {q : Nat} {bs L S : List Nat} (h : Dec w q bs L) (k : Keep S w w') (hs : ∀ b ∈ bs, b ∉ S) : Dec w' q bs L := by
  obtain ⟨sb, rfl, a, b, c⟩ := h
  exact ⟨sb, rfl, a, b.keep k (hs q (by simp)) (hs sb (by simp)), c⟩
theorem Dec.lt {w : World} {q : Nat} {bs L : List Nat} (h : Dec w q bs L) : ∀ b ∈ bs, b < w.heap.size := by
  obtain ⟨sb, rfl, a, ⟨cs, ss, b1, _, _, _, b2, _⟩, c⟩ := h
  intro b hb
  simp at hb
  rcases hb with rfl | rfl
  · exact b1.lt
  · exact b2.lt
theorem Dec.ok {w : World} {q : Nat} {bs L : List Nat} (h : Dec w q bs L) : (∀ x ∈ L, x ≤ 16) ∧ wt L ≤ 65536 := by
  obtain ⟨sb, rfl, a, b, c, d, _⟩ := h
  exact ⟨c, d⟩
/-- what bits begin with: a symbol and its word's length -/
def bg (L : List Nat) (x : Nat) : Nat × Nat := match pick L (tr 16 x 0) 16 with | some i => (i, len L i) | none => (0, 0)
theorem bg_hit (L : List Nat) (x i : Nat) (hL : ∀ y ∈ L, y ≤ 16) (h : hit L (tr 16 x 0) i) : bg L x = (i, len L i) := by
  unfold bg; rw [(pick_some L _ 16 i hL).2 ⟨h, h.2.2.1⟩]
theorem bg_none (L : List Nat) (x : Nat) (hL : ∀ y ∈ L, y ≤ 16) (h : ∀ i, ¬ hit L (tr 16 x 0) i) : bg L x = (0, 0) := by
  unfold bg; rw [(pick_none L _ 16 hL).2 fun i hi => absurd hi (h i)]
theorem low9 (x n c : Nat) (hn : n ≤ 9) : x % 512 % 2 ^ n = x % 2 ^ n := by
  rw [show (512 : Nat) = 2 ^ 9 from rfl]
  exact Nat.mod_mod_of_dvd x (Nat.pow_dvd_pow 2 hn)
/-- a place among the words of n bits -/
theorem place (L : List Nat) (x n : Nat) (h0 : 0 < n) (hn : n ≤ 16) (hno : ∀ i, hit L (tr 16 x 0) i → n ≤ len L i) :
    fst L n ≤ tr n x 0 ∧ (tr n x 0 - fst L n < cnt L n → ∃ i, i < L.length ∧ 0 < len L i ∧ len L i = n ∧ stt L n + (tr n x 0 - fst L n) = syAt L i ∧ hit L (tr 16 x 0) i) ∧
    (cnt L n ≤ tr n x 0 - fst L n → ∀ i, hit L (tr 16 x 0) i → n + 1 ≤ len L i) := by
  have ht := tr_top x n hn
  obtain ⟨m, rfl⟩ : ∃ m, n = m + 1 := ⟨n - 1, by omega⟩
  have hf := fst_acc L m (by omega)
  have hq : 0 < 2 ^ (16 - (m + 1)) := Nat.two_pow_pos _
  have hlo : acc L m ≤ tr 16 x 0 := by
    rcases Nat.lt_or_ge (tr 16 x 0) (acc L m) with h | h
    · obtain ⟨k, a, b, c, d⟩ := acc_find L (tr 16 x 0) m h
      obtain ⟨e1, e2⟩ := hit_of L (tr 16 x 0) k a (by omega) c d
      obtain ⟨i, hi, f1, f2⟩ := sym_at k _ L e1
      have := hno i (e2 i hi f1 f2)
      omega
    · exact h
  have hle : fst L (m + 1) ≤ tr (m + 1) x 0 := by
    rw [← ht, Nat.le_div_iff_mul_le hq, hf]; exact hlo
  have hr : (tr 16 x 0 - acc L m) / 2 ^ (16 - (m + 1)) = tr (m + 1) x 0 - fst L (m + 1) := by
    rw [← hf, Nat.mul_comm, Nat.sub_mul_div, ht]
  refine ⟨hle, fun hc => ?_, fun hc i hi => ?_⟩
  · have hc' : tr (m + 1) x 0 - fst L (m + 1) < L.count (m + 1) := by unfold cnt at hc; simpa using hc
    have hhi : tr 16 x 0 < acc L (m + 1) := by
      rw [acc, ← hf, ← Nat.add_mul]
      refine (Nat.div_lt_iff_lt_mul hq).1 ?_
      rw [ht]; omega
    obtain ⟨e1, e2⟩ := hit_of L (tr 16 x 0) (m + 1) (by omega) hn (by simpa using hlo) hhi
    rw [Nat.add_sub_cancel, hr] at e1 e2
    obtain ⟨i, hi, f1, f2⟩ := sym_at (m + 1) _ L e1
    exact ⟨i, hi, by omega, f1, by unfold syAt; rw [f1, f2], e2 i hi f1 f2⟩
  · have h1 := hno i hi
    rcases Nat.lt_or_ge (m + 1) (len L i) with h | h
    · exact h
    · have e : len L i = m + 1 := by omega
      have h2 := hi.2.2.2
      have h3 := rk_lt_cnt L i hi.1 hi.2.1
      rw [e] at h2 h3
      rw [ht] at h2
      unfold wd at h2
      rw [e] at h2
      omega
theorem or_i64 (a b : Nat) (ha : a < 4611686018427387904) (hb : b < 4611686018427387904) : Go.bits .or .i64 (a : Int) (b : Int) = ((a ||| b : Nat) : Int) := by
  have hx : a ||| b < 2 ^ 62 := Nat.or_lt_two_pow (by omega) (by omega)
  show IntKind.i64.wrap ((BitVec.ofInt 64 (a : Int) ||| BitVec.ofInt 64 (b : Int)).toNat : Int) = _
  rw [BitVec.toNat_or, ofInt_u64 a (by omega), ofInt_u64 b (by omega), IntKind.wrap_i64]
  omega
theorem or1 (a b : Nat) (ha : a < 2305843009213693952) (hb : b < 2) : Go.bits .or .i64 ((a : Int) * 2) (b : Int) = ((a * 2 + b : Nat) : Int) := by
  have := or_i64 (a * 2) b (by omega) (by omega)
  rw [nat_join1 _ _ (by omega) hb] at this
  rw [← this]; simp
theorem sub_in (a b : Nat) (h : a < 65536) (h2 : b ≤ a) : IntKind.i64.wrap ((a : Int) - b) = (a : Int) - b := by rw [IntKind.wrap_i64]; omega
theorem add_in (a b : Nat) (h : a < 1000000) (h2 : b < 65536) : IntKind.i64.wrap ((a : Int) + (b : Nat)) = ((a + b : Nat) : Int) := by rw [IntKind.wrap_i64]; omega
theorem bit1 (x n : Nat) (hx : x < 4294967296) : Go.bits .and .u32 ((x : Int) / 2 ^ n) 1 = ((x / 2 ^ n % 2 : Nat) : Int) := by
  have h := u32_and_nat (x / 2 ^ n) 1 (Nat.lt_of_le_of_lt (Nat.div_le_self _ _) hx) (by omega)
  rw [Nat.and_one_is_mod] at h
  rw [← h]; simp
set_option maxRecDepth 100000 in
set_option maxHeartbeats 4000000 in
theorem canbegin_c (w : World) (q : Nat) (bs L : List Nat) (h : Dec w q bs L) (x : Nat) (hx : x < 65536) : Calls Tryz.prog 90 #[.pointer (some ⟨q, 0, none⟩), .int .u32 x] w fun e w' => e = .returned (.tuple #[.int .i64 (bg L x).1, .int .i64 (bg L x).2]) ∧ Keep [] w w' := by
  obtain ⟨sb, rfl, hqs, ⟨cs, ss, b1, b2, b3, b4, b5, b6⟩, hL, hwt, hlen⟩ := h
  have hxm := Nat.mod_lt x (show 0 < 512 by decide)
  have hxi : (x : Int) % 512 = ((x % 512 : Nat) : Int) := by simp
  have hd : ((x % 512 : Nat) : Int) < 512 := by omega
  rcases b4 (x % 512) hxm with ⟨i, h1, h2, h3, h4, h5, h6, h7⟩ | ⟨h1, h6, h7⟩
  · have hhit : hit L (tr 16 x 0) i := by
      rw [low9 x _ 0 h4] at h5
      exact (hit_bits L x i 0 h2 hL hwt h3).1 h5
    rw [bg_hit L x i hL hhit]
    have c6 := b1.cell _ _ h6
    have c7 := b1.cell _ _ h7
    have hi16 : (i : Int) ≤ 4096 := by omega
    have hp : (0 : Int) < len L i := by omega
    clear hhit h5 h6 h7 b4 b6 b2 b3
    generalize len L i = n at *
    generalize x % 512 = y at *
    go_enter Tryz.func90, Tryz.ntmps90
    have hN := Blk.new w #[.int .i16 i, .int .i16 n] 120
    have KA : Keep [] w (w.alloc (.cells #[.int .i16 i, .int .i16 n] 120)) := (Keep.refl [] w).alloc _
    go_wp2_with fail
    have e0 := hN.cell 0 _ rfl
    have e1 := hN.cell 1 _ rfl
    generalize w.alloc (.cells #[.int .i16 i, .int .i16 n] 120) = wA at e0 e1 KA ⊢
    clear hN
    go_quiet (fail)
    go_wp2_with fail
    go_ret2
    exact ⟨rfl, KA.drewN _⟩
  · have c6 := b1.cell _ _ h6
    have c7 := b1.cell _ _ h7
    have c1 := b1.cell 1 _ b2.2.2.1
    have c53 := b1.cell 53 _ b3
    have HC := Lib.hid (fun n (hn : n < 17) => And.intro (b1.cell _ _ (b2.2.2.2 n hn).1) (And.intro (b1.cell _ _ (b2.2.2.2 n hn).2.1) (b1.cell _ _ (b2.2.2.2 n hn).2.2)))
    have HS := Lib.hid (fun i hi hp => b5.cell _ _ (b6.2 i hi hi hp))
    have HT := Lib.hid (fun w => turn_c x 9 w (by omega))
    have ht9 : turn x 9 = tr 9 x 0 := turn_code x 9 (by omega)
    rw [ht9] at HT
    have HNO : Hid (∀ i, hit L (tr 16 x 0) i → 10 ≤ len L i) := by
      intro i hi
      rcases Nat.lt_or_ge 9 (len L i) with h | h
      · exact h
      · refine absurd ((hit_bits L x i 0 hi.1 hL hwt hi.2.1).2 hi) ?_
        rw [← low9 x _ 0 h]
        exact h1 i hi.1 hi.1 hi.2.1 h
    have HP := Lib.hid (place L x)
    have HB := Lib.hid (fun i => bg_hit L x i hL)
    have HBN := Lib.hid (bg_none L x hL)
    have HTR := Lib.hid (fun k => tr_succ k x 0)
    have HTL := Lib.hid (fun k => tr_lt k x)
    have HLG := Lib.hid (longest_ge L)
    have hlg := longest_le L 16 hL
    have HSL := Lib.hid (syAt_lt L)
    have hsyn := syN_le L hlen hlg
    clear h1 h6 h7 b4 b6 b2 b3 hL hwt ht9
    generalize x % 512 = y at *
    go_enter Tryz.func90, Tryz.ntmps90
    have hN := Blk.new w #[.int .i16 0, .int .i16 0] 120
    have KA : Keep [] w (w.alloc (.cells #[.int .i16 0, .int .i16 0] 120)) := (Keep.refl [] w).alloc _
    go_wp2_with fail
    refine (HT.out _).mono ?_; rintro e w1 ⟨rfl, rfl⟩
    go_wp2_with fail
    generalize w.alloc (.cells #[.int .i16 0, .int .i16 0] 120) = wA at KA ⊢
    clear hN c6 c7
    go_loopw [7, 8] (fun u i wr => ∃ n : Nat, 10 ≤ n ∧ n ≤ 17 ∧ i = .int .i64 n ∧ u = .int .i64 (tr (n - 1) x 0) ∧ Hid (∀ i, hit L (tr 16 x 0) i → n ≤ len L i) ∧ ∃ m, wr = wA.drewN m) (fun _ i _ => 17 - (intOf i).toNat)
    case atStart =>
      have h9 := HTL.out 9
      exact ⟨10, by omega, by omega, rfl, by rw [IntWalk.wrap64_in _ (by omega)], HNO.out, 0, rfl⟩
    case round =>
      obtain ⟨n, hn1, hn2, rfl, rfl, HR, m, rfl⟩ := hrel
      have c1' := KA.cellW c1
      have c53' := KA.cellW c53
      by_cases hlt : n ≤ longest L
      · obtain ⟨d2, d3, d4⟩ := HC.out n (by omega)
        have d2 := KA.cellW d2
        have d3 := KA.cellW d3
        have d4 := KA.cellW d4
        obtain ⟨P1, P2, P3⟩ := HP.out n (by omega) (by omega) HR.out
        have htr := HTR.out (n - 1)
        rw [show n - 1 + 1 = n by omega] at htr
        have ht1 := HTL.out (n - 1)
        have ht16 : 2 ^ (n - 1) ≤ 2 ^ 15 := Nat.pow_le_pow_right (by decide) (by omega)
        have hn0 : (0 : Int) ≤ n - 1 := by omega
        have hsub : ((n : Int) - 1).toNat = n - 1 := by omega
        have hb := bit1 x (n - 1) (by omega)
        have hb2 := Nat.mod_lt (x / 2 ^ (n - 1)) (show 0 < 2 by decide)
        have ho := or1 (tr (n - 1) x 0) (x / 2 ^ (n - 1) % 2) (by omega) hb2
        rw [← htr] at ho
        have hn16 : (n : Int) < 17 := by omega
        generalize x / 2 ^ (n - 1) % 2 = bb at *
        have hw : wrap64 (bb : Int) = bb := IntWalk.wrap64_in _ (by omega)
        have htl := HTL.out n
        have ht17 : 2 ^ n ≤ 2 ^ 16 := Nat.pow_le_pow_right (by decide) (by omega)
        have hsb := sub_in (tr n x 0) (fst L n) (Nat.lt_of_lt_of_le htl (Nat.le_trans ht17 (by decide))) P1
        have hA : IntKind.i64.wrap ((stt L n : Int) + (tr n x 0 - fst L n : Nat)) = (stt L n + (tr n x 0 - fst L n) : Nat) := by
          have := stt_le L n
          have := Nat.mul_le_mul (show n ≤ 17 by omega) hlen
          exact add_in _ _ (by omega) (Nat.lt_of_le_of_lt (Nat.sub_le _ _) (Nat.lt_of_lt_of_le htl (Nat.le_trans ht17 (by decide))))
        have hsc : ((tr n x 0 : Nat) : Int) - (fst L n : Nat) = ((tr n x 0 - fst L n : Nat) : Int) := (Int.ofNat_sub P1).symm
        rw [hsc] at hsb
        have HT2 : Hid (tr n x 0 = tr (n + 1 - 1) x 0) := by unfold Hid; rw [Nat.add_sub_cancel]
        have HP2 := Lib.hid P2
        have HP3 := Lib.hid P3
        have hplu : tr n x 0 - fst L n < 65536 := Nat.lt_of_le_of_lt (Nat.sub_le _ _) (Nat.lt_of_lt_of_le htl (Nat.le_trans ht17 (by decide)))
        have hT1 : tr (n - 1) x 0 < 65536 := by omega
        clear htr ht1 ht16 htl ht17 P1 P2 P3
        generalize hpl : tr n x 0 - fst L n = pl at *
        generalize hT : tr n x 0 = T at *
        generalize fst L n = f at *
        generalize hcn : cnt L n = c at *
        generalize hst : stt L n = st at *
        generalize tr (n - 1) x 0 = T1 at *
        have HST := Lib.hid hst
        have HPL := Lib.hid hpl
        clear hpl hT hcn hst
        clear hw
        by_cases hpc : pl < c
        · obtain ⟨i, i1, i2, i3, i4, i5⟩ := HP2.out hpc
          have HF := Lib.hid (HB.out i i5)
          rw [i3] at HF
          have hsl := HSL.out i i1 i2
          have hcell := KA.cellW (HS.out i i1 i2)
          rw [← i4] at hsl hcell
          have hsi : ((st + pl : Nat) : Int) < syN L := by omega
          have hpci : (pl : Int) < c := by omega
          generalize hsp : st + pl = sp at *
          have HSP := Lib.hid hsp
          clear hsp i1 i2 i3 i4 i5 HP2 HP3 HR hsl hpc
          go_wp2_with fail
          go_quiet (fail)
          go_wp2_with fail
          go_ret2
          rw [HF.out]
          exact ⟨rfl, (KA.drewN _).drewN _⟩
        · have HR2 := Lib.hid (HP3.out (by omega))
          have hpci : ¬ (pl : Int) < c := by omega
          clear HP2 HP3 HR hpc hA
          go_wp2_with fail
          go_roundw
          case rel => exact ⟨n + 1, by omega, by omega, by go_num, by rw [HT2.out], HR2, m, rfl⟩
          case measure => simp [intOf]; omega
      · have HF := Lib.hid (HBN.out (fun i hi => by have := HR.out i hi; have := HLG.out i; omega))
        have hlti : ¬ (n : Int) ≤ longest L := by omega
        clear HR hlt
        go_wp2_with fail
        go_ret2
        rw [HF.out]
        exact ⟨rfl, KA.drewN _⟩
end Go.Proofs.YtibkepjbblfkoaaGreatDoor
namespace Go.Proofs.YtibkepjbblfkoaaGreatDoor
set_option linter.unusedVariables false
set_option linter.unusedSimpArgs false
open Go.ChangeShapes Go.WideShapes Go.ChangeAt Go.RowKit

theorem can_new (w : World) (v : Value) (zs : List Int) (h : Is .i64 w v zs) : Calls Tryz.prog 57 #[v] w fun e w' => ∃ p, e = .returned (.tuple #[.pointer p, .int .i64 (werr zs)]) ∧ Keep [] w w' ∧ (werr zs ≠ 0 → p = none) ∧ (werr zs = 0 → ∃ q bs, p = some ⟨q, 0, none⟩ ∧ Dec w' q bs (Ln zs) ∧ ∀ b ∈ bs, w.heap.size ≤ b) := by
  by_cases h0 : werr zs = 0
  · obtain ⟨hm, hwt⟩ := werr_ok h0
    refine (cannew_ok w v zs h h0).mono ?_
    rintro e w' ⟨q, sb, nb, rfl, k, ⟨cs, ss, m⟩, hq, hs, hne⟩
    refine ⟨_, by rw [h0]; rfl, k, fun h => absurd h0 h, fun _ => ⟨q, [q, sb], rfl, ⟨sb, rfl, hne, ⟨cs, ss, m⟩, may_Ln hm, hwt, by rw [Ln_length]; exact ((may_iff zs).1 hm).1⟩, ?_⟩⟩
    intro b hb
    simp at hb
    rcases hb with rfl | rfl <;> assumption
  · refine (cannew_err w v zs h h0).mono ?_
    rintro e w' ⟨rfl, k⟩
    exact ⟨none, rfl, k, fun _ => rfl, fun h => absurd h h0⟩
/-- a Decoder that New did not make -/
def Plain (w : World) (q : Nat) : Prop := ∃ cs, Blk w q cs 123 ∧ cs[0]? = some (.bool false) ∧ cs[1]? = some (.int .i64 0)
theorem Plain.keep {w w' : World} {q : Nat} {S : List Nat} (h : Plain w q) (k : Keep S w w') (hq : q ∉ S) : Plain w' q := by
  obtain ⟨cs, a, b⟩ := h
  exact ⟨cs, a.keep k hq, b⟩
theorem pz_plain (w : World) (q : Nat) (h : Blk w q pz 123) : Plain w q := ⟨pz, h, by kernel_rfl, by kernel_rfl⟩
theorem can_next_nil (w : World) (p : Option Addr) : Calls Tryz.prog 77 #[.pointer none, .pointer p] w fun e w' => e = .returned (.tuple #[.int .i64 (-1), .int .i64 1]) ∧ Keep [] w w' := by
  go_enter Tryz.func77, Tryz.ntmps77
  go_wp2_with fail
  go_ret2
  exact ⟨rfl, Keep.refl _ _⟩
theorem can_next_plain (w : World) (q : Nat) (p : Option Addr) (h : Plain w q) : Calls Tryz.prog 77 #[.pointer (some ⟨q, 0, none⟩), .pointer p] w fun e w' => e = .returned (.tuple #[.int .i64 (-1), .int .i64 1]) ∧ Keep [] w w' := by
  obtain ⟨cs, b1, b2, b3⟩ := h
  have c0 := b1.cell 0 _ b2
  go_enter Tryz.func77, Tryz.ntmps77
  go_wp2_with fail
  go_ret2
  exact ⟨rfl, Keep.refl _ _⟩
/-- why there is no word -/
def lk (L : List Nat) (s : RS) : Nat := if s.E ≠ 0 then s.E else if s.left < longest L then 3 else 7
theorem lack_nil (w : World) (q : Nat) (bs L : List Nat) (h : Dec w q bs L) : Calls Tryz.prog 91 #[.pointer (some ⟨q, 0, none⟩), .pointer none] w fun e w' => e = .returned (.int .i64 1) ∧ w = w' := by
  go_enter Tryz.func91, Tryz.ntmps91
  go_wp2_with fail
  refine (err_nil _).mono ?_; rintro e w1 ⟨rfl, rfl⟩
  go_wp2_with fail
  go_ret
  exact ⟨rfl, rfl⟩
theorem lack_c (w : World) (q r : Nat) (v : Value) (s : RS) (bs L : List Nat) (h : Dec w q bs L) (hr : Rd w r v s) : Calls Tryz.prog 91 #[.pointer (some ⟨q, 0, none⟩), .pointer (some ⟨r, 0, none⟩)] w fun e w' => e = .returned (.int .i64 (lk L s)) ∧ ∃ n, w' = w.drewN n := by
  obtain ⟨sb, rfl, hqs, ⟨cs, ss, b1, b2, b3, b4, b5, b6⟩, hL, hwt, hlen⟩ := h
  have c1 := b1.cell 1 _ b2.2.2.1
  have HE := Lib.hid (err_c w r v s hr)
  have HL := Lib.hid (fun n => left_c (w.drewN n) r v s (hr.drewN n))
  clear b4 b6 b2 b3
  by_cases hE : s.E = 0
  · have he : ((s.E : Int) != 0) = false := by simp [hE]
    have HK : Hid (lk L s = if s.left < longest L then 3 else 7) := by unfold Hid lk; rw [if_neg (by simpa using hE)]
    clear hE
    by_cases hl : s.left < longest L
    · rw [if_pos hl] at HK
      generalize longest L = lg at *
      generalize s.left = lf at *
      go_enter Tryz.func91, Tryz.ntmps91
      go_wp2_with fail
      refine HE.out.mono ?_; rintro e w1 ⟨rfl, rfl⟩
      go_wp2_with fail
      go_quiet ((go_at_call 73; exact Calls.quiet_of (HL.out _)))
      go_wp2_with fail
      go_ret
      exact ⟨by rw [HK.out]; rfl, _, rfl⟩
    · rw [if_neg hl] at HK
      generalize longest L = lg at *
      generalize s.left = lf at *
      go_enter Tryz.func91, Tryz.ntmps91
      go_wp2_with fail
      refine HE.out.mono ?_; rintro e w1 ⟨rfl, rfl⟩
      go_wp2_with fail
      go_quiet ((go_at_call 73; exact Calls.quiet_of (HL.out _)))
      go_wp2_with fail
      go_ret
      exact ⟨by rw [HK.out]; rfl, _, rfl⟩
  · have he : ((s.E : Int) != 0) = true := by simp; omega
    have HK : Hid (lk L s = s.E) := by unfold Hid lk; rw [if_pos hE]
    clear hE
    generalize s.E = er at *
    go_enter Tryz.func91, Tryz.ntmps91
    go_wp2_with fail
    refine HE.out.mono ?_; rintro e w1 ⟨rfl, rfl⟩
    go_wp2_with fail
    go_ret
    exact ⟨by rw [HK.out]; rfl, 0, rfl⟩
theorem num_low (l : List UInt8) (p a n : Nat) (h : n ≤ a) : num l p a % 2 ^ n = num l p n := by
  have := num_cut l p a n 0 (by omega)
  simpa using this
theorem hit_same (L : List Nat) (l : List UInt8) (p i : Nat) (hL : ∀ y ∈ L, y ≤ 16) (hwt : wt L ≤ 65536) : hit L (tr 16 (num l p (longest L)) 0) i ↔ hit L (tr 16 (num l p 16) 0) i := by
  have hlg := longest_le L 16 hL
  have h1 := longest_ge L i
  constructor
  · intro h
    refine (hit_bits L _ i 0 h.1 hL hwt h.2.1).1 ?_
    rw [num_low l p 16 _ (by omega), ← num_low l p (longest L) _ h1]
    exact (hit_bits L _ i 0 h.1 hL hwt h.2.1).2 h
  · intro h
    refine (hit_bits L _ i 0 h.1 hL hwt h.2.1).1 ?_
    rw [num_low l p (longest L) _ h1, ← num_low l p 16 _ (by omega)]
    exact (hit_bits L _ i 0 h.1 hL hwt h.2.1).2 h
/-- what the decoder finds is what the document picks -/
theorem next_bg (L : List Nat) (s : RS) (h0 : s.E = 0) (hL : ∀ y ∈ L, y ≤ 16) (hwt : wt L ≤ 65536) :
    (∃ i, bg L (num s.l s.pos (longest L)) = (i, len L i) ∧ 0 < len L i ∧ len L i ≤ min (longest L) s.left ∧ s.next L = ((i : Int), 0, { s with pos := s.pos + len L i })) ∨
    (((bg L (num s.l s.pos (longest L))).2 = 0 ∨ min (longest L) s.left < (bg L (num s.l s.pos (longest L))).2) ∧ s.next L = (-1, lk L s, s)) := by
  have hlk : lk L s = if s.left < longest L then 3 else 7 := by unfold lk; rw [if_neg (by omega)]
  by_cases hh : ∃ i, hit L (tr 16 (num s.l s.pos 16) 0) i
  · obtain ⟨i, hi⟩ := hh
    have hb := bg_hit L _ i hL ((hit_same L s.l s.pos i hL hwt).2 hi)
    have hge := longest_ge L i
    by_cases hle : len L i ≤ s.left
    · refine .inl ⟨i, hb, hi.2.1, by omega, RS.next_hit L s h0 i ((pick_some L _ _ i hL).2 ⟨hi, ?_⟩)⟩
      have := hi.2.2.1
      omega
    · refine .inr ⟨.inr (by rw [hb]; show _ < len L i; omega), ?_⟩
      rw [RS.next_none L s h0 ((pick_none L _ _ hL).2 fun k hk => ?_), hlk]
      rw [hit_unique L _ k i hk hi]; omega
  · have hno : ∀ i, ¬ hit L (tr 16 (num s.l s.pos 16) 0) i := fun i hi => hh ⟨i, hi⟩
    have hb := bg_none L (num s.l s.pos (longest L)) hL (fun i hi => hno i ((hit_same L s.l s.pos i hL hwt).1 hi))
    refine .inr ⟨.inl (by rw [hb]), ?_⟩
    rw [RS.next_none L s h0 ((pick_none L _ _ hL).2 fun k hk => absurd hk (hno k)), hlk]
theorem bits_fit (s : RS) (n : Nat) (h0 : s.E = 0) (h32 : n ≤ 32) (hl : n ≤ s.left) : s.bits n = (num s.l s.pos n, { s with pos := s.pos + n }) := by
  unfold RS.bits
  rw [if_neg (by omega), if_neg (by simpa using h0), if_neg (by omega)]
  simp
set_option maxHeartbeats 2000000 in
theorem can_next (w : World) (q r : Nat) (v : Value) (s : RS) (bs L : List Nat) (h : Dec w q bs L) (hr : Rd w r v s) (hd : r ∉ bs) : Calls Tryz.prog 77 #[.pointer (some ⟨q, 0, none⟩), .pointer (some ⟨r, 0, none⟩)] w fun e w' => e = .returned (.tuple #[.int .i64 (s.next L).1, .int .i64 (s.next L).2.1]) ∧ Rd w' r v (s.next L).2.2 ∧ Keep [r] w w' := by
  have hq : ∃ cs, Blk w q cs 123 ∧ Hd cs L := by
    obtain ⟨sb, rfl, hqs, ⟨cs, ss, b1, b2, _⟩, _⟩ := h
    exact ⟨cs, b1, b2⟩
  obtain ⟨hL, hwt⟩ := h.ok
  obtain ⟨cs, b1, b2⟩ := hq
  have c0 := b1.cell 0 _ b2.2.1
  have c1 := b1.cell 1 _ b2.2.2.1
  have hlg := longest_le L 16 hL
  have HB := Lib.hid (fun w' (k : Keep [] w w') x hx => canbegin_c w' q bs L (h.keep k (by simp)) x hx)
  have HK := Lib.hid (fun w' (k : Keep [] w w') => lack_c w' q r v s bs L (h.keep k (by simp)) (hr.keep k (by simp) (by simp)))
  have HR := Lib.hid (fun w' (k : Keep [] w w') => hr.keep k (by simp) (by simp))
  clear b2
  by_cases h0 : s.E = 0
  · have HL := Lib.hid (look_ok w r v s (longest L) hr h0 (by omega))
    have hx := num_lt s.l s.pos (longest L)
    have hx2 : 2 ^ longest L ≤ 2 ^ 16 := Nat.pow_le_pow_right (by decide) hlg
    have hx3 : num s.l s.pos (longest L) < 65536 := Nat.lt_of_lt_of_le hx hx2
    rcases next_bg L s h0 hL hwt with ⟨i, e1, e2, e3, e4⟩ | ⟨e1, e2⟩
    · have HBI := Lib.hid (fun w' (k : Keep [] w w') => bits_c w' r v s (len L i) (HR.out w' k))
      rw [bits_fit s (len L i) h0 (by have := longest_ge L i; omega) (by omega)] at HBI
      have HE4 := Lib.hid e4
      have HE1 := Lib.hid e1
      have hn0 : ((len L i : Int) == 0) = false := by simp; omega
      have hnm : ¬ ((min (longest L) s.left : Nat) : Int) < len L i := by omega
      clear e1 e4 hL hwt h0 hx hx2 e2 e3 hlg h hr b1
      generalize num s.l s.pos (longest L) = x at *
      generalize min (longest L) s.left = mn at *
      generalize len L i = n at *
      generalize longest L = lg at *
      go_enter Tryz.func77, Tryz.ntmps77
      go_wp2_with fail
      refine HL.out.mono ?_; rintro e w1 ⟨rfl, m, rfl⟩
      go_wp2_with fail
      refine (HB.out _ ((Keep.refl _ _).drewN m) x hx3).mono ?_; rintro e w2 ⟨rfl, k2⟩
      rw [HE1.out]
      have K2 := ((Keep.refl [] w).drewN m).trans k2 (by simp)
      go_wp2_with fail
      refine (HBI.out w2 K2).mono ?_; rintro e w3 ⟨rfl, hr3, k3⟩
      go_wp2_with fail
      go_ret2
      rw [HE4.out]
      exact ⟨rfl, hr3, K2.nil.trans k3 (by simp)⟩
    · have HE2 := Lib.hid e2
      generalize hbg : bg L (num s.l s.pos (longest L)) = bb at *
      obtain ⟨i, n⟩ := bb
      have HBG := Lib.hid hbg
      have e1' : n = 0 ∨ min (longest L) s.left < n := e1
      clear hL hwt h0 hx hx2 e2 hlg h hr b1 hbg e1
      generalize num s.l s.pos (longest L) = x at *
      generalize min (longest L) s.left = mn at *
      generalize longest L = lg at *
      go_enter Tryz.func77, Tryz.ntmps77
      go_wp2_with fail
      refine HL.out.mono ?_; rintro e w1 ⟨rfl, m, rfl⟩
      go_wp2_with fail
      refine (HB.out _ ((Keep.refl _ _).drewN m) x hx3).mono ?_; rintro e w2 ⟨rfl, k2⟩
      rw [HBG.out]
      have K2 := ((Keep.refl [] w).drewN m).trans k2 (by simp)
      clear k2 HL HB
      by_cases hn : n = 0
      · subst hn
        clear e1'
        go_wp2_with fail
        refine (HK.out w2 K2).mono ?_; rintro e w3 ⟨rfl, m3, rfl⟩
        go_wp2_with fail
        go_ret2
        rw [HE2.out]
        exact ⟨rfl, (HR.out w2 K2).drewN _, (K2.drewN _).nil⟩
      · have hn0 : ((n : Int) == 0) = false := by simp; omega
        have hmn : (mn : Int) < n := by omega
        clear e1' hn
        go_wp2_with fail
        refine (HK.out w2 K2).mono ?_; rintro e w3 ⟨rfl, m3, rfl⟩
        go_wp2_with fail
        go_ret2
        rw [HE2.out]
        exact ⟨rfl, (HR.out w2 K2).drewN _, (K2.drewN _).nil⟩
  · have HL := Lib.hid (look_err w r v s (longest L) hr h0)
    have HE2 : Hid (s.next L = (-1, lk L s, s)) := by
      have := RS.next_err L s h0
      unfold Hid lk; rw [if_pos h0]; exact this
    generalize hbg : bg L 0 = bb at *
    obtain ⟨i, n⟩ := bb
    have HBG := Lib.hid hbg
    clear hL hwt h0 hlg h hr b1 hbg
    generalize longest L = lg at *
    go_enter Tryz.func77, Tryz.ntmps77
    go_wp2_with fail
    refine HL.out.mono ?_; rintro e w1 ⟨rfl, rfl⟩
    go_wp2_with fail
    refine (HB.out _ (Keep.refl _ _) 0 (by omega)).mono ?_; rintro e w2 ⟨rfl, k2⟩
    rw [HBG.out]
    clear HL HB
    by_cases hn : n = 0
    · subst hn
      go_wp2_with fail
      refine (HK.out w2 k2).mono ?_; rintro e w3 ⟨rfl, m3, rfl⟩
      go_wp2_with fail
      go_ret2
      rw [HE2.out]
      exact ⟨rfl, (HR.out w2 k2).drewN _, (k2.drewN _).nil⟩
    · have hn0 : ((n : Int) == 0) = false := by simp; omega
      have hmn : (0 : Int) < n := by omega
      clear hn
      go_wp2_with fail
      refine (HK.out w2 k2).mono ?_; rintro e w3 ⟨rfl, m3, rfl⟩
      go_wp2_with fail
      go_ret2
      rw [HE2.out]
      exact ⟨rfl, (HR.out w2 k2).drewN _, (k2.drewN _).nil⟩
theorem can_next_nilrd (w : World) (q : Nat) (bs L : List Nat) (h : Dec w q bs L) : Calls Tryz.prog 77 #[.pointer (some ⟨q, 0, none⟩), .pointer none] w fun e w' => e = .returned (.tuple #[.int .i64 (-1), .int .i64 1]) ∧ Keep [] w w' := by
  have hq : ∃ cs, Blk w q cs 123 ∧ Hd cs L := by
    obtain ⟨sb, rfl, hqs, ⟨cs, ss, b1, b2, _⟩, _⟩ := h
    exact ⟨cs, b1, b2⟩
  obtain ⟨cs, b1, b2⟩ := hq
  have c0 := b1.cell 0 _ b2.2.1
  have c1 := b1.cell 1 _ b2.2.2.1
  have HB := Lib.hid (fun w' (k : Keep [] w w') x hx => canbegin_c w' q bs L (h.keep k (by simp)) x hx)
  have HK := Lib.hid (fun w' (k : Keep [] w w') => lack_nil w' q bs L (h.keep k (by simp)))
  have HL := Lib.hid (look_nil w (longest L))
  generalize hbg : bg L 0 = bb at *
  obtain ⟨i, n⟩ := bb
  have HBG := Lib.hid hbg
  clear h b1 hbg b2
  generalize longest L = lg at *
  go_enter Tryz.func77, Tryz.ntmps77
  go_wp2_with fail
  refine HL.out.mono ?_; rintro e w1 ⟨rfl, rfl⟩
  go_wp2_with fail
  refine (HB.out _ (Keep.refl _ _) 0 (by omega)).mono ?_; rintro e w2 ⟨rfl, k2⟩
  rw [HBG.out]
  clear HL HB
  by_cases hn : n = 0
  · subst hn
    go_wp2_with fail
    refine (HK.out w2 k2).mono ?_; rintro e w3 ⟨rfl, rfl⟩
    go_wp2_with fail
    go_ret2
    exact ⟨rfl, k2⟩
  · have hn0 : ((n : Int) == 0) = false := by simp; omega
    have hmn : (0 : Int) < n := by omega
    clear hn
    go_wp2_with fail
    refine (HK.out w2 k2).mono ?_; rintro e w3 ⟨rfl, rfl⟩
    go_wp2_with fail
    go_ret2
    exact ⟨rfl, k2⟩
end Go.Proofs.YtibkepjbblfkoaaGreatDoor
namespace Go.Proofs.YtibkepjbblfkoaaGreatDoor
set_option linter.unusedVariables false
set_option linter.unusedSimpArgs false

/-- how many lengths at the beginning are alike -/
def likeN (x : Int) : List Int → Nat
  | [] => 0
  | y :: l => if y = x then likeN x l + 1 else 0
theorem likeN_le (x : Int) (l : List Int) : likeN x l ≤ l.length := by
  induction l with
  | nil => simp [likeN]
  | cons y l ih => rw [likeN]; split
                   · simp; omega
                   · simp
theorem likeN_take (x : Int) (l : List Int) (n : Nat) (h : n ≤ likeN x l) : l.take n = List.replicate n x := by
  induction l generalizing n with
  | nil => rw [likeN] at h; obtain rfl : n = 0 := by omega
           simp
  | cons y l ih =>
    cases n with
    | zero => simp
    | succ n =>
      rw [likeN] at h
      by_cases e : y = x
      · rw [if_pos e] at h
        rw [List.take_succ_cons, List.replicate_succ, ih n (by omega), e]
      · rw [if_neg e] at h; omega
theorem likeN_at (x : Int) (l : List Int) (j : Nat) (h : ∀ i, i < j → l[i]? = some x) (he : l[j]? ≠ some x) : likeN x l = j := by
  induction l generalizing j with
  | nil =>
    cases j with
    | zero => rfl
    | succ j => have := h 0 (by omega); simp at this
  | cons y l ih =>
    rw [likeN]
    cases j with
    | zero => rw [if_neg (by intro e; exact he (by simp [e]))]
    | succ j =>
      have h0 := h 0 (by omega)
      simp at h0
      rw [if_pos h0, ih j (fun i hi => by simpa using h (i + 1) (by omega)) (by simpa using he)]
/-- the symbol for what lengths begin with, and for how many it stands -/
def beg17 (l : List Int) (last : Int) : Lt × Nat :=
  if l.getD 0 0 = 0 ∧ 11 ≤ likeN (l.getD 0 0) l then (⟨18, min (likeN (l.getD 0 0) l) 138 - 11⟩, min (likeN (l.getD 0 0) l) 138)
  else if l.getD 0 0 = 0 ∧ 3 ≤ likeN (l.getD 0 0) l then (⟨17, min (likeN (l.getD 0 0) l) 10 - 3⟩, min (likeN (l.getD 0 0) l) 10)
  else if l.getD 0 0 = last ∧ 3 ≤ likeN (l.getD 0 0) l then (⟨16, min (likeN (l.getD 0 0) l) 6 - 3⟩, min (likeN (l.getD 0 0) l) 6)
  else (⟨(l.getD 0 0).toNat, 0⟩, 1)
def few17 : Nat → List Int → Int → List Lt
  | 0, _, _ => []
  | F + 1, l, last => if l = [] then [] else (beg17 l last).1 :: few17 F (l.drop (beg17 l last).2) (l.getD 0 0)
theorem beg_ok (l : List Int) (last : Int) (h0 : l ≠ []) (hl : ∀ z ∈ l, 0 ≤ z ∧ z ≤ 15) : (beg17 l last).1.sym < 19 ∧ (beg17 l last).1.x < 2 ^ ltBits (beg17 l last).1.sym ∧ 1 ≤ (beg17 l last).2 ∧ (beg17 l last).2 ≤ l.length ∧ (beg17 l last).1.often = (beg17 l last).2 ∧
    l.take (beg17 l last).2 = List.replicate (beg17 l last).2 (l.getD 0 0) ∧ ((beg17 l last).1.sym = 16 → l.getD 0 0 = last) ∧ (∀ all : List Int, all.getLastD 0 = last ∨ (beg17 l last).1.sym ≠ 16 → what17 all ((beg17 l last).1.sym : Int) = l.getD 0 0) := by
  have hle := likeN_le (l.getD 0 0) l
  have htk := likeN_take (l.getD 0 0) l
  have hz : 0 ≤ l.getD 0 0 ∧ l.getD 0 0 ≤ 15 := by
    cases l with
    | nil => exact absurd rfl h0
    | cons y l => exact hl y (by simp)
  have h1 : 1 ≤ likeN (l.getD 0 0) l := by
    cases l with
    | nil => exact absurd rfl h0
    | cons y l => show 1 ≤ likeN y (y :: l); rw [likeN, if_pos rfl]; omega
  unfold beg17
  generalize l.getD 0 0 = x at *
  generalize likeN x l = k at *
  by_cases c1 : x = 0 ∧ 11 ≤ k
  · rw [if_pos c1]
    obtain ⟨rfl, c1⟩ := c1
    refine ⟨by dsimp only; omega, ?_, by dsimp only; omega, by dsimp only; omega, ?_, htk _ (by dsimp only; omega), fun h => by simp at h, fun all _ => rfl⟩
    · show min k 138 - 11 < 128; omega
    · show 11 + (min k 138 - 11) = min k 138; omega
  · rw [if_neg c1]
    by_cases c2 : x = 0 ∧ 3 ≤ k
    · rw [if_pos c2]
      obtain ⟨rfl, c2⟩ := c2
      refine ⟨by dsimp only; omega, ?_, by dsimp only; omega, by dsimp only; omega, ?_, htk _ (by dsimp only; omega), fun h => by simp at h, fun all _ => rfl⟩
      · show min k 10 - 3 < 8; omega
      · show 3 + (min k 10 - 3) = min k 10; omega
    · rw [if_neg c2]
      by_cases c3 : x = last ∧ 3 ≤ k
      · rw [if_pos c3]
        refine ⟨by dsimp only; omega, ?_, by dsimp only; omega, by dsimp only; omega, ?_, htk _ (by dsimp only; omega), fun _ => c3.1, fun all h => ?_⟩
        · show min k 6 - 3 < 4; omega
        · show 3 + (min k 6 - 3) = min k 6; omega
        · rcases h with h | h
          · show all.getLastD 0 = x; rw [h, c3.1]
          · exact absurd rfl h
      · rw [if_neg c3]
        refine ⟨by dsimp only; omega, by dsimp only; exact Nat.two_pow_pos _, Nat.le_refl _, by dsimp only; omega, ?_, htk 1 h1, fun h => ?_, fun all _ => ?_⟩
        · unfold Lt.often; dsimp only; rw [if_neg (by omega), if_neg (by omega), if_neg (by omega)]
        · dsimp only at h; omega
        · unfold what17; dsimp only; rw [if_neg (by omega), if_neg (by omega)]; omega
theorem getLastD_rep (all : List Int) (n : Nat) (x : Int) (h : 1 ≤ n) : (all ++ List.replicate n x).getLastD 0 = x := by
  obtain ⟨m, rfl⟩ : ∃ m, n = m + 1 := ⟨n - 1, by omega⟩
  rw [List.replicate_succ', ← List.append_assoc]
  simp
/-- what is told by the tokens is what they were made of -/
theorem few_exp (F : Nat) (l : List Int) (last : Int) (all : List Int) (hF : l.length ≤ F) (hl : ∀ z ∈ l, 0 ≤ z ∧ z ≤ 15) (h1 : all ≠ [] → all.getLastD 0 = last) (h0 : all = [] → last = -1) :
    exp17 all (few17 F l last) = all ++ l ∧ (∀ t ∈ few17 F l last, t.sym < 19 ∧ t.x < 2 ^ ltBits t.sym) ∧ (all = [] → ∀ t, (few17 F l last).head? = some t → t.sym ≠ 16) := by
  induction F generalizing l last all with
  | zero =>
    obtain rfl : l = [] := List.eq_nil_of_length_eq_zero (by omega)
    exact ⟨by simp [few17, exp17], by simp [few17], by simp [few17]⟩
  | succ F ih =>
    rw [few17]
    by_cases hn : l = []
    · subst hn
      rw [if_pos rfl]
      exact ⟨by simp [exp17], by simp, by simp⟩
    · rw [if_neg hn]
      obtain ⟨b1, b2, b3, b4, b5, b6, b7, b8⟩ := beg_ok l last hn hl
      have hx : 0 ≤ l.getD 0 0 := by
        cases l with
        | nil => exact absurd rfl hn
        | cons y l => exact (hl y (by simp)).1
      generalize (beg17 l last).1 = t at *
      generalize (beg17 l last).2 = n at *
      have hw : what17 all (t.sym : Int) = l.getD 0 0 := by
        refine b8 all ?_
        by_cases e : all = []
        · refine .inr (fun h => ?_)
          have e1 := b7 h
          have e2 := h0 e
          omega
        · exact .inl (h1 e)
      obtain ⟨i1, i2, i3⟩ := ih (l.drop n) (l.getD 0 0) (all ++ List.replicate n (l.getD 0 0)) (by rw [List.length_drop]; omega) (fun z hz => hl z (List.mem_of_mem_drop hz)) (fun _ => getLastD_rep _ _ _ b3)
        (fun e => by have := congrArg List.length e; simp at this; omega)
      refine ⟨?_, ?_, ?_⟩
      · rw [exp17, b5, hw, i1, List.append_assoc, ← b6, List.take_append_drop]
      · intro u hu
        rcases List.mem_cons.1 hu with rfl | hu
        · exact ⟨b1, b2⟩
        · exact i2 u hu
      · intro e u hu
        simp at hu
        subst hu
        intro h
        have e1 := b7 h
        have e2 := h0 e
        omega
/-- tokens that stand for no length alone tell noughts -/
theorem exp17_zero (all : List Int) (ts : List Lt) (h : ∀ t ∈ ts, 16 ≤ t.sym ∧ t.sym < 19) (ha : ∀ z ∈ all, z = 0) : ∀ z ∈ exp17 all ts, z = 0 := by
  induction ts generalizing all with
  | nil => exact ha
  | cons t ts ih =>
    rw [exp17]
    refine ih _ (fun u hu => h u (by simp [hu])) (fun z hz => ?_)
    rcases List.mem_append.1 hz with hz | hz
    · exact ha z hz
    · have hz := (List.mem_replicate.1 hz).2
      have ht := h t (by simp)
      rw [hz]
      unfold what17
      by_cases e : (t.sym : Int) = 16
      · rw [if_pos e]
        cases hl : all.getLast? with
        | none => rw [List.getLastD_eq_getLast?, hl]; rfl
        | some y => rw [List.getLastD_eq_getLast?, hl]; exact ha y (List.mem_of_getLast? hl)
      · rw [if_neg e, if_pos (by omega)]
/-- tokens of one symbol that is a length tell that alone -/
theorem exp17_same (all : List Int) (ts : List Lt) (s : Nat) (hs : s < 16) (h : ∀ t ∈ ts, t.sym = s) : exp17 all ts = all ++ List.replicate ts.length (s : Int) := by
  induction ts generalizing all with
  | nil => simp [exp17]
  | cons t ts ih =>
    have ht := h t (by simp)
    have ho : t.often = 1 := by unfold Lt.often; rw [if_neg (by omega), if_neg (by omega), if_neg (by omega)]
    have hw : what17 all (t.sym : Int) = s := by unfold what17; rw [if_neg (by omega), if_neg (by omega)]; omega
    rw [exp17, ho, hw, ih _ (fun u hu => h u (by simp [hu])), List.append_assoc, List.length_cons]
    congr 1
/-- how often a symbol comes -/
def cnt17 (ts : List Lt) : List Int := (List.range 19).map fun s => ((ts.countP fun t => t.sym == s : Nat) : Int)
theorem cnt17_len (ts : List Lt) : (cnt17 ts).length = 19 := by simp [cnt17]
theorem cnt17_at (ts : List Lt) (s : Nat) (h : s < 19) : (cnt17 ts).getD s 0 = ((ts.countP fun t => t.sym == s : Nat) : Int) := by
  rw [List.getD_eq_getElem?_getD, List.getElem?_eq_getElem (by rw [cnt17_len]; exact h)]; simp [cnt17]
theorem ct_two (p : Nat → Bool) (N i j : Nat) (hij : i < j) (hj : j < N) (pi : p i = true) (pj : p j = true) : 2 ≤ ct p N := by
  have h1 : ∀ a b, a ≤ b → ct p a ≤ ct p b := fun a b h => sm_mono _ a b h
  have h2 : ct p (i + 1) = ct p i + 1 := by rw [ct_succ, pi]; rfl
  have h3 : ct p (j + 1) = ct p j + 1 := by rw [ct_succ, pj]; rfl
  have := h1 (i + 1) j hij
  have := h1 (j + 1) N hj
  omega
/-- how many lengths of the third code stand there -/
def thN (T : List Int) : Nat → Nat
  | 0 => 0
  | n + 1 => if T.getD (ordD.getD n 0) 0 = 0 then thN T n else n + 1
theorem thN_le (T : List Int) (n : Nat) : thN T n ≤ n := by
  induction n with
  | zero => exact Nat.le_refl _
  | succ n ih => rw [thN]; split <;> omega
theorem thN_zero (T : List Int) (n i : Nat) (h1 : thN T n ≤ i) (h2 : i < n) : T.getD (ordD.getD i 0) 0 = 0 := by
  induction n with
  | zero => omega
  | succ n ih =>
    rw [thN] at h1
    by_cases h : T.getD (ordD.getD n 0) 0 = 0
    · rw [if_pos h] at h1
      by_cases e : i = n
      · rw [e]; exact h
      · exact ih h1 (by omega)
    · rw [if_neg h] at h1; omega
theorem thN_ge (T : List Int) (n i : Nat) (h : i < n) (h0 : T.getD (ordD.getD i 0) 0 ≠ 0) : i < thN T n := by
  rcases Nat.lt_or_ge i (thN T n) with g | g
  · exact g
  · exact absurd (thN_zero T n i g h) h0
theorem ordD_late : ∀ s : Fin 16, ∃ i : Fin 19, 3 ≤ i.val ∧ ordD.getD i.val 0 = s.val := by decide
/-- lists that are right have two symbols at least, one of which is a length above 0 -/
theorem few_two (l d : List Int) (ts : List Lt) (h : right17 l d true = true) (he : exp17 [] ts = l ++ d) (h19 : ∀ t ∈ ts, t.sym < 19) : (∃ t ∈ ts, t.sym < 16) ∧ ∃ t ∈ ts, ∃ u ∈ ts, t.sym < u.sym := by
  unfold right17 at h
  simp only [Bool.and_eq_true, decide_eq_true_eq] at h
  obtain ⟨⟨a1, a2, a3, a4⟩, a5, a6, a7⟩ := h
  have hm : l.getD 256 0 = l[256]'(by omega) := by rw [List.getD_eq_getElem?_getD, List.getElem?_eq_getElem (by omega)]; rfl
  rw [hm] at a5
  have hp : ∃ t ∈ ts, t.sym < 16 := by
    refine Classical.byContradiction fun hno => ?_
    have := exp17_zero [] ts (fun t ht => ⟨by
      refine Classical.byContradiction fun hlt => hno ⟨t, ht, by omega⟩, h19 t ht⟩) (by simp) (l[256]'(by omega)) (by rw [he]; exact List.mem_append_left _ (List.getElem_mem _))
    omega
  refine ⟨hp, Classical.byContradiction fun hno => ?_⟩
  obtain ⟨t, ht, hs⟩ := hp
  have hall : ∀ u ∈ ts, u.sym = t.sym := fun u hu => by
    refine Classical.byContradiction fun hne => ?_
    rcases Nat.lt_or_ge t.sym u.sym with g | g
    · exact hno ⟨t, ht, u, hu, g⟩
    · exact hno ⟨u, hu, t, ht, by omega⟩
  have hsame := exp17_same [] ts t.sym hs hall
  rw [he, List.nil_append] at hsame
  have hl : l = List.replicate l.length (t.sym : Int) := by
    rw [List.eq_replicate_iff]
    refine ⟨rfl, fun z hz => ?_⟩
    have : z ∈ l ++ d := List.mem_append_left _ hz
    rw [hsame] at this
    exact (List.mem_replicate.1 this).2
  have hs0 : 0 < t.sym := by
    have h1 : l[256]'(by omega) ∈ List.replicate l.length (t.sym : Int) := hl ▸ List.getElem_mem _
    have := (List.mem_replicate.1 h1).2
    omega
  clear a5 hm he hsame hall hno
  generalize t.sym = s at *
  generalize hn : l.length = n at *
  have hword : l.countP (fun z => decide (0 < z)) = n := by
    rw [hl, List.countP_replicate, if_pos (by simpa using hs0)]
  unfold whole17 at a6
  rw [Bool.and_eq_true] at a6
  obtain ⟨_, a6⟩ := a6
  rw [hword, if_neg (by omega), Bool.or_eq_true, Bool.and_eq_true, decide_eq_true_eq, decide_eq_true_eq] at a6
  rcases a6 with a6 | a6
  · omega
  · obtain ⟨_, hw⟩ := chk_one (by simpa using a6)
    have hLn : Ln l = List.replicate n s := by
      rw [hl]; unfold Ln; rw [List.map_replicate]; rfl
    have hwt : wt (Ln l) = n * 2 ^ (16 - s) := by
      rw [hLn]; unfold wt; rw [List.map_replicate, List.sum_replicate_nat]; unfold wt1; rw [if_neg (by omega)]
    rw [hwt] at hw
    have hs' : s ≤ 15 := by omega
    have : ∀ s : Fin 16, ∀ k : Fin 30, (257 + k.val) * 2 ^ (16 - s.val) ≠ 65536 := by decide +kernel
    exact this ⟨s, by omega⟩ ⟨n - 257, by omega⟩ (by rw [show 257 + (n - 257) = n by omega]; exact hw)
end Go.Proofs.YtibkepjbblfkoaaGreatDoor
