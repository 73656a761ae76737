/- Contracts of canon.Check and canon.Codes. -/
import Derived.Test.YtdhdfedbhanijaaCan1
namespace Go.Proofs.Ytdhdfedbhanijaa
set_option linter.unusedVariables false
set_option linter.unusedSimpArgs false
open Go.ChangeShapes Go.WideShapes Go.ChangeAt Go.RowKit

set_option maxHeartbeats 2000000 in
theorem can_check (w : World) (v : Value) (zs : List Int) (h : Is .i64 w v zs) : Calls Try.prog 13 #[v] w fun e w' => e = .returned (.int .i64 (chk zs)) ∧ Keep [] w w' := by
  have HM := Lib.hid (maybe_c w v zs h)
  cases hm : mayB zs with
  | false =>
    have HC := Lib.hid (chk_bad hm)
    go_enter Try.func13, Try.ntmps13
    go_wp2_with fail
    refine HM.out.mono ?_; rintro e w1 ⟨rfl, n, rfl⟩
    rw [hm]
    go_wp2_with fail
    go_ret
    exact ⟨by rw [HC.out]; rfl, (Keep.refl [] w).drewN n⟩
  | true =>
    have HK := Lib.hid (fun n => counts_c (w.drewN n) v zs (h.drewN n) hm)
    have HW := Lib.hid (fun w => weight_c w (Ln zs) (acc_le zs hm) (by rw [Ln_length]; exact ((may_iff zs).1 hm).1))
    have HY := Lib.hid (acc16 (Ln zs) (may_Ln hm))
    have HC : Hid (chk zs = if wt (Ln zs) = 0 then 4 else if 65536 < wt (Ln zs) then 2 else if wt (Ln zs) < 65536 then 3 else 1) := by
      unfold Hid chk; rw [hm]; rfl
    have hle := acc_le zs hm 16 (by omega)
    rw [HY.out] at hle
    go_enter Try.func13, Try.ntmps13
    go_wp2_with fail
    refine HM.out.mono ?_; rintro e w1 ⟨rfl, n, rfl⟩
    rw [hm]
    clear hm
    go_wp2_with fail
    refine (HK.out n).mono ?_; rintro e w1 ⟨rfl, k1⟩
    have K1 := ((Keep.refl [] w).drewN n).trans k1 (by simp)
    go_wp2_with fail
    refine (HW.out w1).mono ?_; rintro e w2 ⟨rfl, k2⟩
    have K2 := K1.trans k2 (by simp)
    rw [HY.out]
    generalize wt (Ln zs) = y at HC hle
    clear HM HK HW HY k1 k2 K1 h
    by_cases h0 : y = 0
    · rw [if_pos h0] at HC
      subst h0
      go_wp2_with fail
      go_ret
      exact ⟨by rw [HC.out]; rfl, K2⟩
    rw [if_neg h0] at HC
    have b0 : ((y : Int) == 0) = false := by simp; omega
    by_cases h1 : 65536 < y
    · rw [if_pos h1] at HC
      have b1 : decide ((y : Int) < 65536) = false := by simp; omega
      have b2 : ((y : Int) == 65536) = false := by simp; omega
      clear h0 h1
      go_wp2_with fail
      go_ret
      exact ⟨by rw [HC.out]; rfl, K2⟩
    rw [if_neg h1] at HC
    by_cases h2 : y < 65536
    · rw [if_pos h2] at HC
      have b2 : decide ((y : Int) < 65536) = true := by simp; omega
      clear h0 h1 h2
      go_wp2_with fail
      go_ret
      exact ⟨by rw [HC.out]; rfl, K2⟩
    rw [if_neg h2] at HC
    obtain rfl : y = 65536 := by omega
    clear h0 h1 h2
    go_wp2_with fail
    go_ret
    exact ⟨by rw [HC.out]; rfl, K2⟩
/-- the next word of each length, k symbols on -/
def nx (L : List Nat) (k n : Nat) : Nat := if n = 0 then 0 else fst L n + (L.take k).count n
theorem nx_zero (L : List Nat) : BL (nx L 0) = BL (fst L) := by
  congr 1; funext n
  unfold nx
  split
  · rename_i h; subst h; rfl
  · simp
theorem nx_skip (L : List Nat) (k : Nat) (hk : k < L.length) (h : len L k = 0) : nx L (k + 1) = nx L k := by
  funext n
  unfold nx
  by_cases h0 : n = 0
  · rw [if_pos h0, if_pos h0]
  · rw [if_neg h0, if_neg h0, List.take_succ_eq_append_getElem hk, List.count_append, ← len_get L k hk, h]
    simp [List.count_cons, Ne.symm h0]
theorem nx_take (L : List Nat) (k : Nat) (hk : k < L.length) (h : 0 < len L k) : (fun i => if i = len L k then wd L k + 1 else nx L k i) = nx L (k + 1) := by
  funext n
  unfold nx
  rw [List.take_succ_eq_append_getElem hk, List.count_append, ← len_get L k hk]
  by_cases h0 : n = len L k
  · subst h0
    rw [if_pos rfl, if_neg (by omega)]
    simp [wd, rk]; omega
  · rw [if_neg h0]
    by_cases h1 : n = 0
    · rw [if_pos h1, if_pos h1]
    · rw [if_neg h1, if_neg h1]
      simp [List.count_cons, Ne.symm h0]
theorem nx_at (L : List Nat) (k : Nat) (h : 0 < len L k) : nx L k (len L k) = wd L k := by unfold nx; rw [if_neg (by omega)]; rfl
/-- the row's cells, k symbols on -/
def CsK (cs : Array Value) (L : List Nat) (k : Nat) : Prop := cs.size = L.length * 2 ∧ ∀ j, j < L.length → cs[j * 2]? = some (.int .u32 (if j < k then (code L j : Int) else 0)) ∧ cs[j * 2 + 1]? = some (.int .i64 (if j < k then (len L j : Int) else 0))
theorem CsK.made (L : List Nat) : CsK (madeCells #[.int .u32 0, .int .i64 0] (L.length * 2)) L 0 := by
  refine ⟨by rw [size_madeCells], fun j hj => ?_⟩
  rw [if_neg (by omega), if_neg (by omega)]
  unfold madeCells
  have e1 : j * 2 % 2 = 0 := by omega
  have e2 : (j * 2 + 1) % 2 = 1 := by omega
  constructor
  · rw [Array.getElem?_map, Array.getElem?_range, if_pos (by omega)]; simp
  · rw [Array.getElem?_map, Array.getElem?_range, if_pos (by omega)]; simp [e2]
theorem CsK.skip {cs : Array Value} {L : List Nat} {k : Nat} (h : CsK cs L k) (h0 : len L k = 0) : CsK cs L (k + 1) := by
  refine ⟨h.1, fun j hj => ?_⟩
  have h1 := h.2 j hj
  by_cases e : j = k
  · subst e
    rw [if_neg (by omega), if_neg (by omega)] at h1
    rw [if_pos (by omega), if_pos (by omega)]
    simpa [code, h0, tr] using h1
  · have : (j < k + 1) = (j < k) := by simp; omega
    simpa only [this] using h1
theorem CsK.take {cs : Array Value} {L : List Nat} {k : Nat} (h : CsK cs L k) (hk : k < L.length) :
    CsK ((cs.setIfInBounds (k * 2) (.int .u32 (code L k))).setIfInBounds (k * 2 + 1) (.int .i64 (len L k))) L (k + 1) := by
  refine ⟨by simpa using h.1, fun j hj => ?_⟩
  have hs := h.1
  simp only [Array.getElem?_setIfInBounds, Array.size_setIfInBounds]
  by_cases e : j = k
  · subst e
    simp [hs]
    omega
  · have a1 : ¬ k * 2 + 1 = j * 2 := by omega
    have a2 : ¬ k * 2 = j * 2 := by omega
    have a3 : ¬ k * 2 + 1 = j * 2 + 1 := by omega
    have a4 : ¬ k * 2 = j * 2 + 1 := by omega
    have h1 := h.2 j hj
    have : (j < k + 1) = (j < k) := by simp; omega
    simp only [if_neg a1, if_neg a2, if_neg a3, if_neg a4, this]
    exact h1
theorem CsK.cds {w : World} {b : Nat} {cs : Array Value} {L : List Nat} (hb : Blk w b cs 56) (h : CsK cs L L.length) (hm : L.length ≤ maxLen) : Cds w (.slice (some ⟨b, 0, none⟩) L.length L.length) L := by
  refine ⟨_, _, rfl, Nat.le_refl _, hm, by simp, ?_⟩
  intro x hx i hi j hj
  obtain rfl : _ = x := Option.some.inj hx
  have h1 := h.2 i hi
  rw [if_pos hi, if_pos hi] at h1
  have e : ∀ m, ((⟨b, 0, none⟩ : Addr).add m) = ⟨b, m, none⟩ := fun m => by cases m <;> simp [Addr.add]
  rw [e]
  obtain rfl | rfl : j = 0 ∨ j = 1 := by omega
  · rw [Nat.add_zero, hb.cell (i * 2) _ h1.1]; simp
  · rw [hb.cell (i * 2 + 1) _ h1.2]; simp
set_option maxHeartbeats 2000000 in
theorem codes_err (w : World) (v : Value) (zs : List Int) (h : Is .i64 w v zs) (h0 : werr zs ≠ 0) : Calls Try.prog 10 #[v] w fun e w' => e = .returned (.tuple #[.slice none 0 0, .int .i64 (werr zs)]) ∧ Keep [] w w' := by
  have HC := Lib.hid (can_check w v zs h)
  by_cases h5 : chk zs = 5
  · have n5 : (((chk zs : Nat) : Int) == 5) = true := by simp; omega
    have hw : Hid (werr zs = 2) := by unfold Hid werr; rw [if_pos h5]
    generalize chk zs = ck at n5 HC
    clear h5 h h0
    go_enter Try.func10, Try.ntmps10
    go_wp2_with fail
    refine HC.out.mono ?_; rintro e w1 ⟨rfl, k1⟩
    go_wp2_with fail
    go_ret2
    exact ⟨by rw [hw.out]; rfl, k1⟩
  · have h2 : chk zs = 2 := by
      unfold werr at h0
      rw [if_neg h5] at h0
      by_cases e : chk zs = 2
      · exact e
      · rw [if_neg e] at h0; omega
    have n5 : (((chk zs : Nat) : Int) == 5) = false := by simp; omega
    have n2 : (((chk zs : Nat) : Int) == 2) = true := by simp; omega
    have hw : Hid (werr zs = 6) := by unfold Hid werr; rw [if_neg h5, if_pos h2]
    generalize chk zs = ck at n5 n2 HC
    clear h5 h2 h h0
    go_enter Try.func10, Try.ntmps10
    go_wp2_with fail
    refine HC.out.mono ?_; rintro e w1 ⟨rfl, k1⟩
    go_wp2_with fail
    go_ret2
    exact ⟨by rw [hw.out]; rfl, k1⟩
set_option maxRecDepth 100000 in
set_option maxHeartbeats 4000000 in
theorem codes_ok (w : World) (v : Value) (zs : List Int) (h : Is .i64 w v zs) (h0 : werr zs = 0) : Calls Try.prog 10 #[v] w fun e w' => ∃ v', e = .returned (.tuple #[v', .int .i64 0]) ∧ Cds w' v' (Ln zs) ∧ Keep [] w w' ∧ ∀ b, v'.ownBlock = some b → w.heap.size ≤ b := by
  obtain ⟨hm, hwt⟩ := werr_ok h0
  have hL := may_Ln hm
  have hlen : zs.length ≤ 4096 := ((may_iff zs).1 hm).1
  have HG := Lib.hid (fun i hi => may_get hm i hi)
  have n5 : (((chk zs : Nat) : Int) == 5) = false := by
    by_cases e : chk zs = 5
    · unfold werr at h0; rw [if_pos e] at h0; omega
    · simp; omega
  have n2 : (((chk zs : Nat) : Int) == 2) = false := by
    by_cases e : chk zs = 2
    · unfold werr at h0; rw [e] at h0; simp at h0
    · simp; omega
  have hN := Ln_length zs
  have HC := Lib.hid (can_check w v zs h)
  have HK := Lib.hid (fun w1 (k : Keep [] w w1) => counts_c w1 v zs (h.keep k (by simp)) hm)
  have HF := Lib.hid (fun w => firsts_c w (Ln zs) (fst_le zs hm) (by rw [hN]; exact hlen))
  have hmk := fun w' => run_make_codes w' zs.length hlen
  have HI := Lib.hid (fun i hi => h.at i hi)
  have HWL := Lib.hid (fun i hi => wd_lt (Ln zs) i hi hL hwt)
  have hz := (zero_of_info (P := Try.prog) lenInfo).1
  rw [← BL_zero] at hz
  generalize hZ : BL (fun _ => 0) = Z at hz
  have hz17 : Z.size = 17 := by rw [← hZ, BL_size]
  clear hZ
  obtain ⟨a, cap, rfl, _, _⟩ := h.shape
  generalize chk zs = ck at n5 n2 HC
  generalize Ln zs = L at hL hwt HG hN HK HF HWL ⊢
  have HN := Lib.hid hN; clear hN hm h0 h hL hwt
  go_enter Try.func10, Try.ntmps10
  go_wp2_with fail
  refine HC.out.mono ?_; rintro e w1 ⟨rfl, k1⟩
  go_wp2_with fail
  refine (HK.out _ k1).mono ?_; rintro e w2 ⟨rfl, k2⟩
  have K2 := k1.trans k2 (by simp)
  go_wp2_with fail
  refine (HF.out w2).mono ?_; rintro e w3 ⟨rfl, k3⟩
  have K3 := K2.trans k3 (by simp)
  clear k1 k2 k3 K2
  have hb0 := Blk.new w3 Z 64
  go_wp2_with (refine wpList_storeL rfl _ _ rfl _ _ rfl rfl _ _ hb0 hz17 ?_)
  have hb1 := (hb0.setRow (BL (fst L))).alloc (.cells (madeCells #[.int .u32 0, .int .i64 0] (zs.length * 2)) 56)
  have hb2 : Blk (((w3.alloc (.cells Z 64)).setRow w3.heap.size (BL (fst L))).alloc (.cells (madeCells #[.int .u32 0, .int .i64 0] (zs.length * 2)) 56)) (w3.heap.size + 1) (madeCells #[.int .u32 0, .int .i64 0] (zs.length * 2)) 56 := by
    have := Blk.new ((w3.alloc (.cells Z 64)).setRow w3.heap.size (BL (fst L))) (madeCells #[.int .u32 0, .int .i64 0] (zs.length * 2)) 56
    simpa using this
  have K4 : Keep [] w (((w3.alloc (.cells Z 64)).setRow w3.heap.size (BL (fst L))).alloc (.cells (madeCells #[.int .u32 0, .int .i64 0] (zs.length * 2)) 56)) :=
    ((K3.alloc _).trans (Keep.setRow _) (fun x hx => .inr (by simp at hx; have := K3.size; omega))).alloc _
  generalize ((w3.alloc (.cells Z 64)).setRow w3.heap.size (BL (fst L))).alloc (.cells (madeCells #[.int .u32 0, .int .i64 0] (zs.length * 2)) 56) = w4 at hb1 hb2 K4 ⊢
  have hg0 := K3.size
  have HCM := Lib.hid (CsK.made L)
  clear hb0 K3
  generalize w3.heap.size = nb at hb1 hb2 hg0 ⊢
  go_loopw [22] (fun i wr => ∃ (k : Nat) (cs : Array Value), k ≤ zs.length ∧ i = .int .i64 k ∧ Blk wr nb (BL (nx L k)) 64 ∧ Blk wr (nb + 1) cs 56 ∧ Hid (CsK cs L k) ∧ Keep [] w wr) (fun i _ => zs.length - (intOf i).toNat)
  case atStart => exact ⟨0, _, by omega, rfl, by rw [nx_zero]; exact hb1, hb2, by have := HCM.out; rw [HN.out] at this; exact this, K4⟩
  case round =>
    clear hb1 hb2 K4
    obtain ⟨k, cs, hk, rfl, hb1, hb2, HCs, K⟩ := hrel
    by_cases hlt : k < zs.length
    · obtain ⟨b, off, cap', hv, e1⟩ := HI.out k hlt
      simp only [Value.slice.injEq] at hv
      obtain ⟨rfl, hvv, rfl⟩ := hv
      clear hvv
      obtain ⟨g1, g2⟩ := HG.out k hlt
      rw [g1] at e1
      have e2 := K.cellW e1
      have hkL : k < L.length := by rw [HN.out]; exact hlt
      clear g1 e1
      by_cases h0 : len L k = 0
      · have hs := nx_skip L k hkL h0
        have HC2 : Hid (CsK cs L (k + 1)) := HCs.out.skip h0
        rw [← hs] at hb1
        rw [h0] at e2
        clear hs h0 HCs g2
        go_wp2_with fail
        go_roundw
        case rel => exact ⟨k + 1, cs, by omega, by go_num, hb1, hb2, HC2, K⟩
        case measure => simp [intOf]; omega
      · have hpos : 0 < len L k := by omega
        have hwl := HWL.out k hkL hpos
        have hw2 : wd L k < 65536 := Nat.lt_of_lt_of_le hwl (Nat.pow_le_pow_right (by decide) g2)
        have c0 := hb1.cell (len L k) _ (BL_get _ _ (by omega))
        rw [nx_at L k hpos] at c0
        have f0 := hb1.free (len L k)
        have HNX : Hid ((fun i => if i = len L k then wd L k + 1 else nx L k i) = nx L (k + 1)) := nx_take L k hkL hpos
        have hg1 : w.heap.size ≤ nb + 1 := by omega
        have ht := turn_code (wd L k) (len L k) g2
        have HT := Lib.hid (fun w => turn_c (wd L k) (len L k) w (by omega))
        rw [ht, show tr (len L k) (wd L k) 0 = code L k from rfl] at HT
        have hsz := HCs.out.1
        have HC2 : Hid (CsK _ L (k + 1)) := HCs.out.take hkL
        have s0 : k * 2 < cs.size := by rw [hsz]; omega
        have s1 : k * 2 + 1 < cs.size := by rw [hsz]; omega
        have d0 := hb2.cell (k * 2) _ (Array.getElem?_eq_getElem s0)
        have d1 := hb2.cell (k * 2 + 1) _ (Array.getElem?_eq_getElem s1)
        have p0 := hb2.free (k * 2)
        have p1 := hb2.free (k * 2 + 1)
        have hm1 : (0 : Int) < len L k := by omega
        generalize hzz : len L k = z at *
        generalize hyy : wd L k = y at *
        generalize hcc : code L k = cd at *
        clear ht hwl hsz HCs hzz hyy hcc h0
        go_wp2_with fail
        refine (HT.out _).mono ?_; rintro e w6 ⟨rfl, rfl⟩
        go_wp2_with fail
        go_roundw
        case rel =>
          refine ⟨k + 1, _, by omega, by go_num, ?_, ?_, HC2, ((K.setCell (.inr hg1) _).setCell (.inr hg1) _).setCell (.inr hg0) _⟩
          · have := ((hb1.other (p := ⟨nb + 1, k * 2, none⟩) (by simp) (.int .u32 cd)).other (p := ⟨nb + 1, k * 2 + 1, none⟩) (by simp) (.int .i64 z)).set z (.int .i64 (y + 1 : Nat))
            rw [BL_set _ _ _ (by omega), HNX.out] at this
            exact this
          · exact ((hb2.set (k * 2) (.int .u32 cd)).set (k * 2 + 1) (.int .i64 z)).other (p := ⟨nb, z, none⟩) (by simp) _
        case measure => simp [intOf]; omega
    · obtain rfl : k = zs.length := by omega
      have hcds := CsK.cds (L := L) hb2 (by rw [HN.out]; exact HCs.out) (by rw [HN.out]; unfold maxLen; omega)
      rw [HN.out] at hcds
      go_wp2_with fail
      go_ret2
      exact ⟨_, rfl, hcds, K, fun b hb => by simp [Value.ownBlock] at hb; omega⟩
theorem can_codes (w : World) (v : Value) (zs : List Int) (h : Is .i64 w v zs) : Calls Try.prog 10 #[v] w fun e w' => ∃ v', e = .returned (.tuple #[v', .int .i64 (werr zs)]) ∧ Cds w' v' (Lw zs) ∧ Keep [] w w' ∧ (∀ b, v'.ownBlock = some b → w.heap.size ≤ b) ∧ (werr zs ≠ 0 → v' = .slice none 0 0) := by
  unfold Lw
  by_cases h0 : werr zs = 0
  · rw [if_pos h0]
    refine (codes_ok w v zs h h0).mono ?_
    rintro e w' ⟨v', rfl, a, b, c⟩
    exact ⟨v', by rw [h0]; rfl, a, b, c, fun h => absurd h0 h⟩
  · rw [if_neg h0]
    refine (codes_err w v zs h h0).mono ?_
    rintro e w' ⟨rfl, b⟩
    exact ⟨_, rfl, Cds.nix _, b, by simp [Value.ownBlock], fun _ => rfl⟩
end Go.Proofs.Ytdhdfedbhanijaa
