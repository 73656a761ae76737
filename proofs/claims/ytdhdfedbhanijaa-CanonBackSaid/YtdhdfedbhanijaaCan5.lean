/- Contract of canon.New. -/
import Derived.Test.YtdhdfedbhanijaaCan4
import Derived.BigRegion
namespace Go.Proofs.Ytdhdfedbhanijaa
set_option linter.unusedVariables false
set_option linter.unusedSimpArgs false
open Go.ChangeShapes Go.WideShapes Go.ChangeAt Go.RowKit

theorem infoInt : (Try.prog.info? 3).map (fun i => (i.zero.map (·.cells), i.size, i.bytes)) = some (some #[.int .i64 0], 1, 8) := by kernel_rfl
theorem run_make_ints (w : World) (n : Nat) (hn : n ≤ 100000) : (Instr.makeSlice 22 (.int .i64 (n : Int)) (.int .i64 (n : Int))).run Try.prog w = .ok (.slice (some ⟨w.heap.size, 0, none⟩) n n) (w.alloc (.cells (madeCells #[.int .i64 0] (n * 1)) 3)) := by
  obtain ⟨i, hi, hzz⟩ := Option.map_eq_some_iff.1 infoInt
  simp only [Prod.mk.injEq] at hzz
  obtain ⟨hz, hs, hb⟩ := hzz
  obtain ⟨z, hz, hzc⟩ := Option.map_eq_some_iff.1 hz
  have := run_make (P := Try.prog) (w := w) 22 3 i z Try.underlying22 hi hz .i64 .i64 n n (by omega) (by omega) (by rw [hb]; omega) (by omega)
  rw [this, hzc, hs]
  simp
/-- a decoder, k symbols on -/
def Mk (w : World) (q sb nb : Nat) (L : List Nat) (k : Nat) : Prop := ∃ cs ss, Blk w q cs 70 ∧ Hd cs L ∧ cs[53]? = some (.slice (some ⟨sb, 0, none⟩) (syN L) (syN L)) ∧ Sh cs L k ∧ Blk w sb ss 3 ∧ Sy ss L k
def ns (L : List Nat) (k n : Nat) : Nat := stt L n + if n = 0 then 0 else (L.take k).count n
theorem ns_zero (L : List Nat) : ns L 0 = stt L := by funext n; simp [ns]
theorem ns_at (L : List Nat) (k : Nat) (h : 0 < len L k) : ns L k (len L k) = syAt L k := by unfold ns; rw [if_neg (by omega)]; rfl
theorem ns_skip (L : List Nat) (k : Nat) (hk : k < L.length) (h : len L k = 0) : ns L (k + 1) = ns L k := by
  funext n
  unfold ns
  by_cases h0 : n = 0
  · rw [if_pos h0, if_pos h0]
  · rw [if_neg h0, if_neg h0, List.take_succ_eq_append_getElem hk, List.count_append, ← len_get L k hk, h]
    simp [List.count_cons, Ne.symm h0]
theorem ns_take (L : List Nat) (k : Nat) (hk : k < L.length) (h : 0 < len L k) : (fun i => if i = len L k then syAt L k + 1 else ns L k i) = ns L (k + 1) := by
  funext n
  unfold ns
  rw [List.take_succ_eq_append_getElem hk, List.count_append, ← len_get L k hk]
  by_cases h0 : n = len L k
  · subst h0
    rw [if_pos rfl, if_neg (by omega)]
    simp [syAt, rk]; omega
  · rw [if_neg h0]
    by_cases h1 : n = 0
    · rw [if_pos h1, if_pos h1]
    · rw [if_neg h1, if_neg h1]
      simp [List.count_cons, Ne.symm h0]
theorem syN_le (L : List Nat) (h : L.length ≤ 4096) (hl : longest L ≤ 16) : syN L ≤ 17 * 4096 := by
  have h1 := stt_le L (longest L + 1)
  rw [stt] at h1
  unfold syN
  have := Nat.mul_le_mul (show longest L + 1 ≤ 17 by omega) h
  omega
theorem Sy.made (L : List Nat) (N : Nat) (h : syN L = N) : Sy (madeCells #[.int .i64 0] N) L 0 := ⟨by rw [size_madeCells, h], fun i hi => by omega⟩
theorem Hd.start {w : World} {q : Nat} {cs : Array Value} {L : List Nat} (h : Hd cs L) (hb : Blk w q cs 70) : w.rangeAt q 36 ((List.range 17).map fun n => Value.int .i64 (stt L n)) := by
  intro j v hv
  have hj : j < 17 := by
    have := (List.getElem?_eq_some_iff.1 hv).1
    simpa using this
  simp only [List.getElem?_map, List.getElem?_range hj, Option.map_some, Option.some.injEq] at hv
  rw [← hv]
  exact hb.cell (36 + j) _ (h.2.2.2 j hj).2.2
theorem Mk.keep {w w' : World} {q sb nb : Nat} {L S : List Nat} {k : Nat} (h : Mk w q sb nb L k) (K : Keep S w w') (hq : q ∉ S) (hs : sb ∉ S) : Mk w' q sb nb L k := by
  obtain ⟨cs, ss, a, b, c, d, e, f⟩ := h
  exact ⟨cs, ss, a.keep K hq, b, c, d, e.keep K hs, f⟩
theorem Mk.skip {w : World} {q sb nb : Nat} {L : List Nat} {k : Nat} (h : Mk w q sb nb L k) (h0 : len L k = 0) : Mk w q sb nb L (k + 1) := by
  obtain ⟨cs, ss, a, b, c, d, e, f⟩ := h
  exact ⟨cs, ss, a, b, c, d.skip (.inl h0), e, f.skip h0⟩
theorem new_err (w : World) (v : Value) (zs : List Int) (h : Is .i64 w v zs) (h0 : werr zs ≠ 0) : Calls Try.prog 12 #[v] w fun e w' => e = .returned (.tuple #[.pointer none, .int .i64 (werr zs)]) ∧ Keep [] w w' := by
  have HC := Lib.hid (can_codes w v zs h)
  have hb : (((werr zs : Nat) : Int) != 0) = true := by simp; omega
  generalize werr zs = er at hb HC h0 ⊢
  clear h
  go_enter Try.func12, Try.ntmps12
  go_wp2_with fail
  refine HC.out.mono ?_; rintro e w1 ⟨v', rfl, _, k1, _, _⟩
  clear HC h0
  go_wp2_with fail
  go_ret2
  exact ⟨rfl, k1⟩
set_option maxRecDepth 100000 in
set_option maxHeartbeats 8000000 in
theorem new_ok (w : World) (v : Value) (zs : List Int) (h : Is .i64 w v zs) (h0 : werr zs = 0) : Calls Try.prog 12 #[v] w fun e w' => ∃ q sb nb, e = .returned (.tuple #[.pointer (some ⟨q, 0, none⟩), .int .i64 0]) ∧ Keep [] w w' ∧ Mk w' q sb nb (Ln zs) (Ln zs).length ∧ w.heap.size ≤ q ∧ w.heap.size ≤ sb ∧ q ≠ sb := by
  obtain ⟨hm, hwt⟩ := werr_ok h0
  have hL := may_Ln hm
  have hlen : zs.length ≤ 4096 := ((may_iff zs).1 hm).1
  have hN := Ln_length zs
  have HC := Lib.hid (codes_ok w v zs h h0)
  have HK := Lib.hid (fun w1 (k : Keep [] w w1) => counts_c w1 v zs (h.keep k (by simp)) hm)
  have HF := Lib.hid (fun w => firsts_c w (Ln zs) (fst_le zs hm) (by rw [hN]; exact hlen))
  have HS := Lib.hid (fun w => starts_c w (Ln zs) (by rw [hN]; exact hlen))
  have HG := Lib.hid (fun w => blongest_c w (Ln zs) hL)
  have hsyn := syN_le (Ln zs) (by rw [hN]; exact hlen) (longest_le _ 16 hL)
  have hlg := longest_le (Ln zs) 16 hL
  have hz := (zero_of_info (P := Try.prog) lenInfo).1
  rw [← BL_zero] at hz
  generalize hZ : BL (fun _ => 0) = Z at hz
  have hz17 : Z.size = 17 := by rw [← hZ, BL_size]
  clear hZ
  have HLL := Lib.hid (may_Ln hm)
  obtain ⟨a, cap, rfl, _, _⟩ := h.shape
  generalize Ln zs = L at hL hwt hN HK HF HS HG HC hsyn hlg HLL ⊢
  have HN := Lib.hid hN; clear hN hm h0 h hL
  go_enter Try.func12, Try.ntmps12
  go_wp2_with fail
  refine HC.out.mono ?_; rintro e w1 ⟨v', rfl, hcd, k1, hfr⟩
  clear HC
  go_wp2_with fail
  refine (HK.out w1 k1).mono ?_; rintro e w2 ⟨rfl, k2⟩
  have K2 : Keep [] w1 w2 := k2
  clear k2 HK
  have hb0 := Blk.new w2 Z 64
  go_wp2_with (refine wpList_storeL rfl _ _ rfl _ _ rfl rfl _ _ hb0 hz17 ?_)
  have hb1 := hb0.setRow (BL (cnt L))
  have K3 : Keep [] w1 ((w2.alloc (.cells Z 64)).setRow w2.heap.size (BL (cnt L))) := (K2.alloc _).trans (Keep.setRow _) (fun x hx => .inr (by simp at hx; have := K2.size; omega))
  generalize (w2.alloc (.cells Z 64)).setRow w2.heap.size (BL (cnt L)) = w3 at hb1 K3 ⊢
  generalize w2.heap.size = cb at hb1 ⊢
  clear hb0 K2
  have hld : ∀ p : Kept w3, (Instr.loadAt 64 (.pointer (some ⟨cb, 0, none⟩))).run Try.prog p.x = .ok (.agg (BL (cnt L))) p.x :=
    fun p => (hb1.keep p.h (by simp)).load (P := Try.prog) _ Try.underlying64 rfl (by rw [BL_size]; exact lenSize)
  have HLD := Lib.hid hld
  clear hld
  refine wp_region_kept_tail 8 (by kernel_rfl) (by kernel_rfl) ?_
  simp only [List.take_succ_cons, List.take_zero, List.drop_succ_cons, List.drop_zero]
  refine wpQuiet_loadA 64 _ rfl rfl _ rfl _ HLD.out ?_
  quiet_step ((go_at_call 37; with_reducible exact kept_of (HG.out _)))
  refine wpQuiet_loadA 64 _ rfl rfl _ rfl _ HLD.out ?_
  refine wpQuiet_loadA 64 _ rfl rfl _ rfl _ HLD.out ?_
  quiet_step ((go_at_call 34; with_reducible exact kept_of (HF.out _)))
  refine wpQuiet_loadA 64 _ rfl rfl _ rfl _ HLD.out ?_
  quiet_step ((go_at_call 38; with_reducible exact kept_of (HS.out _)))
  refine wpQuiet_build 70 _ rfl (by kernel_rfl) [(0, .bool true), (1, .int .i64 (longest L)), (2, .agg (BL (cnt L))), (3, .agg (BL (fst L))), (4, .agg (BL (stt L)))] (by kernel_rfl) (dc0 L) (dc0_built L) ?_
  refine wpQuiet_nil ?_
  rintro _ ⟨⟨w4, k4⟩, rfl⟩
  have K4 := K3.trans k4 (by simp)
  have hb2 := hb1.keep k4 (by simp)
  clear HLD HG HF HS hb1 K3 k4
  rename_i w4
  simp only [Act.put, List.setIfInBounds_toArray, List.set_cons_succ, List.set_cons_zero]
  go_wp2_with fail
  have hq0 := Blk.new w4 (dc0 L) 70
  have hb3 := hb2.alloc (.cells (dc0 L) 70)
  have K5 := K4.alloc (.cells (dc0 L) 70)
  have hcq : cb ≠ w4.heap.size := by have := hb2.lt; omega
  have hq1 : w1.heap.size ≤ w4.heap.size := K4.size
  have hqs : (w4.alloc (.cells (dc0 L) 70)).heap.size = w4.heap.size + 1 := by simp
  generalize w4.alloc (.cells (dc0 L) 70) = w5 at hq0 hb3 K5 hqs ⊢
  generalize w4.heap.size = q at hq0 hcq hq1 hqs ⊢
  clear hb2 K4
  have HH := dc0_hd L
  have d1 := hq0.cell 1 _ HH.2.2.1
  have d2 := hq0.cell (36 + longest L) _ (HH.2.2.2 (longest L) (by omega)).2.2
  have d3 := hb3.cell (longest L) _ (BL_get _ _ (by omega))
  have s1 : 53 < (dc0 L).size := by rw [HH.1]; omega
  have d53 : ∀ o, (w5.alloc o).cell? ⟨q, 53, none⟩ = some ((dc0 L)[53]'s1) := fun o => (hq0.alloc o).cell 53 _ (Array.getElem?_eq_getElem s1)
  have p53 : ∀ o, (w5.alloc o).frozen? ⟨q, 53, none⟩ = false := fun o => (hq0.alloc o).free 53
  have hmk := fun w' => run_make_ints w' (syN L) (by omega)
  have hw1 : IntKind.i64.wrap ((stt L (longest L) : Int) + cnt L (longest L)) = syN L := by
    rw [IntKind.wrap_i64]; unfold syN at hsyn ⊢; omega
  have HSS := Lib.hid hsyn
  have hlgi : (longest L : Int) < 17 := by omega
  generalize hN : syN L = N at hw1 hmk hsyn HSS
  generalize stt L (longest L) = A at d2 hw1
  generalize cnt L (longest L) = B at d3 hw1
  generalize (dc0 L)[53] = c53 at d53
  generalize longest L = lg at d1 d2 d3 hlgi hlg
  clear HH
  go_region
  subst hN
  have hq5 := hq0.lt
  have hS := ((hq0.set 53 (.slice (some ⟨q + 1, 0, none⟩) (syN L) (syN L))).alloc (.cells (madeCells #[.int .i64 0] (syN L)) 3)).keep ((Keep.refl [] _).drew) (by simp)
  have hC := ((hb3.other (p := ⟨q, 53, none⟩) hcq (.slice (some ⟨q + 1, 0, none⟩) (syN L) (syN L))).alloc (.cells (madeCells #[.int .i64 0] (syN L)) 3)).keep ((Keep.refl [] _).drew) (by simp)
  have hY : Blk ((w5.setCell ⟨q, 53, none⟩ (.slice (some ⟨q + 1, 0, none⟩) (syN L) (syN L))).alloc (.cells (madeCells #[.int .i64 0] (syN L)) 3)).drew (q + 1) (madeCells #[.int .i64 0] (syN L)) 3 := by
    have := (Blk.new (w5.setCell ⟨q, 53, none⟩ (.slice (some ⟨q + 1, 0, none⟩) (syN L) (syN L))) (madeCells #[.int .i64 0] (syN L)) 3).keep ((Keep.refl [] _).drew) (by simp)
    simpa [hqs] using this
  have K6 : Keep [] w1 ((w5.setCell ⟨q, 53, none⟩ (.slice (some ⟨q + 1, 0, none⟩) (syN L) (syN L))).alloc (.cells (madeCells #[.int .i64 0] (syN L)) 3)).drew := ((K5.setCell (.inr hq1) _).alloc _).drew
  have hz6 : ((w5.setCell ⟨q, 53, none⟩ (.slice (some ⟨q + 1, 0, none⟩) (syN L) (syN L))).alloc (.cells (madeCells #[.int .i64 0] (syN L)) 3)).drew.heap.size = q + 2 := by simp [World.drew, hqs]
  generalize ((w5.setCell ⟨q, 53, none⟩ (.slice (some ⟨q + 1, 0, none⟩) (syN L) (syN L))).alloc (.cells (madeCells #[.int .i64 0] (syN L)) 3)).drew = w6 at hS hC hY K6 hz6 ⊢
  have h53 : ((dc0 L).setIfInBounds 53 (.slice (some ⟨q + 1, 0, none⟩) (syN L) (syN L)))[53]? = some (.slice (some ⟨q + 1, 0, none⟩) (syN L) (syN L)) := by
    rw [Array.getElem?_setIfInBounds, if_pos rfl, if_pos s1]
  have HMk : Mk w6 q (q + 1) (q + 2) L 0 := ⟨_, _, hS, (dc0_hd L).sy _, h53, (dc0_sh L).sy _, hY, Sy.made L _ rfl⟩
  have HMK := Lib.hid HMk
  have hrng := ((dc0_hd L).sy (.slice (some ⟨q + 1, 0, none⟩) (syN L) (syN L))).start hS
  have HR := Lib.hid hrng
  clear hS hY HMk hrng d1 d2 d3 d53 p53 hq0 hb3 K5 hmk hw1 HSS s1 h53 hC hlgi hq5 hqs
  obtain ⟨av, capv, hv', hvl⟩ := hcd.shape
  subst hv'
  have hb7 : Blk (w6.alloc (.cells Z 64)) (q + 2) Z 64 := by rw [← hz6]; exact Blk.new w6 Z _
  go_wp2_with (first
    | refine wpList_load_mid rfl 64 _ rfl q 36 rfl _ _ HR.out Try.underlying64 rfl (by exact lenSize) ?_
    | refine wpList_storeL rfl _ _ rfl _ (stt L) rfl rfl _ _ hb7 hz17 ?_)
  have hb8 := hb7.setRow (BL (stt L))
  have hq0 : q < w6.heap.size := by omega
  have HM8 := Lib.hid ((HMK.out.keep ((Keep.refl [] w6).alloc (.cells Z 64)) (by simp) (by simp)).keep (Keep.setRow (g := q + 2) (BL (stt L))) (by simp) (by simp))
  have K8 : Keep [] w1 ((w6.alloc (.cells Z 64)).setRow (q + 2) (BL (stt L))) := (K6.alloc _).trans (Keep.setRow _) (fun x hx => .inr (by simp at hx; omega))
  have hq8 : ((w6.alloc (.cells Z 64)).setRow (q + 2) (BL (stt L))).heap.size = q + 3 := by simp [hz6]
  generalize (w6.alloc (.cells Z 64)).setRow (q + 2) (BL (stt L)) = w8 at hb8 HM8 K8 hq8 ⊢
  clear hb7 HMK HR K6 hz6 hq0
  have HCD := Lib.hid (fun w' (k : Keep [] w1 w') i hi => (hcd.keep k (by simp)).at i hi)
  have HLY := Lib.hid (fun w q cs s cd n a b c d e => layshort_c w q cs s cd n a b c d e)
  clear hcd
  go_loopw [56] (fun i wr => ∃ k : Nat, k ≤ L.length ∧ i = .int .i64 k ∧ Hid (Mk wr q (q + 1) (q + 2) L k) ∧ Blk wr (q + 2) (BL (ns L k)) 64 ∧ Keep [] w1 wr) (fun i _ => L.length - (intOf i).toNat)
  case atStart => exact ⟨0, by omega, rfl, HM8.out, by rw [ns_zero]; exact hb8, K8⟩
  case round =>
    clear hb8 HM8 K8 hq8
    obtain ⟨k, hk, rfl, HM, hb, K⟩ := hrel
    by_cases hlt : k < L.length
    · obtain ⟨b, off, cap', hv, e0, e1⟩ := HCD.out wr K k hlt
      simp only [Value.slice.injEq] at hv
      obtain ⟨rfl, hvv, rfl⟩ := hv
      clear hvv
      have hl16 : len L k ≤ 16 := by rw [len_get L k hlt]; exact HLL.out _ (List.getElem_mem hlt)
      by_cases h0 : len L k = 0
      · have HM2 : Hid (Mk wr q (q + 1) (q + 2) L (k + 1)) := HM.out.skip h0
        have hb' := hb
        rw [← ns_skip L k hlt h0] at hb'
        rw [h0] at e1
        have HA : Hid (Mk (wr.alloc (.cells #[.int .u32 (code L k), .int .i64 0] 56)) q (q + 1) (q + 2) L (k + 1)) := HM2.out.keep ((Keep.refl [] wr).alloc _) (by simp) (by simp)
        have HB := hb'.alloc (.cells #[.int .u32 (code L k), .int .i64 0] 56)
        have HK := K.alloc (.cells #[.int .u32 (code L k), .int .i64 0] 56)
        clear h0 hb HM HM2
        go_wp2_with fail
        go_roundw
        case rel => exact ⟨k + 1, by omega, by go_num, HA, HB, HK⟩
        case measure => simp [intOf]; omega
      · have hpos : 0 < len L k := by omega
        have HMo := HM.out
        obtain ⟨cs, ss, m1, m2, m3, m4, m5, m6⟩ := HMo
        have hcdl : code L k < 2 ^ len L k := code_lt L k
        have hsl := syAt_lt L k hlt hpos
        have HNS := Lib.hid (ns_take L k hlt hpos)
        have HSY := Lib.hid (m6.take hlt hpos)
        have hsz := m2.1
        have HA := Lib.hid (fun cs' (h9 : len L k ≤ 9) hl => m4.take (cs' := cs') hlt hpos h9 hl)
        have HHD := Lib.hid m2
        have HSK := Lib.hid (fun h => m4.skip (.inr h))
        -- the copy of the word
        have A1 := m1.alloc (.cells #[.int .u32 (code L k), .int .i64 (len L k)] 56)
        have A5 := m5.alloc (.cells #[.int .u32 (code L k), .int .i64 (len L k)] 56)
        have AB := hb.alloc (.cells #[.int .u32 (code L k), .int .i64 (len L k)] 56)
        have AN := Blk.new wr #[.int .u32 (code L k), .int .i64 (len L k)] 56
        have AK := K.alloc (.cells #[.int .u32 (code L k), .int .i64 (len L k)] 56)
        have hq := m1.lt
        have hsb := m5.lt
        have hnb := hb.lt
        have hssz := m6.1
        have hnat := ns_at L k hpos
        have Hm3 := Lib.hid m3
        have hlp : (0 : Int) < len L k := by omega
        have hl17 : (len L k : Int) < 17 := by omega
        have hne : ((len L k : Int) == 0) = false := by simp; omega
        have hw16 : k < 4096 := by have := HN.out; omega
        clear HM hb m1 m2 m4 m5 m6 h0
        generalize code L k = cd at *
        generalize hzz : len L k = z at *
        go_upto_region 12 with fail
        have AR : Keep [] w1 (wr.alloc (.cells #[.int .u32 cd, .int .i64 z] 56)).drew := AK.drew
        have A1d := A1.keep ((Keep.refl [] _).drew) (by simp)
        have A5d := A5.keep ((Keep.refl [] _).drew) (by simp)
        have ABd := AB.keep ((Keep.refl [] _).drew) (by simp)
        have ANd := AN.keep ((Keep.refl [] _).drew) (by simp)
        have c53 := A1.cell 53 _ m3
        have c1 := AN.cell 1 _ rfl
        have cz := AB.cell z _ (BL_get _ _ (by omega))
        rw [hnat] at cz
        have hsr : 0 < wr.heap.size := by omega
        generalize wr.alloc (.cells #[.int .u32 cd, .int .i64 z] 56) = wB at A1 A5 AB AN AK AR A1d A5d ABd ANd c53 c1 cz ⊢
        generalize wr.heap.size = r at AN ANd hq hsb hnb c1 hsr ⊢
        have hyN : (syAt L k : Int) < syN L := by omega
        have hyi : IntKind.i64.wrap ((syAt L k : Int) + 1) = syAt L k + 1 := by rw [IntKind.wrap_i64]; omega
        generalize hyy : syAt L k = y at *
        generalize hNN : syN L = N at *
        go_still_tail 10, (by kernel_rfl)
        change wpList _ _ _ _ _ wB.drew
        generalize wB.drew = wC at A1d A5d ABd ANd AR ⊢
        clear A1 A5 AB AN AK c53 c1 cz
        have p1 := A5d.free y
        have d1 := A5d.cell y _ (Array.getElem?_eq_getElem (by omega))
        have B5 := A5d.set y (.int .i64 k)
        have B1 := A1d.other (p := ⟨q + 1, y, none⟩) (by simp) (.int .i64 k)
        have BB := ABd.other (p := ⟨q + 1, y, none⟩) (by simp) (.int .i64 k)
        have BN := ANd.other (p := ⟨q + 1, y, none⟩) (by simp; omega) (.int .i64 k)
        have BR : Keep [] w1 (wC.setCell ⟨q + 1, y, none⟩ (.int .i64 k)) := AR.setCell (.inr (by simp; omega)) _
        clear A1d A5d ABd ANd AR
        go_upto_region 13 with fail
        generalize wC.setCell ⟨q + 1, y, none⟩ (.int .i64 k) = wD at B1 B5 BB BN BR ⊢
        clear p1 d1
        have n1 := BN.cell 1 _ rfl
        have nz := BB.cell z _ (BL_get _ _ (by omega))
        rw [hnat] at nz
        have fz := BB.free z
        have CB := BB.set z (.int .i64 (y + 1 : Nat))
        rw [BL_set _ _ _ (by omega), HNS.out] at CB
        have C1 := B1.other (p := ⟨q + 2, z, none⟩) (by simp) (.int .i64 (y + 1 : Nat))
        have C5 := B5.other (p := ⟨q + 2, z, none⟩) (by simp) (.int .i64 (y + 1 : Nat))
        have CN := BN.other (p := ⟨q + 2, z, none⟩) (by simp; omega) (.int .i64 (y + 1 : Nat))
        have CR : Keep [] w1 (wD.setCell ⟨q + 2, z, none⟩ (.int .i64 (y + 1 : Nat))) := BR.setCell (.inr (by simp; omega)) _
        have ec : (Value.int .i64 ((y + 1 : Nat) : Int)) = Value.int .i64 ((y : Int) + 1) := by simp
        rw [ec] at CB C1 C5 CN CR
        clear B1 B5 BB BN BR ec
        go_upto_region 14 with fail
        generalize wD.setCell ⟨q + 2, z, none⟩ (.int .i64 ((y : Int) + 1)) = wE at CB C1 C5 CN CR ⊢
        clear n1 nz fz
        have e0 := CN.cell 0 _ rfl
        have e1 := CN.cell 1 _ rfl
        go_wp2_with fail
        refine (HLY.out wE q cs k cd z C1 hsz hw16 hpos hl16 hcdl).mono ?_
        rintro e wF ⟨rfl, kF, cs', F1, F2, F3⟩
        have FR : Keep [] w1 wF := CR.trans kF (fun x hx => .inr (by simp at hx; omega))
        have FB := CB.keep kF (by simp)
        have F5 := C5.keep kF (by simp)
        subst hNN
        have FM : Hid (Mk wF q (q + 1) (q + 2) L (k + 1)) := by
          by_cases h9 : z ≤ 9
          · have hl := F2 h9
            exact ⟨cs', _, F1, HHD.out.laid hl, by rw [hl.2.1 53 (by omega)]; exact m3, HA.out _ h9 hl, F5, HSY.out⟩
          · obtain rfl := F3 (by omega)
            exact ⟨_, _, F1, HHD.out, m3, HSK.out (by omega), F5, HSY.out⟩
        clear F1 F2 F3 F5 kF CB C1 C5 CN CR e0 e1 HSY HA HSK HHD Hm3 m3
        go_wp2_with fail
        go_roundw
        case rel => exact ⟨k + 1, by omega, by go_num, FM, FB, FR⟩
        case measure => simp [intOf]; omega
    · obtain rfl : k = L.length := by omega
      have HMo := HM.out
      have h1 := k1.size
      go_wp2_with fail
      go_ret2
      exact ⟨q, q + 1, q + 2, rfl, k1.trans K (by simp), HMo, by omega, by omega, by omega⟩
end Go.Proofs.Ytdhdfedbhanijaa
