/- Texts put together: FinFd -/
import Derived.Test.YthmojejiaeninaaGreatPart25
import Derived.Test.YthmojejiaeninaaGreatPart8
import Derived.Deep.RegionWith
import Derived.Deep.RegionHeld3
namespace Go.Proofs.YthmojejiaeninaaGreat
set_option linter.unusedVariables false
set_option linter.unusedSimpArgs false
set_option maxRecDepth 100000
open Go.ChangeShapes Go.WideShapes Go.ChangeAt Go.RowKit

set_option maxRecDepth 100000 in
set_option maxHeartbeats 4000000 in
theorem fin_bad (w : World) (v : Value) (b : List UInt8) (s : Sh) (h : Bs w v b) (hs : ¬ s.ok) : Calls Tryz.prog 18 #[v, s.val] w fun e w' => e = .returned (.tuple #[.slice none 0 0, .int .i64 2]) ∧ Keep [] w w' := by
  have HC := Lib.hid (fun ww => fin_check ww s)
  simp only [if_neg hs] at HC
  clear hs h
  obtain ⟨win, mn, mx, ch, lz⟩ := s
  have HC2 : Hid (∀ ww, Calls Tryz.prog 50 #[.agg #[.int .i64 win, .int .i64 mn, .int .i64 mx, .int .i64 ch, .bool lz]] ww fun e w' => e = .returned (.int .i64 2) ∧ Keep [] ww w') := HC.out
  clear HC
  show Calls Tryz.prog 18 #[v, .agg #[.int .i64 win, .int .i64 mn, .int .i64 mx, .int .i64 ch, .bool lz]] w _
  have K1 := Lib.hid ((Keep.refl [] w).alloc (.cells #[.int .i64 win, .int .i64 mn, .int .i64 mx, .int .i64 ch, .bool lz] 46))
  go_enter Tryz.func18, Tryz.ntmps18
  go_wp2_with fail
  refine (HC2.out _).mono ?_
  rintro e w' ⟨rfl, hk⟩
  have K2 := Lib.hid (K1.out.trans hk (by simp))
  clear hk
  go_wp2_with fail
  go_ret2
  exact ⟨rfl, K2.out⟩
theorem srch_new {w w2 : World} (v bv : Value) (b : List UInt8) (s : Sh) (hk : Keep [] w w2) (h : Bs w v b) (ho : OwnG el32 w2 bv ((List.range b.length).map (bck b s.min.toNat))) :
    Srch (w2.alloc (.cells #[v, .int .i64 s.win, .int .i64 s.min, .int .i64 s.max, .int .i64 s.chain, .bool s.lazy, bv] 115)) w2.heap.size v bv b s ∧ Keep [] w (w2.alloc (.cells #[v, .int .i64 s.win, .int .i64 s.min, .int .i64 s.max, .int .i64 s.chain, .bool s.lazy, bv] 115)) :=
  ⟨⟨Blk.new _ _ _, h.keep (hk.alloc _) (by simp), (ho.keep ((Keep.refl [] w2).alloc _) (by simp)).gs⟩, hk.alloc _⟩
theorem srch_set {w w2 : World} {g : Nat} (v bv : Value) (b : List UInt8) (s : Sh) (hk : Keep [] w w2) (hg : w.heap.size ≤ g) (hz : Blk w2 g #[.slice none 0 0, .int .i64 0, .int .i64 0, .int .i64 0, .int .i64 0, .bool false, .slice none 0 0] 115) (h : Bs w v b) (ho : OwnG el32 w2 bv ((List.range b.length).map (bck b s.min.toNat))) (hbv : ∀ x, bv.ownBlock = some x → g < x) :
    Srch (((((((w2.setCell ⟨g, 0, none⟩ (v)).setCell ⟨g, 1, none⟩ (.int .i64 s.win)).setCell ⟨g, 2, none⟩ (.int .i64 s.min)).setCell ⟨g, 3, none⟩ (.int .i64 s.max)).setCell ⟨g, 4, none⟩ (.int .i64 s.chain)).setCell ⟨g, 5, none⟩ (.bool s.lazy)).setCell ⟨g, 6, none⟩ (bv)) g v bv b s ∧ Keep [] w (((((((w2.setCell ⟨g, 0, none⟩ (v)).setCell ⟨g, 1, none⟩ (.int .i64 s.win)).setCell ⟨g, 2, none⟩ (.int .i64 s.min)).setCell ⟨g, 3, none⟩ (.int .i64 s.max)).setCell ⟨g, 4, none⟩ (.int .i64 s.chain)).setCell ⟨g, 5, none⟩ (.bool s.lazy)).setCell ⟨g, 6, none⟩ (bv)) := by
  have hB : Blk (((((((w2.setCell ⟨g, 0, none⟩ (v)).setCell ⟨g, 1, none⟩ (.int .i64 s.win)).setCell ⟨g, 2, none⟩ (.int .i64 s.min)).setCell ⟨g, 3, none⟩ (.int .i64 s.max)).setCell ⟨g, 4, none⟩ (.int .i64 s.chain)).setCell ⟨g, 5, none⟩ (.bool s.lazy)).setCell ⟨g, 6, none⟩ (bv)) g #[v, .int .i64 s.win, .int .i64 s.min, .int .i64 s.max, .int .i64 s.chain, .bool s.lazy, bv] 115 := (((((((hz.set 0 (v)).set 1 (.int .i64 s.win)).set 2 (.int .i64 s.min)).set 3 (.int .i64 s.max)).set 4 (.int .i64 s.chain)).set 5 (.bool s.lazy)).set 6 (bv))
  have hK : Keep [] w (((((((w2.setCell ⟨g, 0, none⟩ (v)).setCell ⟨g, 1, none⟩ (.int .i64 s.win)).setCell ⟨g, 2, none⟩ (.int .i64 s.min)).setCell ⟨g, 3, none⟩ (.int .i64 s.max)).setCell ⟨g, 4, none⟩ (.int .i64 s.chain)).setCell ⟨g, 5, none⟩ (.bool s.lazy)).setCell ⟨g, 6, none⟩ (bv)) := (((((((hk.setCell (.inr hg) (v)).setCell (.inr hg) (.int .i64 s.win)).setCell (.inr hg) (.int .i64 s.min)).setCell (.inr hg) (.int .i64 s.max)).setCell (.inr hg) (.int .i64 s.chain)).setCell (.inr hg) (.bool s.lazy)).setCell (.inr hg) (bv))
  have hK2 : Keep [g] w2 (((((((w2.setCell ⟨g, 0, none⟩ (v)).setCell ⟨g, 1, none⟩ (.int .i64 s.win)).setCell ⟨g, 2, none⟩ (.int .i64 s.min)).setCell ⟨g, 3, none⟩ (.int .i64 s.max)).setCell ⟨g, 4, none⟩ (.int .i64 s.chain)).setCell ⟨g, 5, none⟩ (.bool s.lazy)).setCell ⟨g, 6, none⟩ (bv)) := ((((((((Keep.refl [g] w2).setCell (.inl (List.mem_singleton.2 rfl)) (v)).setCell (.inl (List.mem_singleton.2 rfl)) (.int .i64 s.win)).setCell (.inl (List.mem_singleton.2 rfl)) (.int .i64 s.min)).setCell (.inl (List.mem_singleton.2 rfl)) (.int .i64 s.max)).setCell (.inl (List.mem_singleton.2 rfl)) (.int .i64 s.chain)).setCell (.inl (List.mem_singleton.2 rfl)) (.bool s.lazy)).setCell (.inl (List.mem_singleton.2 rfl)) (bv))
  exact ⟨⟨hB, h.keep hK (by simp), (ho.keep hK2 (by intro x hx; have := hbv x hx; simp; omega)).gs⟩, hK⟩
set_option maxRecDepth 100000 in
set_option maxHeartbeats 4000000 in
theorem fin_find (w : World) (v : Value) (b : List UInt8) (s : Sh) (hs : s.ok) (h : Bs w v b) (hb : b.length ≤ 100000) : Calls Tryz.prog 18 #[v, s.val] w fun e w' => ∃ v', e = .returned (.tuple #[v', .int .i64 0]) ∧ Ts w' v' (found b s) ∧ Keep [] w w' := by
  have HC := Lib.hid (fun ww => fin_check ww s)
  simp only [if_pos hs] at HC
  obtain ⟨m, hm⟩ := Int.eq_ofNat_of_zero_le (show 0 ≤ s.min by unfold Sh.ok at hs; omega)
  have hm2 : 2 ≤ m ∧ m ≤ 3 := by unfold Sh.ok at hs; omega
  have hm3 : s.min.toNat = m := by omega
  have HBK := Lib.hid (fun (ww : World) (kk : Keep [] w ww) => backs_c ww v b m (h.keep kk (by simp)) hm2.1 hm2.2 hb)
  have HATC := Lib.hid (fun (ww : World) (q : Nat) (bv : Value) (hq : Srch ww q v bv b s) (i : Nat) (hi : i ≤ b.length) => fat_c ww q v bv b s hs hq i hi hb)
  have HNXC := Lib.hid (fun (ww : World) (q : Nat) (bv : Value) (hq : Srch ww q v bv b s) (i : Nat) (hi : i < b.length) (d n : Int) (hz : (d = 0 ∧ n = 0) ∨ ¬ d = 0) => next_c ww q v bv b s hs hq i hi hb d n hz)
  have HNEW : Hid (∀ (w2 : World) (bv : Value), Keep [] w w2 → OwnG el32 w2 bv ((List.range b.length).map (bck b m)) → Srch (w2.alloc (.cells #[v, .int .i64 s.win, .int .i64 (m : Int), .int .i64 s.max, .int .i64 s.chain, .bool s.lazy, bv] 115)) w2.heap.size v bv b s ∧ Keep [] w (w2.alloc (.cells #[v, .int .i64 s.win, .int .i64 (m : Int), .int .i64 s.max, .int .i64 s.chain, .bool s.lazy, bv] 115))) := fun w2 bv h1 h2 => by
    have := srch_new v bv b s h1 h (by rw [hm3]; exact h2)
    rw [hm] at this; exact this
  have HSET : Hid (∀ (w2 : World) (g : Nat) (bv : Value), Keep [] w w2 → w.heap.size ≤ g → Blk w2 g #[.slice none 0 0, .int .i64 0, .int .i64 0, .int .i64 0, .int .i64 0, .bool false, .slice none 0 0] 115 → OwnG el32 w2 bv ((List.range b.length).map (bck b m)) → (∀ x, bv.ownBlock = some x → g < x) → Srch (((((((w2.setCell ⟨g, 0, none⟩ (v)).setCell ⟨g, 1, none⟩ (.int .i64 s.win)).setCell ⟨g, 2, none⟩ (.int .i64 (m : Int))).setCell ⟨g, 3, none⟩ (.int .i64 s.max)).setCell ⟨g, 4, none⟩ (.int .i64 s.chain)).setCell ⟨g, 5, none⟩ (.bool s.lazy)).setCell ⟨g, 6, none⟩ (bv)) g v bv b s ∧ Keep [] w (((((((w2.setCell ⟨g, 0, none⟩ (v)).setCell ⟨g, 1, none⟩ (.int .i64 s.win)).setCell ⟨g, 2, none⟩ (.int .i64 (m : Int))).setCell ⟨g, 3, none⟩ (.int .i64 s.max)).setCell ⟨g, 4, none⟩ (.int .i64 s.chain)).setCell ⟨g, 5, none⟩ (.bool s.lazy)).setCell ⟨g, 6, none⟩ (bv))) := fun w2 g bv h1 hg hz h2 hx => by
    have := srch_set v bv b s h1 hg hz h (by rw [hm3]; exact h2) hx
    rw [hm] at this; exact this
  have HB := Lib.hid h
  obtain ⟨S, hS⟩ : ∃ S, s = S := ⟨s, rfl⟩
  have HOK := Lib.hid hs
  obtain ⟨win, mn, mx, ch, lz⟩ := s
  simp only at hm HNEW HSET
  subst hm
  have HC2 : Hid (∀ ww, Calls Tryz.prog 50 #[.agg #[.int .i64 win, .int .i64 m, .int .i64 mx, .int .i64 ch, .bool lz]] ww fun e w' => e = .returned (.int .i64 0) ∧ Keep [] ww w') := HC.out
  rw [hS] at HATC HNXC HOK HNEW HSET ⊢
  have hv : S.val = .agg #[.int .i64 win, .int .i64 m, .int .i64 mx, .int .i64 ch, .bool lz] := by rw [← hS]; rfl
  rw [hv]
  obtain ⟨a, cap, rfl, hc1, hc2⟩ := h.shape
  clear HC hS hs h hm3 hv hc1 hc2
  have K1 := Lib.hid ((Keep.refl [] w).alloc (.cells #[.int .i64 win, .int .i64 m, .int .i64 mx, .int .i64 ch, .bool lz] 46))
  have B1 := Lib.hid (Blk.new w #[.int .i64 win, .int .i64 m, .int .i64 mx, .int .i64 ch, .bool lz] 46)
  go_enter Tryz.func18, Tryz.ntmps18
  go_wp2_with fail
  refine (HC2.out _).mono ?_
  rintro e w1 ⟨rfl, hk⟩
  have K2 := Lib.hid (K1.out.trans hk (by simp))
  have B2 := Lib.hid (B1.out.keep hk (by simp))
  clear hk K1 B1
  go_wp2_with fail
  obtain ⟨gs, hgs⟩ : ∃ gs, w.heap.size = gs := ⟨_, rfl⟩
  rw [hgs] at B2 ⊢
  clear hgs
  go_cut [7] (fun sv wx => ∃ q bv, sv = .pointer (some ⟨q, 0, none⟩) ∧ Srch wx q (.slice a b.length cap) bv b S ∧ Keep [] w wx)
  case first =>
    have c0 := B2.out.cell 0 _ rfl
    have c1 := B2.out.cell 1 _ rfl
    have c2 := B2.out.cell 2 _ rfl
    have c3 := B2.out.cell 3 _ rfl
    have c4 := B2.out.cell 4 _ rfl
    simp only [List.getElem_toArray, List.getElem_cons_zero, List.getElem_cons_succ] at c0 c1 c2 c3 c4
    have KW : Keep [] w1 w1 := Keep.refl _ _
    have hlt1 : gs < w1.heap.size := B2.out.lt
    go_region_with (first | (go_at_call 51; (refine (HBK.out _ (by repeat (first | exact K2.out | refine Keep.drew ?_ | refine Keep.alloc ?_ _))).mono ?_); (rintro e w2 ⟨bv, rfl, ho, hk, hbv⟩); (obtain ⟨ab, cb, rfl, hcb, _⟩ := ho.gs.sh); (have hk1 : Keep [] w1 w2 := Keep.trans (by repeat (first | exact KW | refine Keep.drew ?_ | refine Keep.alloc ?_ _)) hk (by simp)); (have b0 := (B2.out.keep hk1 (by simp)).cell 0 _ rfl); (have b1 := (B2.out.keep hk1 (by simp)).cell 1 _ rfl); (have b2 := (B2.out.keep hk1 (by simp)).cell 2 _ rfl); (have b3 := (B2.out.keep hk1 (by simp)).cell 3 _ rfl); (have b4 := (B2.out.keep hk1 (by simp)).cell 4 _ rfl); (simp only [List.getElem_toArray, List.getElem_cons_zero, List.getElem_cons_succ] at b0 b1 b2 b3 b4); (have hlt2 : gs < w2.heap.size := (B2.out.keep hk1 (by simp)).lt); (first | ((have hz : Blk w2 w1.heap.size #[.slice none 0 0, .int .i64 0, .int .i64 0, .int .i64 0, .int .i64 0, .bool false, .slice none 0 0] 115 := Blk.keep (Blk.new w1.drew _ _) hk (by simp)); (have z0 := hz.cell 0 _ rfl); (have z1 := hz.cell 1 _ rfl); (have z2 := hz.cell 2 _ rfl); (have z3 := hz.cell 3 _ rfl); (have z4 := hz.cell 4 _ rfl); (have z5 := hz.cell 5 _ rfl); (have z6 := hz.cell 6 _ rfl); (have y0 := hz.free 0); (have y1 := hz.free 1); (have y2 := hz.free 2); (have y3 := hz.free 3); (have y4 := hz.free 4); (have y5 := hz.free 5); (have y6 := hz.free 6); (simp only [List.getElem_toArray, List.getElem_cons_zero, List.getElem_cons_succ] at z0 z1 z2 z3 z4 z5 z6)) | skip)))
    all_goals
      have KK : Keep [] w w2 := K2.out.trans hk1 (by simp)
      try clear z0 z1 z2 z3 z4 z5 z6 y0 y1 y2 y3 y4 y5 y6
      clear b0 b1 b2 b3 b4 c0 c1 c2 c3 c4 hlt1 hlt2 KW
      simp only [List.length_map, List.length_range] at ho hbv
      go_wp2_with fail
      go_meet
      refine ⟨_, .slice ab b.length cb, rfl, ?_⟩
      first
      | with_reducible exact HNEW.out w2 _ KK ho
      | (have hbv2 := (fun x hx => Nat.lt_of_lt_of_le (show w1.heap.size < (w1.drew.alloc (.cells #[.slice none 0 0, .int .i64 0, .int .i64 0, .int .i64 0, .int .i64 0, .bool false, .slice none 0 0] 115)).heap.size by simp) (hbv x hx))
         with_reducible exact HSET.out w2 _ _ KK K2.out.size hz ho hbv2)
  case rest =>
    obtain ⟨q, bv, rfl, hsr, hkc⟩ := hcut
    obtain ⟨wo, rfl⟩ : ∃ wo, wo = wc := ⟨_, rfl⟩
    have HSC := Lib.hid hsr
    have HKC := Lib.hid hkc
    have HIC := Lib.hid (fun (ww : World) (kk : Keep [] w ww) k (hk : k < b.length) => (HB.out.keep kk (by simp)).spot k hk)
    have HATF : Hid (∀ (ww : World), Keep [] wo ww → ∀ (i : Nat), i ≤ b.length → Calls Tryz.prog 52 #[.pointer (some ⟨q, 0, none⟩), .int .i64 i] ww fun e w' => e = .returned (.agg #[.int .i64 (atT b S i).dist, .int .i64 (atT b S i).len]) ∧ Keep [] ww w') := fun ww kk i hi => HATC.out ww q bv (HSC.out.keep kk) i hi
    have HNXF : Hid (∀ (ww : World), Keep [] wo ww → ∀ (i : Nat), i < b.length → ∀ (d n : Int), ((d = 0 ∧ n = 0) ∨ ¬ d = 0) → Calls Tryz.prog 53 #[.pointer (some ⟨q, 0, none⟩), .int .i64 i, .agg #[.int .i64 d, .int .i64 n]] ww fun e w' => e = .returned (.agg #[.int .i64 (nextT b S i d n).dist, .int .i64 (nextT b S i d n).len]) ∧ Keep [] ww w') := fun ww kk i hi d n hz => HNXC.out ww q bv (HSC.out.keep kk) i hi d n hz
    have HLIT := Lib.hid (fun (i : Nat) (hi : i < b.length) => step_lit (b := b) HOK.out (i := i) hi)
    have HCPY := Lib.hid (fun (i : Nat) (hi : i < b.length) => step_copy (b := b) HOK.out (i := i) hi)
    have HZO := Lib.hid (fun (i : Nat) (hi : i ≤ b.length) => atT_zeroOr (b := b) HOK.out (i := i) hi)
    have HSM := Lib.hid (fun (i : Nat) (hi : i ≤ b.length) => atT_small (b := b) HOK.out (i := i) hi)
    have HFS := Lib.hid (fdF_succ b S)
    have HFE := Lib.hid (fdF_end b S)
    have HF0 : Hid (found b S = fdF b S b.length 0) := rfl
    clear hsr hkc HBK HNEW HSET HC2 B2 K2 HATC HNXC HSC HB HOK
    go_wp2_with fail
    refine (HATF.out wo (Keep.refl _ _) 0 (Nat.zero_le _)).mono ?_
    rintro e w2 ⟨rfl, hk2⟩
    have HK2 := Lib.hid hk2
    clear hk2
    obtain ⟨d0, hd0⟩ : ∃ d0, (atT b S 0).dist = d0 := ⟨_, rfl⟩
    obtain ⟨n0, hn0⟩ : ∃ n0, (atT b S 0).len = n0 := ⟨_, rfl⟩
    have HDN : Hid ((atT b S 0).dist = d0 ∧ (atT b S 0).len = n0) := ⟨hd0, hn0⟩
    rw [hd0, hn0]
    clear hd0 hn0
    go_wp2_with fail
    have HK3 : Hid (Keep [] wo (w2.alloc (.cells #[.int .i64 d0, .int .i64 n0] 117))) := HK2.out.alloc _
    have HH3 : Hid (Blk (w2.alloc (.cells #[.int .i64 d0, .int .i64 n0] 117)) w2.heap.size #[.int .i64 d0, .int .i64 n0] 117) := Blk.new _ _ _
    have HGH : Hid (wo.heap.size ≤ w2.heap.size) := HK2.out.size
    generalize w2.alloc (.cells #[.int .i64 d0, .int .i64 n0] 117) = w3 at HK3 HH3 ⊢
    generalize w2.heap.size = gh at HH3 HGH ⊢
    clear HK2
    go_loopw [8, 9] (fun lv iv wr => ∃ (i f : Nat) (ts : List Tk) (a8 : Option Addr) (c8 : Nat) (d n : Int), i ≤ b.length ∧ b.length ≤ i + f ∧ ts.length ≤ i ∧ iv = .int .i64 i ∧ lv = .slice a8 ts.length c8 ∧ Hid (found b S = ts ++ fdF b S f i) ∧ Hid (OwnT wr (.slice a8 ts.length c8) ts) ∧ Hid (Keep [] wo wr) ∧ Hid (Blk wr gh #[.int .i64 d, .int .i64 n] 117) ∧ Hid ((atT b S i).dist = d ∧ (atT b S i).len = n) ∧ Hid (∀ x, (Value.slice a8 ts.length c8).ownBlock = some x → gh < x)) (fun _ iv _ => b.length - (intOf iv).toNat)
    case atStart => exact ⟨0, b.length, [], none, 0, d0, n0, by omega, by omega, by simp, rfl, rfl, HF0.out, OwnT.nil _, HK3.out, HH3.out, HDN.out, fun x hx => by simp [Value.ownBlock] at hx⟩
    case round =>
      obtain ⟨i, f, ts, a8, c8, d, n, hi, hf, htl, rfl, rfl, HF, HO, HK, HH, HD, HX⟩ := hrel
      clear HK3 HH3
      by_cases hlt : i < b.length
      case neg =>
        obtain rfl : i = b.length := by omega
        have HR : Hid (found b S = ts) := by have := HF.out; rw [HFE.out, List.append_nil] at this; exact this
        clear hlt HF
        go_wp2_with fail
        go_ret2
        exact ⟨_, rfl, by rw [HR.out]; exact HO.out.ts, HKC.out.trans HK.out (by simp)⟩
      have hltz : (i : Int) < (b.length : Int) := by omega
      obtain ⟨f', rfl⟩ : ∃ f', f = f' + 1 := ⟨f - 1, by omega⟩
      have HF1 : Hid (found b S = ts ++ stepT b S i :: fdF b S f' (i + sz1 (stepT b S i))) := by have := HF.out; rw [HFS.out f' i hlt] at this; exact this
      have hzo : (d = 0 ∧ n = 0) ∨ (1 ≤ d ∧ 2 ≤ n) := by have := HZO.out i hi; rw [HD.out.1, HD.out.2] at this; omega
      have hsm : 0 ≤ d ∧ d ≤ i ∧ 0 ≤ n ∧ (i : Int) + n ≤ b.length := by have := HSM.out i hi; rw [HD.out.1, HD.out.2] at this; omega
      have HL1 := Lib.hid (HLIT.out i hlt)
      have HC1 := Lib.hid (HCPY.out i hlt)
      rw [HD.out.1, HD.out.2] at HL1 HC1
      have h0 := HH.out.cell 0 _ rfl
      have h1 := HH.out.cell 1 _ rfl
      simp only [List.getElem_toArray, List.getElem_cons_zero, List.getElem_cons_succ] at h0 h1
      clear HF
      go_wp2_with fail
      refine (HNXF.out wr HK.out i hlt d n (by omega)).mono ?_
      rintro e w4 ⟨rfl, hk4⟩
      generalize nextT b S i d n = N at HL1 HC1 ⊢
      obtain ⟨nl, nd, nn⟩ := N
      simp only at HL1 HC1 ⊢
      have HO4 : Hid (OwnT w4 (.slice a8 ts.length c8) ts) := HO.out.keep hk4 (by simp)
      have HK4 : Hid (Keep [] wo w4) := HK.out.trans hk4 (by simp)
      have HH4 : Hid (Blk w4 gh #[.int .i64 d, .int .i64 n] 117) := HH.out.keep hk4 (by simp)
      clear HO HK HH hk4 h0 h1
      go_upto_region 9 with fail
      have HO5 : Hid (OwnT (w4.alloc (.cells #[.int .i64 nd, .int .i64 nn] 117)) (.slice a8 ts.length c8) ts) := HO4.out.keep ((Keep.refl [] w4).alloc _) (by simp)
      have HK5 : Hid (Keep [] wo (w4.alloc (.cells #[.int .i64 nd, .int .i64 nn] 117))) := HK4.out.alloc _
      have HH5 : Hid (Blk (w4.alloc (.cells #[.int .i64 nd, .int .i64 nn] 117)) gh #[.int .i64 d, .int .i64 n] 117) := HH4.out.alloc _
      have HN5 : Hid (Blk (w4.alloc (.cells #[.int .i64 nd, .int .i64 nn] 117)) w4.heap.size #[.int .i64 nd, .int .i64 nn] 117) := Blk.new _ _ _
      have HGN : Hid (∀ x, (Value.slice a8 ts.length c8).ownBlock = some x → x < w4.heap.size) := fun x hx => HO4.out.lt x hx
      have HGG : Hid (gh < w4.heap.size) := HH4.out.lt
      generalize w4.alloc (.cells #[.int .i64 nd, .int .i64 nn] 117) = w5 at HO5 HK5 HH5 HN5 ⊢
      generalize w4.heap.size = gn at HN5 HGN HGG ⊢
      clear HO4 HK4 HH4
      have h0 := HH5.out.cell 0 _ rfl
      have h1 := HH5.out.cell 1 _ rfl
      have k0 := HN5.out.cell 0 _ rfl
      have k1 := HN5.out.cell 1 _ rfl
      simp only [List.getElem_toArray, List.getElem_cons_zero, List.getElem_cons_succ] at h0 h1 k0 k1
      obtain ⟨cb, hcb⟩ : ∃ cb, decide ((d = 0 ∧ n = 0) ∨ n < nn) = cb := ⟨_, rfl⟩
      have HCB := Lib.hid hcb
      clear hcb
      go_cut [41] (fun cv wx => wx = w5 ∧ cv = .bool cb)
      case first =>
        rcases hzo with hz | hz
        · obtain ⟨rfl, rfl⟩ := hz
          have HT : Hid (cb = true) := by rw [Hid, ← HCB.out]; simp
          go_wp2_with fail
          go_meet
          exact ⟨rfl, by rw [HT.out]⟩
        · have z1 : ¬ d = 0 := by omega
          by_cases hnn : n < nn
          · have HT : Hid (cb = true) := by rw [Hid, ← HCB.out]; simp [hnn]
            go_wp2_with fail
            go_meet
            exact ⟨rfl, by rw [HT.out]⟩
          · have HT : Hid (cb = false) := by rw [Hid, ← HCB.out]; simp [hnn]; omega
            go_wp2_with fail
            go_meet
            exact ⟨rfl, by rw [HT.out]⟩
      case rest =>
        obtain ⟨hw, rfl⟩ := hcut
        have hw' := hw.symm
        subst hw'
        clear h0 h1 k0 k1
        cases cb with
        | true =>
          have hP : (d = 0 ∧ n = 0) ∨ n < nn := of_decide_eq_true HCB.out
          obtain ⟨hst, hat⟩ := HL1.out hP
          have HL : Hid (found b S = (ts ++ [(⟨b.getD i 0, 0, 0⟩ : Tk)]) ++ fdF b S f' (i + 1)) := by
            have := HF1.out
            rw [hst] at this
            rw [Hid, this]
            simp [sz1]
          have HDN1 : Hid ((atT b S (i + 1)).dist = nd ∧ (atT b S (i + 1)).len = nn) := by rw [Hid, ← hat]; exact ⟨rfl, rfl⟩
          clear HL1 HC1 HF1 hst hat hP HCB hzo HD HDN
          obtain ⟨gb, off, cap', hv, e0⟩ := HIC.out w5 (HKC.out.trans HK5.out (by simp)) i hlt
          simp only [Value.slice.injEq] at hv
          obtain ⟨hv1, hv2, hv3⟩ := hv
          subst hv1 hv3
          clear hv2
          obtain ⟨c, hc⟩ : ∃ c : UInt8, b.getD i 0 = c := ⟨_, rfl⟩
          rw [show b[i] = c from by rw [← hc, List.getD_eq_getElem?_getD, List.getElem?_eq_getElem hlt]; rfl] at e0
          rw [hc] at HL
          clear hc
          have HSS1 : Hid (Blk (w5.alloc (.cells (⟨c, 0, 0⟩ : Tk).cells.toArray 42)) w5.heap.size (⟨c, 0, 0⟩ : Tk).cells.toArray 42) := Blk.new _ _ _
          have HWT : Hid ((⟨c, 0, 0⟩ : Tk).wf) := ⟨wf0, wf0⟩
          have HS' : Hid (ts.length ≤ 1000000) := by show _ ≤ _; omega
          go_wp2_with (at_builtin; (refine wpList_appendT (.tmp 42) (.tmp 48) rfl rfl (.slice a8 ts.length c8) ts rfl (HO5.out.keep ((Keep.refl [] w5).alloc _) (by simp)) w5.heap.size (⟨c, 0, 0⟩ : Tk) rfl HSS1.out HWT.out HS'.out ?_); (intro v8 w8 o8 k8 b8 z8); (obtain ⟨g8, c9, hv8⟩ := o8.blk z8); (subst hv8); (have hn5 : w5.heap.size ∉ (Value.slice a8 ts.length c8).ownBlock.toList := fun hx => absurd (HO5.out.lt _ (by simpa using hx)) (Nat.lt_irrefl _)); (have HH8 := Lib.hid ((HH5.out.alloc _).keep k8 (fun hx => absurd (HX.out _ (by simpa using hx)) (Nat.lt_irrefl _)))); (have HN8 := Lib.hid ((HN5.out.alloc _).keep k8 (fun hx => absurd (HGN.out _ (by simpa using hx)) (Nat.lt_irrefl _)))); (have h0 := HH8.out.cell 0 _ rfl); (have h1 := HH8.out.cell 1 _ rfl); (have k0 := HN8.out.cell 0 _ rfl); (have k1 := HN8.out.cell 1 _ rfl); (have p0 := HH8.out.free 0); (have p1 := HH8.out.free 1); (simp only [List.getElem_toArray, List.getElem_cons_zero, List.getElem_cons_succ] at h0 h1 k0 k1))
          have HG8 : Hid (gh < g8) := by
            rcases b8 g8 rfl with h | h
            · exact HX.out _ h
            · have := HH5.out.lt; show gh < g8; rw [h, World.size_alloc]; omega
          have HKS : Hid (Keep [gh] w8 ((w8.setCell ⟨gh, 0, none⟩ (.int .i64 nd)).setCell ⟨gh, 1, none⟩ (.int .i64 nn))) := ((Keep.refl [gh] w8).setCell (.inl (List.mem_singleton.2 rfl)) _).setCell (.inl (List.mem_singleton.2 rfl)) _
          have HO9 : Hid (OwnT ((w8.setCell ⟨gh, 0, none⟩ (.int .i64 nd)).setCell ⟨gh, 1, none⟩ (.int .i64 nn)) (.slice (some ⟨g8, 0, none⟩) (ts ++ [(⟨c, 0, 0⟩ : Tk)]).length c9) (ts ++ [(⟨c, 0, 0⟩ : Tk)])) := o8.keep HKS.out (by
            intro x hx
            have hx2 : g8 = x := by simpa [Value.ownBlock] using hx
            have := HG8.out
            simp; omega)
          have HK8 : Hid (Keep [] wo w8) := (HK5.out.alloc _).trans k8 (fun x hx => .inr (by have := HX.out x (by simpa using hx); have := HGH.out; omega))
          have HK9 : Hid (Keep [] wo ((w8.setCell ⟨gh, 0, none⟩ (.int .i64 nd)).setCell ⟨gh, 1, none⟩ (.int .i64 nn))) := HK8.out.trans HKS.out (fun x hx => .inr (by have := HGH.out; simp at hx; omega))
          have HH9 : Hid (Blk ((w8.setCell ⟨gh, 0, none⟩ (.int .i64 nd)).setCell ⟨gh, 1, none⟩ (.int .i64 nn)) gh #[.int .i64 nd, .int .i64 nn] 117) := (HH8.out.set 0 (.int .i64 nd)).set 1 (.int .i64 nn)
          have HXX : Hid (∀ x, (Value.slice (some ⟨g8, 0, none⟩) (ts ++ [(⟨c, 0, 0⟩ : Tk)]).length c9).ownBlock = some x → gh < x) := fun x hx => by
            have hx2 : g8 = x := by simpa [Value.ownBlock] using hx
            have := HG8.out
            omega
          go_roundw
          case rel => exact ⟨i + 1, f', ts ++ [(⟨c, 0, 0⟩ : Tk)], some ⟨g8, 0, none⟩, c9, nd, nn, by omega, by omega, by simp; omega, by go_num, by simp, HL.out, HO9.out, HK9.out, HH9.out, HDN1.out, HXX.out⟩
          case measure => simp [intOf]; omega
        | false =>
          have hP : ¬ ((d = 0 ∧ n = 0) ∨ n < nn) := of_decide_eq_false HCB.out
          have hz : 1 ≤ d ∧ 2 ≤ n := by omega
          obtain ⟨nk, rfl⟩ := Int.eq_ofNat_of_zero_le (show 0 ≤ n by omega)
          have hst := HC1.out hP
          have HL : Hid (found b S = (ts ++ [(⟨0, d, (nk : Int)⟩ : Tk)]) ++ fdF b S f' (i + nk)) := by
            have := HF1.out
            rw [hst] at this
            rw [Hid, this]
            have e : sz1 (⟨0, d, (nk : Int)⟩ : Tk) = nk := by unfold sz1; rw [if_neg (by simp; omega)]; simp
            rw [e]
            simp
          have hik : i + nk ≤ b.length := by omega
          have hnk2 : 2 ≤ nk := by omega
          have hd2 : 1 ≤ d ∧ d ≤ 100000 := by omega
          clear HL1 HC1 HF1 hst hP HCB hzo HD HDN hsm hz
          have HSS1 : Hid (Blk (w5.alloc (.cells (⟨0, d, (nk : Int)⟩ : Tk).cells.toArray 42)) w5.heap.size (⟨0, d, (nk : Int)⟩ : Tk).cells.toArray 42) := Blk.new _ _ _
          have HWT : Hid ((⟨0, d, (nk : Int)⟩ : Tk).wf) := ⟨by simp [Lit.wf, IntKind.min, IntKind.max, IntKind.bits, IntKind.signed]; omega, by simp [Lit.wf, IntKind.min, IntKind.max, IntKind.bits, IntKind.signed]; omega⟩
          have HS' : Hid (ts.length ≤ 1000000) := by show _ ≤ _; omega
          have h0 := HH5.out.cell 0 _ rfl
          have h1 := HH5.out.cell 1 _ rfl
          simp only [List.getElem_toArray, List.getElem_cons_zero, List.getElem_cons_succ] at h0 h1
          go_wp2_with (at_builtin; (refine wpList_appendT (.tmp 53) (.tmp 59) rfl rfl (.slice a8 ts.length c8) ts rfl (HO5.out.keep ((Keep.refl [] w5).alloc _) (by simp)) w5.heap.size (⟨0, d, (nk : Int)⟩ : Tk) rfl HSS1.out HWT.out HS'.out ?_); (intro v8 w8 o8 k8 b8 z8); (obtain ⟨g8, c9, hv8⟩ := o8.blk z8); (subst hv8); (have HH8 := Lib.hid ((HH5.out.alloc _).keep k8 (fun hx => absurd (HX.out _ (by simpa using hx)) (Nat.lt_irrefl _)))); (clear h0 h1); (have h0 := HH8.out.cell 0 _ rfl); (have h1 := HH8.out.cell 1 _ rfl); (simp only [List.getElem_toArray, List.getElem_cons_zero, List.getElem_cons_succ] at h0 h1))
          have HG8 : Hid (gh < g8) := by
            rcases b8 g8 rfl with h | h
            · exact HX.out _ h
            · have := HH5.out.lt; show gh < g8; rw [h, World.size_alloc]; omega
          have HK8 : Hid (Keep [] wo w8) := (HK5.out.alloc _).trans k8 (fun x hx => .inr (by have := HX.out x (by simpa using hx); have := HGH.out; omega))
          have HAT1 := HATF.out w8 HK8.out (i + nk) hik
          refine Calls.mono (by exact_mod_cast HAT1) ?_
          rintro e w9 ⟨rfl, hk9⟩
          obtain ⟨dd, hdd⟩ : ∃ dd, (atT b S (i + nk)).dist = dd := ⟨_, rfl⟩
          obtain ⟨ln, hln⟩ : ∃ ln, (atT b S (i + nk)).len = ln := ⟨_, rfl⟩
          have HDN1 : Hid ((atT b S (i + nk)).dist = dd ∧ (atT b S (i + nk)).len = ln) := ⟨hdd, hln⟩
          rw [hdd, hln]
          clear hdd hln h0 h1 HAT1
          have HH9 : Hid (Blk w9 gh #[.int .i64 d, .int .i64 (nk : Int)] 117) := HH8.out.keep hk9 (by simp)
          have HO9 : Hid (OwnT w9 (.slice (some ⟨g8, 0, none⟩) (ts ++ [(⟨0, d, (nk : Int)⟩ : Tk)]).length c9) (ts ++ [(⟨0, d, (nk : Int)⟩ : Tk)])) := o8.keep hk9 (by simp)
          have HK9 : Hid (Keep [] wo w9) := HK8.out.trans hk9 (by simp)
          clear hk9 HH8 HK8 k8 b8 z8 o8
          have h0 := HH9.out.cell 0 _ rfl
          have h1 := HH9.out.cell 1 _ rfl
          have p0 := HH9.out.free 0
          have p1 := HH9.out.free 1
          simp only [List.getElem_toArray, List.getElem_cons_zero, List.getElem_cons_succ] at h0 h1
          have HKS : Hid (Keep [gh] w9 ((w9.setCell ⟨gh, 0, none⟩ (.int .i64 dd)).setCell ⟨gh, 1, none⟩ (.int .i64 ln))) := ((Keep.refl [gh] w9).setCell (.inl (List.mem_singleton.2 rfl)) _).setCell (.inl (List.mem_singleton.2 rfl)) _
          have HXX : Hid (∀ x, (Value.slice (some ⟨g8, 0, none⟩) (ts ++ [(⟨0, d, (nk : Int)⟩ : Tk)]).length c9).ownBlock = some x → gh < x) := fun x hx => by
            have hx2 : g8 = x := by simpa [Value.ownBlock] using hx
            have := HG8.out
            omega
          have HOA : Hid (OwnT ((w9.setCell ⟨gh, 0, none⟩ (.int .i64 dd)).setCell ⟨gh, 1, none⟩ (.int .i64 ln)) (.slice (some ⟨g8, 0, none⟩) (ts ++ [(⟨0, d, (nk : Int)⟩ : Tk)]).length c9) (ts ++ [(⟨0, d, (nk : Int)⟩ : Tk)])) := HO9.out.keep HKS.out (by
            intro x hx
            have := HXX.out x hx
            simp; omega)
          have HKA : Hid (Keep [] wo ((w9.setCell ⟨gh, 0, none⟩ (.int .i64 dd)).setCell ⟨gh, 1, none⟩ (.int .i64 ln))) := HK9.out.trans HKS.out (fun x hx => .inr (by have := HGH.out; simp at hx; omega))
          have HHA : Hid (Blk ((w9.setCell ⟨gh, 0, none⟩ (.int .i64 dd)).setCell ⟨gh, 1, none⟩ (.int .i64 ln)) gh #[.int .i64 dd, .int .i64 ln] 117) := (HH9.out.set 0 (.int .i64 dd)).set 1 (.int .i64 ln)
          go_wp2_with fail
          go_roundw
          case rel => exact ⟨i + nk, f', ts ++ [(⟨0, d, (nk : Int)⟩ : Tk)], some ⟨g8, 0, none⟩, c9, dd, ln, by omega, by omega, by simp; omega, by go_num, by simp, HL.out, HOA.out, HKA.out, HHA.out, HDN1.out, HXX.out⟩
          case measure => simp [intOf]; omega
end Go.Proofs.YthmojejiaeninaaGreat
