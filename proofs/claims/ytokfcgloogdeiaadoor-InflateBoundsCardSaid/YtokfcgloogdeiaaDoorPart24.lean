/- Texts put together: InfLaw1 -/
import Derived.Test.YtokfcgloogdeiaaDoorPart22
import Derived.Test.YtokfcgloogdeiaaDoorPart15
import Derived.Test.YtokfcgloogdeiaaDoorPart23
import Derived.Test.YtokfcgloogdeiaaDoorPart3
namespace Go.Proofs.YtokfcgloogdeiaaDoor
set_option linter.unusedVariables false
set_option linter.unusedSimpArgs false
set_option maxRecDepth 100000
open Go.ChangeShapes Go.WideShapes Go.ChangeAt Go.RowKit

theorem fixD_len : fixD.length = 32 := by decide
theorem own_blk18 {w : World} {v : Value} {l : List Int} (h : OwnI w v l) (hl : 0 < l.length) : ∃ g c, v = .slice (some ⟨g, 0, none⟩) l.length c := by
  rcases h.1.2 with ⟨h', _⟩ | ⟨g', cap', cur, h', _⟩
  · obtain ⟨a, c, hv, _⟩ := h.is.sh
    rw [h'] at hv
    simp only [Value.slice.injEq] at hv
    omega
  · exact ⟨g', cap', h'⟩
theorem decA : dec18 [75, 4, 0] false 1 = ([97], 3, 0) := by decide +kernel
theorem lives18_c (w : World) (hg : G18 w) : Calls Tryd.prog 7 #[] w fun e w' => e = .returned (.bool true) ∧ Keep [] w w' := by
  have hb : Bs (w.alloc (.cells #[.int .u8 75, .int .u8 4, .int .u8 0] 5)) (.slice (some ⟨w.heap.size, 0, none⟩) 3 3) [75, 4, 0] := Bs.lit w [75, 4, 0] _ _ rfl rfl (by decide)
  have HD := Lib.hid (inf_decode _ _ _ false 1 (hg.keep ((Keep.refl [] w).alloc _)) hb (by decide) (by decide))
  rw [decA] at HD
  go_enter Tryd.func7, Tryd.ntmps7
  go_wp2_with fail
  refine HD.out.mono ?_; rintro e w2 ⟨v2, rfl, hb2, k2⟩
  have ht := hb2.text
  have hte : ((txt [97]).toList == [97]) = true := by decide +kernel
  go_wp2_with fail
  go_ret
  exact ⟨by first | rfl | (rw [hte]), ((Keep.refl [] w).alloc _).trans k2 (by simp)⟩
set_option maxHeartbeats 2000000 in
theorem infbounds_w (W : World) (hg : G18 W) (v0 : Value) (l0 : List UInt8) (h0 : Bs W v0 l0) (size : Int) (hs : (Lit.int .i64 size).wf = true) : Calls Tryd.prog 3 #[v0, .int .i64 size] W fun e w' => e = .returned (.bool true) ∧ Keep [] W w' := by
  have HG18 := Lib.hid (fun w' (k : Keep [] W w') => hg.keep k)
  clear hg
  have c1 := fun w3 v3 l lg (k3 : Keep [] W w3) (h3 : Bs w3 v3 l) (hl : l.length ≤ 1000000) => inf_decode w3 v3 l lg size (HG18.out w3 k3) h3 hl hs
  have HC1 := Lib.hid c1; clear c1 hs
  go_enter Tryd.func3, Tryd.ntmps3
  go_wp2_with fail
  refine (cut_c W v0 l0 400 (by decide) h0).mono ?_; rintro e w1 ⟨v1, rfl, h1, -, rfl⟩
  have hlen : (l0.take 400).length ≤ 400 := by rw [List.length_take]; omega
  generalize l0.take 400 = l at h1 hlen
  clear h0
  obtain ⟨a1, cp1, rfl, _⟩ := h1.shape
  have d1 := HC1.out W _ l false (Keep.refl [] W) h1 (by omega)
  have hok := dec18_ok l false size
  have herr := dec18_err l false size
  have hup := dec18_up l size
  have d2 := fun w3 (k3 : Keep [] W w3) (h3 : Bs w3 (.slice a1 l.length cp1) l) => HC1.out w3 _ l true k3 h3 (by omega)
  obtain ⟨⟨Y, m, fr⟩, hD2⟩ : ∃ D2, dec18 l true size = D2 := ⟨_, rfl⟩
  rw [hD2] at hup d2
  clear hD2
  generalize dec18 l false size = D at d1 hok herr hup
  obtain ⟨X, n, er⟩ := D
  dsimp only at d1 hok herr hup d2
  have HD1 := Lib.hid d1; clear d1
  have HD2 := Lib.hid d2; clear d2
  have HB := Lib.hid h1
  have HUP := Lib.hid hup; clear hup
  go_wp2_with fail
  refine HD1.out.mono ?_; rintro e w3 ⟨v3, rfl, h3, k3⟩
  have hb3 := HB.out.keep k3 (by simp)
  have HD2' := Lib.hid (HD2.out w3 k3 hb3)
  have HX := Lib.hid h3
  obtain ⟨a3, cp3, rfl, _⟩ := h3.shape
  clear HD1 HC1 h1 h3 hb3 HB HD2
  by_cases h0 : er = 0
  · obtain ⟨o2, o3⟩ := hok h0
    subst h0
    have q1 : ((X.length : Int) != size) = false := by simp; omega
    have q2 : decide (8 * (l.length : Int) < (n : Int)) = false := decide_eq_false (by omega)
    have q2' : decide (8 * l.length < n) = false := decide_eq_false (by omega)
    have q5 : IntKind.i64.wrap (8 * (l.length : Int)) = 8 * l.length := by rw [IntKind.wrap_i64]; omega
    by_cases hz : size < 258
    · have t1 : decide (size < 258) = true := by simpa using hz
      have hu := HUP.out hz rfl
      simp only [Prod.mk.injEq] at hu
      obtain ⟨rfl, rfl, rfl⟩ := hu
      clear o2 o3 hok herr hz HUP
      go_wp2_with fail
      refine HD2'.out.mono ?_; rintro e w4 ⟨v4, rfl, h4, k4⟩
      have hs := same_c w4 (.slice a3 Y.length cp3) v4 Y Y (HX.out.keep k4 (by simp)) h4
      simp only [decide_true] at hs
      have HS := Lib.hid hs; clear hs h4
      have KK : Keep [] W w4 := k3.trans k4 (by simp)
      clear HD2' HX
      go_wp2_with fail
      refine HS.out.mono ?_; rintro e w5 ⟨rfl, n5, rfl⟩
      have K5 : Keep [] W (w4.drewN n5) := KK.drewN n5
      clear HS KK k4
      generalize w4.drewN n5 = w5 at *
      go_wp2_with fail
      refine (lives18_c _ (HG18.out _ (by first | assumption | exact Hid.out (by assumption)))).mono ?_; rintro e w7 ⟨rfl, k7⟩
      go_wp2_with fail
      go_ret
      exact ⟨rfl, K5.trans k7 (by simp)⟩
    · have t1 : decide (size < 258) = false := by simpa using hz
      clear o2 o3 hok herr hz HUP HD2' HX
      go_wp2_with fail
      refine (lives18_c _ (HG18.out _ (by first | assumption | exact Hid.out (by assumption)))).mono ?_; rintro e w7 ⟨rfl, k7⟩
      go_wp2_with fail
      go_ret
      exact ⟨rfl, k3.trans k7 (by simp)⟩
  · obtain ⟨rfl, rfl⟩ := herr h0
    have q1 : ((er : Int) != 0) = true := by simp; omega
    clear hok herr h0 HUP HD2' HX
    go_wp2_with fail
    refine (lives18_c _ (HG18.out _ (by first | assumption | exact Hid.out (by assumption)))).mono ?_; rintro e w7 ⟨rfl, k7⟩
    go_wp2_with fail
    go_ret
    exact ⟨rfl, k3.trans k7 (by simp)⟩
set_option maxHeartbeats 2000000 in
theorem inffixed_w (W : World) (hg : G18 W) (at0 : Int) (ha : (Lit.int .i64 at0).wf = true) (n : Int) (hn : (Lit.int .i64 n).wf = true) : Calls Tryd.prog 4 #[.int .i64 at0, .int .i64 n] W fun e w' => e = .returned (.bool true) ∧ Keep [] W w' := by
  have HG18 := Lib.hid (fun w' (k : Keep [] W w') => hg.keep k)
  clear hg
  have HI := Lib.hid (fun w => inf_fixed w)
  have HR := Lib.hid (fun w => rfixed18_c w)
  have HN := Lib.hid hn
  clear ha hn
  go_enter Tryd.func4, Tryd.ntmps4
  go_wp2_with fail
  refine (HI.out W).mono ?_; rintro e w1 ⟨a, b, rfl, oa, ob, k1, fa, fb, hab⟩
  go_wp2_with fail
  refine (HR.out w1).mono ?_; rintro e w2 ⟨c, d, rfl, oc, od, k2, fc, fd⟩
  have oa2 := oa.keep k2 (by simp)
  have ob2 := ob.keep k2 (by simp)
  have HS1 := Lib.hid (sameints_c w2 a c fixL oa2.is oc.is)
  go_wp2_with fail
  refine HS1.out.mono ?_; rintro e w3 ⟨rfl, n3, rfl⟩
  have kd : Keep [] w2 (w2.drewN n3) := (Keep.refl [] w2).drewN n3
  have HS2 := Lib.hid (sameints_c (w2.drewN n3) b d fixD (ob2.is.keep kd (by simp)) (od.is.keep kd (by simp)))
  go_wp2_with fail
  refine HS2.out.mono ?_; rintro e w4 ⟨rfl, n4, rfl⟩
  have kd2 : Keep [] w2 ((w2.drewN n3).drewN n4) := kd.drewN n4
  have HOA := Lib.hid (oa2.keep kd2 (by simp)); have HOB := Lib.hid (ob2.keep kd2 (by simp)); have HOC := Lib.hid (oc.keep kd2 (by simp)); have HOD := Lib.hid (od.keep kd2 (by simp))
  have HK4 : Hid (Keep [] W ((w2.drewN n3).drewN n4)) := (k1.trans k2 (by simp)).trans kd2 (by simp)
  have HLA := Lib.hid (fun x hx => oa.lt x hx); have HLB := Lib.hid (fun x hx => ob.lt x hx)
  have HFA := Lib.hid fa; have HFB := Lib.hid fb; have HFC := Lib.hid fc; have HFD := Lib.hid fd; have HAB := Lib.hid hab
  clear HS1 HS2 oa ob oc od k1 k2 oa2 ob2 kd kd2 fa fb fc fd hab
  generalize (w2.drewN n3).drewN n4 = w4 at *
  obtain ⟨ga, ca, rfl⟩ := own_blk18 HOA.out (by rw [fixL_len]; decide)
  obtain ⟨gb, cb, rfl⟩ := own_blk18 HOB.out (by decide)
  rw [fixL_len] at *
  rw [fixD_len] at *
  obtain ⟨i, hi⟩ : ∃ i : Nat, max 0 (min at0 287) = (i : Int) := ⟨(max 0 (min at0 287)).toNat, by omega⟩
  obtain ⟨j, hj⟩ : ∃ j : Nat, max 0 (min at0 31) = (j : Int) := ⟨(max 0 (min at0 31)).toNat, by omega⟩
  have hi2 : i < 288 := by omega
  have hj2 : j < 32 := by omega
  have HW1 := Lib.hid (fun w => within_c at0 0 287 w (by decide))
  have HW2 := Lib.hid (fun w => within_c at0 0 31 w (by decide))
  rw [hi] at HW1
  rw [hj] at HW2
  have hne : ga ≠ gb := fun e => HAB.out (by simp [Value.ownBlock, e])
  have ca1 := HOA.out.cell i (by rw [fixL_len]; exact hi2)
  have ca2 := HOA.out.free i
  have kA : Keep [ga] w4 (w4.setCell ⟨ga, i, none⟩ (.int .i64 n)) := (Keep.refl [ga] w4).setCell (.inl (by simp)) _
  have ob5 := HOB.out.keep kA (fun x hx hm => by simp [Value.ownBlock] at hx hm; omega)
  have cb1 := ob5.cell j (by rw [fixD_len]; exact hj2)
  have cb2 := ob5.free j
  have kB : Keep [ga, gb] w4 ((w4.setCell ⟨ga, i, none⟩ (.int .i64 n)).setCell ⟨gb, j, none⟩ (.int .i64 n)) := (kA.mono (by simp)).setCell (.inl (by simp)) _
  have KB : Hid (Keep [] W ((w4.setCell ⟨ga, i, none⟩ (.int .i64 n)).setCell ⟨gb, j, none⟩ (.int .i64 n))) := HK4.out.trans kB (fun x hx => by
    simp at hx
    rcases hx with rfl | rfl
    · exact .inr (HFA.out _ rfl)
    · exact .inr (HFB.out _ rfl))
  have hla := HLA.out ga rfl
  have hlb := HLB.out gb rfl
  have HOC6 := Lib.hid (HOC.out.is.keep kB (fun x hx hm => by have := HFC.out x hx; simp at hm; omega))
  have HOD6 := Lib.hid (HOD.out.is.keep kB (fun x hx hm => by have := HFD.out x hx; simp at hm; omega))
  have hii : (i : Int) < 288 := by omega
  have hjj : (j : Int) < 32 := by omega
  clear hi hj hne kA kB ob5 hla hlb HOA HOB HOC HOD HLA HLB HFA HFB HFC HFD HAB HK4
  generalize zn fixL i = z1 at ca1
  generalize zn fixD j = z2 at cb1
  go_wp2_with fail
  refine (HW1.out _).mono ?_; rintro e w5 ⟨rfl, rfl⟩
  go_wp2_with fail
  refine (HW2.out _).mono ?_; rintro e w6 ⟨rfl, rfl⟩
  go_wp2_with fail
  generalize (w4.setCell ⟨ga, i, none⟩ (.int .i64 n)).setCell ⟨gb, j, none⟩ (.int .i64 n) = w6 at *
  refine (HI.out w6).mono ?_; rintro e w7 ⟨a2, b2, rfl, oa, ob, k7, -, -, -⟩
  have HSA := Lib.hid (sameints_c w7 a2 c fixL oa.is (HOC6.out.keep k7 (by simp)))
  have HK7 : Hid (Keep [] W w7) := KB.out.trans k7 (by simp)
  have HSB := Lib.hid (fun m => sameints_c (w7.drewN m) b2 d fixD (ob.is.keep ((Keep.refl [] w7).drewN m) (by simp)) ((HOD6.out.keep k7 (by simp)).keep ((Keep.refl [] w7).drewN m) (by simp)))
  clear oa ob k7 KB HOC6 HOD6 ca1 ca2 cb1 cb2 HW1 HW2
  go_wp2_with fail
  refine HSA.out.mono ?_; rintro e w8 ⟨rfl, n8, rfl⟩
  go_wp2_with fail
  refine (HSB.out n8).mono ?_; rintro e w9 ⟨rfl, n9, rfl⟩
  have HK9 : Hid (Keep [] W ((w7.drewN n8).drewN n9)) := (HK7.out.drewN n8).drewN n9
  clear HSA HSB HK7
  generalize (w7.drewN n8).drewN n9 = w9 at *
  go_wp2_with fail
  refine (lives18_c _ (HG18.out _ (by first | assumption | exact Hid.out (by assumption)))).mono ?_; rintro e w10 ⟨rfl, k10⟩
  go_wp2_with fail
  go_ret
  exact ⟨rfl, HK9.out.trans k10 (by simp)⟩
end Go.Proofs.YtokfcgloogdeiaaDoor
