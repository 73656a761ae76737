/- Texts put together: InfLaw1 InfLaw3 InfMath7 InfLaw4 -/
import Derived.Test.YtokfcgloogdeiaaGreatDoorPart22
import Derived.Test.YtokfcgloogdeiaaGreatDoorPart14
import Derived.Test.YtokfcgloogdeiaaGreatDoorPart23
import Derived.Test.YtokfcgloogdeiaaGreatDoorPart3
import Derived.Test.YtokfcgloogdeiaaGreatDoorPart28
import Derived.Test.YtokfcgloogdeiaaGreatDoorPart27
import Derived.Test.YtokfcgloogdeiaaGreatDoorPart12
import Derived.Test.YtokfcgloogdeiaaGreatDoorPart15
namespace Go.Proofs.YtokfcgloogdeiaaGreatDoor
set_option linter.unusedVariables false
set_option linter.unusedSimpArgs false
set_option maxRecDepth 100000
open Go.ChangeShapes Go.WideShapes Go.ChangeAt Go.RowKit

theorem fixD_len : fixD.length = 32 := by decide
theorem own_blk18 {w : World} {v : Value} {l : List Int} (h : OwnI w v l) (hl : 0 < l.length) : ∃ g c, v = .slice (some ⟨g, 0, none⟩) l.length c := by
  rcases h.1.2 with ⟨h', _⟩ | ⟨g', cap', cur, h', _⟩
  · obtain ⟨a, c, hv, _⟩ := h.is.sh
    rw [h'] at hv
    simp only [Value.slice.injEq] at hv
    omega
  · exact ⟨g', cap', h'⟩
theorem decA : dec18 [75, 4, 0] false 1 = ([97], 3, 0) := by decide +kernel
theorem lives18_c (w : World) (hg : G18 w) : Calls Tryz.prog 11 #[] w fun e w' => e = .returned (.bool true) ∧ Keep [] w w' := by
  have hb : Bs (w.alloc (.cells #[.int .u8 75, .int .u8 4, .int .u8 0] 5)) (.slice (some ⟨w.heap.size, 0, none⟩) 3 3) [75, 4, 0] := Bs.lit w [75, 4, 0] _ _ rfl rfl (by decide)
  have HD := Lib.hid (inf_decode _ _ _ false 1 (hg.keep ((Keep.refl [] w).alloc _)) hb (by decide) (by decide))
  rw [decA] at HD
  go_enter Tryz.func11, Tryz.ntmps11
  go_wp2_with fail
  refine HD.out.mono ?_; rintro e w2 ⟨v2, rfl, hb2, k2⟩
  have ht := hb2.text
  have hte : ((txt [97]).toList == [97]) = true := by decide +kernel
  go_wp2_with fail
  go_ret
  exact ⟨by first | rfl | (rw [hte]), ((Keep.refl [] w).alloc _).trans k2 (by simp)⟩
set_option maxHeartbeats 2000000 in
theorem infreads_w (W : World) (hg : G18 W) (v0 : Value) (l0 : List UInt8) (h0 : Bs W v0 l0) (large : Bool) (size : Int) (hs : (Lit.int .i64 size).wf = true) : Calls Tryz.prog 3 #[v0, .bool large, .int .i64 size] W fun e w' => e = .returned (.bool true) ∧ Keep [] W w' := by
  have HG18 := Lib.hid (fun w' (k : Keep [] W w') => hg.keep k)
  clear hg
  have c1 := fun w3 v3 l (k3 : Keep [] W w3) (h3 : Bs w3 v3 l) (hl : l.length ≤ 1000000) => inf_decode w3 v3 l large size (HG18.out w3 k3) h3 hl hs
  have c2 := fun w3 v3 l (h3 : Bs w3 v3 l) (hl : l.length ≤ 1000000) => refdec18_c w3 v3 l large size h3 hl hs
  have HC1 := Lib.hid c1; have HC2 := Lib.hid c2; clear c1 c2 hs
  go_enter Tryz.func3, Tryz.ntmps3
  go_wp2_with fail
  refine (cut_c W v0 l0 400 (by decide) h0).mono ?_; rintro e w1 ⟨v1, rfl, h1, -, rfl⟩
  have hlen : (l0.take 400).length ≤ 400 := by rw [List.length_take]; omega
  generalize l0.take 400 = l at h1 hlen
  clear h0
  go_wp2_with fail
  refine (copy_c W v1 l (by omega) h1).mono ?_; rintro e w2 ⟨v2, rfl, h2, k2, b2⟩
  have h1' := h1.keep k2 (by simp)
  have d1 := HC1.out w2 v2 l k2 h2.bs (by omega)
  have d2 := fun w3 v3 (h3 : Bs w3 v3 l) => HC2.out w3 v3 l h3 (by omega)
  generalize dec18 l large size = D at d1 d2
  obtain ⟨X, n, er⟩ := D
  dsimp only at d1 d2
  have HD1 := Lib.hid d1; have HD2 := Lib.hid d2; clear d1 d2
  go_wp2_with fail
  refine HD1.out.mono ?_; rintro e w3 ⟨v3, rfl, h3, k3⟩
  have h1'' := h1'.keep k3 (by simp)
  have h2' := h2.bs.keep k3 (by simp)
  go_wp2_with fail
  refine (HD2.out w3 v1 h1'').mono ?_; rintro e w4 ⟨v4, rfl, h4, k4⟩
  have h3' := h3.keep k4 (by simp)
  have g1 := h1''.keep k4 (by simp)
  have g2 := h2'.keep k4 (by simp)
  have KK : Keep [] W w4 := ((k2.trans k3 (by simp)).trans k4 (by simp))
  have s1 := same_c w4 v3 v4 X X h3' h4
  simp only [decide_true] at s1
  have HS1 := Lib.hid s1; clear s1
  go_wp2_with fail
  refine HS1.out.mono ?_; rintro e w5 ⟨rfl, n5, rfl⟩
  have s2 := same_c (w4.drewN n5) v2 v1 l l (g2.keep ((Keep.refl [] w4).drewN n5) (by simp)) (g1.keep ((Keep.refl [] w4).drewN n5) (by simp))
  simp only [decide_true] at s2
  have HS2 := Lib.hid s2; clear s2
  go_wp2_with fail
  refine HS2.out.mono ?_; rintro e w6 ⟨rfl, n6, rfl⟩
  have K6 : Keep [] W ((w4.drewN n5).drewN n6) := (KK.drewN _).drewN _
  generalize (w4.drewN n5).drewN n6 = w6 at K6 ⊢
  go_wp2_with fail
  refine (lives18_c w6 (HG18.out _ (by first | assumption | exact Hid.out (by assumption)))).mono ?_; rintro e w7 ⟨rfl, k7⟩
  go_wp2_with fail
  go_ret
  exact ⟨rfl, K6.trans k7 (by simp)⟩
end Go.Proofs.YtokfcgloogdeiaaGreatDoor
namespace Go.Proofs.YtokfcgloogdeiaaGreatDoor
set_option linter.unusedVariables false
set_option linter.unusedSimpArgs false
set_option maxRecDepth 100000
open Go.ChangeShapes Go.WideShapes Go.ChangeAt Go.RowKit

theorem Pc.lit_wf {w : World} {v : Value} {l : List Int} (h : Is .i64 w v l) : ∀ z ∈ l, (Lit.int .i64 z).wf = true := by
  obtain ⟨_, _, _, _, _, _, _, h6⟩ := h
  exact h6
theorem fw_len (p : Pc) : (fwP p).bytes.length ≤ 100 ∧ (fwP p).toks.length ≤ 25 ∧ (fwP p).lit.length ≤ 286 ∧ (fwP p).dist.length ≤ 32 ∧ ((fwP p).kind = 2 → 257 ≤ (fwP p).lit.length ∧ 1 ≤ (fwP p).dist.length) := by
  unfold fwP
  dsimp only
  refine ⟨by rw [List.length_take]; omega, fewT_len _ _ _, by rw [List.length_take]; omega, by rw [List.length_take]; omega, fun h => ?_⟩
  split at h
  · omega
  · omega
theorem wrP_len18 (large : Bool) (ps : List Pc) (h : ∀ p ∈ ps, WfP p) (bits : List Bool) : (wrP large bits ps).length ≤ bits.length + 10000 * ps.length := by
  induction ps generalizing bits with
  | nil => simp [wrP]
  | cons p ps ih =>
    rw [wrP]
    have h1 := ih (fun q hq => h q (by simp [hq])) (pcB large ps.isEmpty bits p)
    have h2 := pcB_len18 large ps.isEmpty bits p (h p (by simp))
    rw [List.length_cons]; omega
theorem ofBits_len (bits : List Bool) : (ofBits bits).length ≤ bits.length := by
  unfold ofBits
  rw [List.length_map, List.length_range]; omega
theorem fw_wf (ps : List Pc) : ∀ p ∈ (ps.take 5).map fwP, WfP p := by
  intro p hp
  obtain ⟨q, _, rfl⟩ := List.mem_map.1 hp
  obtain ⟨h1, h2, h3, h4, h5⟩ := fw_len q
  exact ⟨h1, h2, fun h => ⟨(h5 h).1, h3, (h5 h).2, h4⟩⟩
set_option maxHeartbeats 4000000 in
theorem infblocks_w (W : World) (hg : G18 W) (v0 : Value) (ps : List Pc) (h0 : Pcs W v0 ps) (large : Bool) (size : Int) (hs : (Lit.int .i64 size).wf = true) (cut : Int) (hcw : (Lit.int .i64 cut).wf = true) : Calls Tryz.prog 4 #[v0, .bool large, .int .i64 size, .int .i64 cut] W fun e w' => e = .returned (.bool true) ∧ Keep [] W w' := by
  have HG18 := Lib.hid (fun w' (k : Keep [] W w') => hg.keep k)
  clear hg
  have c1 := fun w3 v3 l (k3 : Keep [] W w3) (h3 : Bs w3 v3 l) (hl : l.length ≤ 1000000) => inf_decode w3 v3 l large size (HG18.out w3 k3) h3 hl hs
  have c2 := fun w3 v3 l (h3 : Bs w3 v3 l) (hl : l.length ≤ 1000000) => refdec18_c w3 v3 l large size h3 hl hs
  have HC1 := Lib.hid c1; have HC2 := Lib.hid c2
  have HFW := Lib.hid (few18_c W v0 ps h0)
  have hps := fw_wf ps
  have hpl : ((ps.take 5).map fwP).length ≤ 5 := by simp; omega
  obtain ⟨qs, hqs⟩ : ∃ qs, (ps.take 5).map fwP = qs := ⟨_, rfl⟩
  rw [hqs] at HFW hps hpl
  have HWR := Lib.hid (fun w v (h : Pcs w v qs) => rwrite18_c w v qs large h hpl hps)
  have hll : (ofBits (wrP large [] qs)).length ≤ 50000 := by
    have h1 := ofBits_len (wrP large [] qs)
    have h2 := wrP_len18 large qs hps []
    simp at h2; omega
  generalize ofBits (wrP large [] qs) = L at HWR hll
  obtain ⟨a0, n0, cp0, rfl⟩ : ∃ a n c, v0 = .slice a n c := by
    obtain ⟨xs, hg, _⟩ := h0
    obtain ⟨a, c, rfl, _⟩ := hg.sh
    exact ⟨a, _, c, rfl⟩
  have HLL := Lib.hid hll
  clear c1 c2 hps hpl hqs h0 hll
  go_enter Tryz.func4, Tryz.ntmps4
  go_wp2_with fail
  refine HFW.out.mono ?_; rintro e w1 ⟨v1, rfl, h1, k1⟩
  have HW2 := Lib.hid (HWR.out w1 v1 h1)
  obtain ⟨a1, n1, cp1, rfl⟩ : ∃ a n c, v1 = .slice a n c := by
    obtain ⟨xs, hg, _⟩ := h1
    obtain ⟨a, c, rfl, _⟩ := hg.sh
    exact ⟨a, _, c, rfl⟩
  have HK1 := Lib.hid k1
  clear HFW HWR h1 k1
  go_wp2_with fail
  refine HW2.out.mono ?_; rintro e w2 ⟨v2, rfl, h2, k2⟩
  have hb2 := h2.bs
  have HK2 := Lib.hid (HK1.out.trans k2 (by simp))
  obtain ⟨a2, cp2, rfl, _⟩ := hb2.shape
  have HB2 := Lib.hid hb2
  obtain ⟨bz, hbz⟩ : ∃ bz : Bool, bz = true ↔ (0 ≤ cut ∧ cut < L.length) := ⟨decide (0 ≤ cut ∧ cut < L.length), decide_eq_true_iff⟩
  have HBZ := Lib.hid hbz
  have HCW := Lib.hid hcw
  clear hbz h2 k2 hb2 HW2 HK1 hcw
  go_upto_region 2 with fail
  go_cut [27] (fun cv wx => cv = .bool bz ∧ wx = w2)
  case first =>
    by_cases t1 : 0 ≤ cut
    · by_cases t2 : cut < L.length
      · have hb : bz = true := HBZ.out.2 ⟨t1, t2⟩
        subst hb
        have e1 : decide (0 ≤ cut) = true := by simpa using t1
        have e2 : decide (cut < (L.length : Int)) = true := by simpa using t2
        go_wp2_with fail
        go_meet
        exact ⟨rfl, rfl⟩
      · have hb : bz = false := by cases bz with | true => exact absurd (HBZ.out.1 rfl).2 t2 | false => rfl
        subst hb
        have e1 : decide (0 ≤ cut) = true := by simpa using t1
        have e2 : decide (cut < (L.length : Int)) = false := by simpa using t2
        go_wp2_with fail
        go_meet
        exact ⟨rfl, rfl⟩
    · have hb : bz = false := by cases bz with | true => exact absurd (HBZ.out.1 rfl).1 t1 | false => rfl
      subst hb
      have e1 : decide (0 ≤ cut) = false := by simpa using t1
      go_wp2_with fail
      go_meet
      exact ⟨rfl, rfl⟩
  case rest =>
  obtain ⟨rfl, hwc⟩ := hcut
  have h := hwc.symm; subst h
  clear hwc
  obtain ⟨L', hL'⟩ : ∃ L', L' = if bz then L.take cut.toNat else L := ⟨_, rfl⟩
  have HL' := Lib.hid hL'
  clear hL'
  go_upto_if 27 with fail
  go_cut [9] (fun bv wx => wx = w2 ∧ Bs w2 bv L')
  case first =>
    cases bz with
    | true =>
      obtain ⟨t1, t2⟩ := HBZ.out.1 rfl
      obtain ⟨c, rfl⟩ : ∃ c : Nat, cut = c := ⟨cut.toNat, by omega⟩
      have hl' : L' = L.take c := by have := HL'.out; rw [if_pos rfl] at this; simpa using this
      have hpre := HB2.out.pre c (by omega)
      rw [← hl'] at hpre
      have HPRE := Lib.hid hpre
      have t3 : c ≤ L.length := by omega
      clear hl' hpre HL'
      go_wp2_with fail
      go_meet
      exact ⟨rfl, HPRE.out⟩
    | false =>
      have hl' : L' = L := by have := HL'.out; rw [if_neg (by simp)] at this; exact this
      subst hl'
      clear HL'
      go_wp2_with fail
      go_meet
      exact ⟨rfl, HB2.out⟩
  case rest =>
  obtain ⟨hwc, hb⟩ := hcut
  have h := hwc.symm; subst h
  have hlen : L'.length ≤ 1000000 := by
    have h1 := HLL.out
    have h2 := HL'.out
    rw [h2]; split
    · rw [List.length_take]; omega
    · omega
  obtain ⟨a3, cp3, rfl, _⟩ := hb.shape
  have d1 := HC1.out w2 _ L' (by first | assumption | exact Hid.out (by assumption) | exact Keep.drewN (Hid.out (by assumption)) _ | exact Keep.drewN (by assumption) _) hb hlen
  have d2 := fun w3 v3 (h3 : Bs w3 v3 L') => HC2.out w3 v3 L' h3 hlen
  generalize dec18 L' large size = D at d1 d2
  obtain ⟨X, n, er⟩ := D
  dsimp only at d1 d2
  have HD1 := Lib.hid d1; have HD2 := Lib.hid d2
  have HB3 := Lib.hid hb
  clear d1 d2 hb hlen hwc HL' HLL HB2 HBZ HC1 HC2 HCW hs
  go_wp2_with fail
  refine HD1.out.mono ?_; rintro e w3 ⟨v3, rfl, h3, k3⟩
  have HX := Lib.hid h3
  have HD := Lib.hid (HD2.out w3 _ (HB3.out.keep k3 (by simp)))
  have HK3 := Lib.hid (HK2.out.trans k3 (by simp))
  obtain ⟨a4, cp4, rfl, _⟩ := h3.shape
  clear h3 k3 HD1 HD2 HB3 HK2
  go_wp2_with fail
  refine HD.out.mono ?_; rintro e w4 ⟨v4, rfl, h4, k4⟩
  have s1 := same_c w4 _ v4 X X (HX.out.keep k4 (by simp)) h4
  simp only [decide_true] at s1
  have HS1 := Lib.hid s1
  have HK4 := Lib.hid (HK3.out.trans k4 (by simp))
  obtain ⟨a5, cp5, rfl, _⟩ := h4.shape
  clear s1 h4 k4 HD HX HK3
  go_wp2_with fail
  refine HS1.out.mono ?_; rintro e w5 ⟨rfl, n5, rfl⟩
  go_wp2_with fail
  refine (lives18_c _ (HG18.out _ (by first | assumption | exact Hid.out (by assumption) | exact Keep.drewN (Hid.out (by assumption)) _ | exact Keep.drewN (by assumption) _))).mono ?_; rintro e w7 ⟨rfl, k7⟩
  go_wp2_with fail
  go_ret
  exact ⟨rfl, (HK4.out.drewN _).trans k7 (by simp)⟩
end Go.Proofs.YtokfcgloogdeiaaGreatDoor
namespace Go.Proofs.YtokfcgloogdeiaaGreatDoor
set_option linter.unusedVariables false
set_option linter.unusedSimpArgs false

theorem HS.tk_room {s : HS} {t : Tk} (m : Nat) (h1 : s.b.length + sz1 t ≤ s.most) (h2 : s.b.length + sz1 t ≤ m) : ({ s with most := m } : HS).tk t = ((s.tk t).1, { (s.tk t).2 with most := m }) := by
  unfold HS.tk sz1 at *
  by_cases h0 : t.len = 0
  · rw [if_pos h0] at h1 h2 ⊢
    rw [if_pos h0]
    unfold HS.lit
    dsimp only
    rw [if_neg (by omega), if_neg (by omega)]
  · rw [if_neg h0] at h1 h2 ⊢
    rw [if_neg h0]
    unfold HS.copy
    dsimp only
    by_cases g1 : t.dist < 1 ∨ t.len < 0
    · rw [if_pos g1, if_pos g1]
    rw [if_neg g1, if_neg g1]
    by_cases g2 : (s.win : Int) < t.dist ∨ ((s.b.length : Int) < t.dist ∧ s.nou = false)
    · rw [if_pos g2, if_pos g2]
    rw [if_neg g2, if_neg g2, if_neg (by omega), if_neg (by omega)]
theorem tellT_room {s : HS} {ts : List Tk} (m : Nat) (h1 : s.b.length + sumT ts ≤ s.most) (h2 : s.b.length + sumT ts ≤ m) : tellT { s with most := m } ts = ((tellT s ts).1, { (tellT s ts).2 with most := m }) := by
  induction ts generalizing s with
  | nil => rfl
  | cons t ts ih =>
    have hs : sumT (t :: ts) = sz1 t + sumT ts := by simp [sumT]
    rw [tellT, HS.tk_room m (by omega) (by omega), tellT]
    dsimp only
    by_cases h : (s.tk t).1 = 0
    · obtain ⟨k1, _, k3, _⟩ := HS.tk_ok h
      rw [if_pos h, if_pos h]
      exact ih (by omega) (by omega)
    · rw [if_neg h, if_neg h]
theorem tellT_fits {s : HS} {ts : List Tk} (h : (tellT s ts).1 = 0) (hs : s.b.length ≤ s.most) : s.b.length + sumT ts ≤ s.most := by
  rcases Nat.lt_or_ge s.most (s.b.length + sumT ts) with hlt | hge
  · have := tellT_less h s.most hs hlt
    have e : ({ s with most := s.most } : HS) = s := rfl
    rw [e, h] at this; simp at this
  · exact hge
/-- with just as much room as they need, up to a million: the same -/
theorem exp_room (T : List Tk) (win : Nat) (hw : 1 ≤ win ∧ win ≤ 65536) (m : Nat) (hm : m = min (sumT T) 1048576) :
    ((expT T win 1048576 false).1 = 0 → (tellT ⟨win, m, false, []⟩ T).1 = 0 ∧ (tellT ⟨win, m, false, []⟩ T).2.b = (expT T win 1048576 false).2 ∧ (tellT ⟨win, m, false, []⟩ T).2.b.length = m) ∧
    ((expT T win 1048576 false).1 ≠ 0 → (tellT ⟨win, m, false, []⟩ T).1 = (expT T win 1048576 false).1) := by
  have hE : expT T win 1048576 false = if (tellT ⟨win, 1048576, false, []⟩ T).1 = 0 then (0, (tellT ⟨win, 1048576, false, []⟩ T).2.b) else ((tellT ⟨win, 1048576, false, []⟩ T).1, []) := by
    have hb : ¬ winBad win 1048576 := by unfold winBad; omega
    unfold expT
    rw [if_neg hb]; rfl
  rw [hE]
  by_cases hle : sumT T ≤ 1048576
  · have hmm : m = sumT T := by omega
    have hr := tellT_room (s := ⟨win, 1048576, false, []⟩) (ts := T) m (by simpa using hle) (by simp; omega)
    dsimp only at hr
    rw [hr]
    dsimp only
    by_cases h0 : (tellT ⟨win, 1048576, false, []⟩ T).1 = 0
    · rw [if_pos h0]
      refine ⟨fun _ => ⟨h0, rfl, ?_⟩, fun h => absurd rfl h⟩
      have := tellT_size h0
      rw [this, hmm]; simp
    · rw [if_neg h0]
      exact ⟨fun h => absurd h h0, fun _ => rfl⟩
  · have hmm : m = 1048576 := by omega
    subst hmm
    have hne : (tellT ⟨win, 1048576, false, []⟩ T).1 ≠ 0 := fun h => by
      have := tellT_fits h (by simp)
      simp at this; omega
    rw [if_neg hne]
    exact ⟨fun h => absurd h hne, fun _ => rfl⟩
theorem few_sum (ts : List Tk) (n : Nat) : sumT (fewT ts n 70000) ≤ 70000 * n := by
  have h1 := fewT_len ts n 70000
  have h2 : ∀ t ∈ fewT ts n 70000, sz1 t ≤ 70000 := fun t ht => by
    unfold fewT at ht
    obtain ⟨u, _, rfl⟩ := List.mem_map.1 ht
    unfold sz1
    split
    · rename_i h
      split
      · omega
      · dsimp only; omega
    · rename_i h
      split <;> omega
  have key : ∀ l : List Tk, (∀ t ∈ l, sz1 t ≤ 70000) → sumT l ≤ 70000 * l.length := by
    intro l hl
    induction l with
    | nil => simp [sumT]
    | cons t l ih =>
      have := ih (fun x hx => hl x (by simp [hx]))
      have := hl t (by simp)
      have hs : sumT (t :: l) = sz1 t + sumT l := by simp [sumT]
      rw [hs, List.length_cons]; omega
  have := key _ h2
  have : 70000 * (fewT ts n 70000).length ≤ 70000 * n := Nat.mul_le_mul_left _ h1
  omega
theorem litT_sum (bs : List UInt8) : sumT (litT bs) = bs.length := by
  induction bs with
  | nil => rfl
  | cons b bs ih =>
    have : sumT (litT (b :: bs)) = 1 + sumT (litT bs) := by simp [sumT, litT, sz1]
    rw [this, ih, List.length_cons]; omega
theorem tkP_sum (q : Pc) : sumT (tkP (fwP q)) ≤ 1750000 ∧ (tkP (fwP q)).length ≤ 100 := by
  have h := fw_len q
  unfold tkP
  split
  · rw [litT_sum]; unfold litT; rw [List.length_map]; omega
  · refine ⟨?_, by omega⟩
    have := few_sum q.toks 25
    exact this
theorem tks_sum (ps : List Pc) (hp : ps.length ≤ 5) : sumT ((ps.map fwP).flatMap tkP) ≤ 8750000 ∧ ((ps.map fwP).flatMap tkP).length ≤ 500 := by
  have key : ∀ l : List Pc, sumT ((l.map fwP).flatMap tkP) ≤ 1750000 * l.length ∧ ((l.map fwP).flatMap tkP).length ≤ 100 * l.length := by
    intro l
    induction l with
    | nil => simp [sumT]
    | cons q l ih =>
      rw [List.map_cons, List.flatMap_cons, sumT_append, List.length_append, List.length_cons]
      have := tkP_sum q; omega
  have := key ps
  omega
/-- words by two lists that are right -/
theorem hasT_of {large : Bool} {lit dist : List Int} {t : Tk} (h1 : ∀ z ∈ lit, 0 ≤ z) (h2 : ∀ z ∈ dist, 0 ≤ z) (h : hasI large lit dist t) (hl : 257 ≤ lit.length) : hasT large (Ln lit) (Ln dist) t := by
  have key : ∀ (l : List Int) (i : Nat), (∀ z ∈ l, 0 ≤ z) → i < l.length → zn l i ≠ 0 → i < (Ln l).length ∧ 0 < len (Ln l) i := fun l i h0 hi hz => by
    refine ⟨by rw [Ln_length]; exact hi, ?_⟩
    rw [len_get _ _ (by rw [Ln_length]; exact hi)]
    rw [zn_get l i hi] at hz
    have := h0 _ (List.getElem_mem hi)
    simp only [Ln, List.getElem_map]; omega
  obtain ⟨a, b⟩ := h
  refine ⟨fun h0 => ?_, fun h0 => ?_⟩
  · have := t.lit.toNat_lt
    exact key lit _ h1 (by omega) (a h0)
  · obtain ⟨c1, c2, c3, c4, c5, c6⟩ := b h0
    obtain ⟨d1, d2⟩ := key lit _ h1 c3 c5
    obtain ⟨d3, d4⟩ := key dist _ h2 c4 c6
    exact ⟨c1, c2, d1, d3, d2, d4⟩
end Go.Proofs.YtokfcgloogdeiaaGreatDoor
namespace Go.Proofs.YtokfcgloogdeiaaGreatDoor
set_option linter.unusedVariables false
set_option linter.unusedSimpArgs false
set_option maxRecDepth 100000
open Go.ChangeShapes Go.WideShapes Go.ChangeAt Go.RowKit

theorem Ts.src {w : World} {v : Value} {ts : List Tk} (h : Ts w v ts) : Src w 3 v ts.length (tcells ts) := by
  obtain ⟨a, cap, rfl, h1, h2, h3, h4, h5⟩ := h
  refine ⟨tcells_len ts, fun u hu => ?_, ?_⟩
  · obtain ⟨t, _, ht⟩ := List.mem_flatMap.1 hu
    simp only [Tk.cells, List.mem_cons, List.mem_nil_iff, or_false] at ht
    rcases ht with rfl | rfl | rfl <;> rfl
  · cases a with
    | none =>
      have := h3 rfl
      left
      have h0 : ts.length = 0 := by omega
      exact ⟨by rw [h0, this], h0⟩
    | some x =>
      refine .inr ⟨x, cap, rfl, fun j u hu => ?_⟩
      have hj : j < (tcells ts).length := (List.getElem?_eq_some_iff.1 hu).1
      rw [tcells_len] at hj
      rw [h4 x rfl j hj]; exact hu
/-- append of a row of tokens -/
theorem wpList_appendTs {w : World} {ops : Array Oper} {rest : List Oper} {o : Oper} {a : Act} {Q : Exit → Act → World → Prop} (s x : Operand) (hgd : o.guard = none)
    (ho : o.op = .call { callee := .builtin .append, args := #[s, x], argTypes := #[37, 37] })
    (v : Value) (ts : List Tk) (hs : a.eval s = v) (hown : OwnT w v ts) (xv : Value) (us : List Tk) (hx : a.eval x = xv) (hsrc : Ts w xv us) (hlen : ts.length + us.length ≤ 1000000)
    (h : ∀ v' w', OwnT w' v' (ts ++ us) → Keep v.ownBlock.toList w w' → (∀ b, v'.ownBlock = some b → v.ownBlock = some b ∨ b = w.heap.size) → wpList Tryz.prog ops Q rest (a.put o.dst v') w') : wpList Tryz.prog ops Q (o :: rest) a w := by
  obtain ⟨i0, hi, hzz⟩ := Option.map_eq_some_iff.1 infoT
  simp only [Prod.mk.injEq] at hzz
  obtain ⟨hz, hz1, hz2⟩ := hzz
  obtain ⟨z, hz, hzc⟩ := Option.map_eq_some_iff.1 hz
  refine wpList_append_any hgd s x 37 ho 45 i0 z 3 24 Tryz.underlying37 hi hz hz1 hz2 hzc (by decide) v ts.length (tcells ts) hs hown.1 _ us.length (tcells us) hx hsrc.src (by unfold maxLen; omega) (by omega) ?_
  intro v' w' h1 h2 h3 h4
  refine h v' w' ⟨by rw [List.length_append, tcells_append]; exact h1, fun y hy => ?_⟩ h2 h3
  rcases List.mem_append.1 hy with h5 | h5
  · exact hown.2 y h5
  · exact hsrc.wf y h5
theorem right_nn {l d : List Int} {large : Bool} (h : right17 l d large = true) : (∀ z ∈ l, 0 ≤ z) ∧ (∀ z ∈ d, 0 ≤ z) ∧ 257 ≤ l.length := by
  have hw := (right_werr h).2.2.1
  unfold right17 at h
  simp only [Bool.and_eq_true, decide_eq_true_eq] at h
  obtain ⟨_, _, f, g⟩ := h
  unfold whole17 at f g
  rw [Bool.and_eq_true, List.all_eq_true] at f g
  refine ⟨fun z hz => ?_, fun z hz => ?_, hw⟩
  · have := f.1 z hz; rw [Bool.and_eq_true, decide_eq_true_eq] at this; exact this.1
  · have := g.1 z hz; rw [Bool.and_eq_true, decide_eq_true_eq] at this; exact this.1
theorem fix_nn : (∀ z ∈ fixL, 0 ≤ z) ∧ (∀ z ∈ fixD, 0 ≤ z) := ⟨by decide +kernel, by decide +kernel⟩
theorem stP_sum (ps : List Pc) : ((ps.map fwP).map stP).sum ≤ 101 * ps.length := by
  induction ps with
  | nil => simp
  | cons q l ih =>
    simp only [List.map_cons, List.sum_cons, List.length_cons] at ih ⊢
    have h := fw_len q
    have : stP (fwP q) ≤ 101 := by unfold stP; split <;> omega
    omega
theorem litT_len (bs : List UInt8) : (litT bs).length = bs.length := by simp [litT]
theorem Pcs.keep0 {w w' : World} {v : Value} {ps : List Pc} (h : Pcs w v ps) (k : Keep [] w w') : Pcs w' v ps := by
  obtain ⟨xs, hg, hl, hx⟩ := h
  refine ⟨xs, hg.keep EP_good k (by simp), hl, fun i h1 h2 => ?_⟩
  obtain ⟨k1, k2, k3, k4, k5, k6⟩ := hx i h1 h2
  exact ⟨k1, k2, k3.keep k (by simp), k4.keep k (by simp), k5.keep k (by simp), k6.keep k (by simp)⟩
/-- how the row of all tokens is held -/
structure AllT (w1 w : World) (a : Option Addr) (n c : Nat) (T : List Tk) : Prop where
  own : OwnT w (.slice a n c) T
  keep : Keep [] w1 w
  fresh : ∀ b, (Value.slice a n c).ownBlock = some b → w1.heap.size ≤ b
theorem AllT.read {w1 w w' : World} {a : Option Addr} {n c : Nat} {T : List Tk} (h : AllT w1 w a n c T) (k : Keep [] w w') : AllT w1 w' a n c T := ⟨h.own.keep k (by simp), h.keep.trans k (by simp), h.fresh⟩
theorem AllT.next {w1 w w' : World} {a : Option Addr} {n c : Nat} {T T' : List Tk} (h : AllT w1 w a n c T) {v' : Value} (h1 : OwnT w' v' T') (h2 : Keep (Value.slice a n c).ownBlock.toList w w') (h3 : ∀ b, v'.ownBlock = some b → (Value.slice a n c).ownBlock = some b ∨ b = w.heap.size) : ∃ a' c', v' = .slice a' T'.length c' ∧ AllT w1 w' a' T'.length c' T' := by
  obtain ⟨a', c', rfl, _⟩ := h1.ts.sh
  refine ⟨a', c', rfl, h1, h.keep.trans h2 (fun x hx => .inr (h.fresh x (by simpa using hx))), fun b hb => ?_⟩
  rcases h3 b hb with g | g
  · exact h.fresh b g
  · have := h.keep.size; omega
set_option maxHeartbeats 16000000 in
theorem inftells_w (W : World) (hg : G18 W) (v0 : Value) (ps : List Pc) (h0 : Pcs W v0 ps) (large : Bool) : Calls Tryz.prog 5 #[v0, .bool large] W fun e w' => e = .returned (.bool true) ∧ Keep [] W w' := by
  have HG18 := Lib.hid (fun w' (k : Keep [] W w') => hg.keep k)
  clear hg
  have HFW := Lib.hid (few18_c W v0 ps h0)
  have hps := fw_wf ps
  have hpl : ((ps.take 5).map fwP).length ≤ 5 := by simp; omega
  have htk : ∀ k, ((((ps.take 5).map fwP).take k).flatMap tkP).length ≤ 500 ∧ sumT ((((ps.take 5).map fwP).take k).flatMap tkP) ≤ 8750000 ∧ ((((ps.take 5).map fwP).take k).map stP).sum ≤ 505 := fun k => by
    rw [← List.map_take]
    have hl : ((ps.take 5).take k).length ≤ 5 := by simp; omega
    have h1 := tks_sum ((ps.take 5).take k) hl
    have h2 := stP_sum ((ps.take 5).take k)
    omega
  obtain ⟨qs, hqs⟩ : ∃ qs, (ps.take 5).map fwP = qs := ⟨_, rfl⟩
  rw [hqs] at HFW hps hpl htk
  have HWR := Lib.hid (fun w v (h : Pcs w v qs) => rwrite18_c w v qs large h hpl hps)
  have hll : (ofBits (wrP large [] qs)).length ≤ 50000 := by
    have h1 := ofBits_len (wrP large [] qs)
    have h2 := wrP_len18 large qs hps []
    simp at h2; omega
  have HLL := Lib.hid hll; have HTK := Lib.hid htk; have HPS := Lib.hid hps; have HPL := Lib.hid hpl
  obtain ⟨a0, n0, cp0, rfl⟩ : ∃ a n c, v0 = .slice a n c := by
    obtain ⟨xs, hg, _⟩ := h0
    obtain ⟨a, c, rfl, _⟩ := hg.sh
    exact ⟨a, _, c, rfl⟩
  clear hps hpl hqs h0 hll htk
  go_enter Tryz.func5, Tryz.ntmps5
  go_wp2_with fail
  refine HFW.out.mono ?_; rintro e w1 ⟨v1, rfl, h1, k1⟩
  have HP1 := Lib.hid h1
  obtain ⟨xs0, hg, hl, hx⟩ := h1
  obtain ⟨a1, cp1, rfl, _⟩ := hg.sh
  rw [hl] at hg HP1 ⊢
  have HG := Lib.hid hg; have HX := Lib.hid hx; have HL := Lib.hid hl
  have HK1 := Lib.hid k1
  clear HFW hg hx hl k1
  go_wp2_with fail
  go_loopw [5, 6, 7] (fun av sv iv wr => ∃ (k : Nat) (a5 : Option Addr) (n5 c5 : Nat), k ≤ qs.length ∧ iv = .int .i64 k ∧ av = .slice a5 n5 c5 ∧ sv = .int .i64 (((qs.take k).map stP).sum : Nat) ∧ Hid (AllT w1 wr a5 n5 c5 ((qs.take k).flatMap tkP)) ∧ Hid (∀ p ∈ qs.take k, okP large p)) (fun _ _ iv _ => qs.length - (intOf iv).toNat)
  case atStart => exact ⟨0, none, 0, 0, Nat.zero_le _, rfl, rfl, rfl, ⟨OwnT.nil _, Keep.refl _ _, by simp [Value.ownBlock]⟩, by simp [Hid]⟩
  case round =>
    obtain ⟨k, a5, n5, c5, hk, rfl, rfl, rfl, HA, HOK⟩ := hrel
    have HKW := Lib.hid (HK1.out.trans HA.out.keep (by simp))
    by_cases hlt : k < qs.length
    · have z1 : (k : Int) < (qs.length : Int) := by omega
      have hk0 : k < xs0.length := by have := HL.out; omega
      have hpk := HX.out k hk0 hlt
      obtain ⟨b, off, cap, hv, hcell⟩ := HG.out.at EP_good k hk0
      simp only [Value.slice.injEq] at hv
      obtain ⟨rfl, hv2, rfl⟩ := hv
      have hcell2 : ∀ j, j < 5 → w1.cell? ⟨b, off + (k * 5 + j), none⟩ = xs0[k].cells[j]? := fun j hj => by
        have hc := hcell j hj
        exact hc
      have c0 := hcell2 0 (by omega)
      have c1 := hcell2 1 (by omega)
      have c2 := hcell2 2 (by omega)
      have c3 := hcell2 3 (by omega)
      have c4 := hcell2 4 (by omega)
      have hsn : qs.take (k + 1) = qs.take k ++ [qs[k]] := List.take_succ_eq_append_getElem hlt
      have hwf := HPS.out _ (List.getElem_mem hlt)
      have htk := HTK.out k
      have htk1 := HTK.out (k + 1)
      obtain ⟨p, hp⟩ : ∃ p, qs[k] = p := ⟨_, rfl⟩
      obtain ⟨x, hxk⟩ : ∃ x, xs0[k] = x := ⟨_, rfl⟩
      rw [hp, hxk] at hpk
      rw [hp] at hsn hwf
      rw [hxk] at c0 c1 c2 c3 c4
      obtain ⟨xk, ⟨ba, bn, bc⟩, ⟨ta, tn, tc⟩, ⟨la, ln, lc⟩, ⟨da, dn, dc⟩⟩ := x
      obtain ⟨pk, pw, pb, pt, pl, pd⟩ := hpk
      have pk : xk = p.kind := pk
      subst pk
      simp only [SlV.val] at pb pt pl pd
      obtain ⟨wb, wt, wl⟩ := hwf
      have e0 : w1.cell? ⟨b, off + k * 5, none⟩ = some (.int .i64 p.kind) := c0
      have e1 : w1.cell? ⟨b, off + k * 5 + 1, none⟩ = some (.slice ba bn bc) := by rw [Nat.add_assoc]; exact c1
      have e2 : w1.cell? ⟨b, off + k * 5 + 2, none⟩ = some (.slice ta tn tc) := by rw [Nat.add_assoc]; exact c2
      have e3 : w1.cell? ⟨b, off + k * 5 + 3, none⟩ = some (.slice la ln lc) := by rw [Nat.add_assoc]; exact c3
      have e4 : w1.cell? ⟨b, off + k * 5 + 4, none⟩ = some (.slice da dn dc) := by rw [Nat.add_assoc]; exact c4
      have hS1 : ((qs.take (k + 1)).map stP).sum = ((qs.take k).map stP).sum + stP p := by rw [hsn]; simp
      have hT1 : (qs.take (k + 1)).flatMap tkP = (qs.take k).flatMap tkP ++ tkP p := by rw [hsn]; simp
      have hO1 : okP large p → ∀ q ∈ qs.take (k + 1), okP large q := fun h q hq => by
        rw [hsn] at hq
        rcases List.mem_append.1 hq with g | g
        · exact HOK.out q g
        · simp at g; subst g; exact h
      rw [hT1] at htk1
      have HPB := Lib.hid pb; have HPT := Lib.hid pt; have HPLl := Lib.hid pl; have HPDd := Lib.hid pd
      have HS1 := Lib.hid hS1; have HT1 := Lib.hid hT1; have HO1 := Lib.hid hO1
      have HE := Lib.hid (fun w' (kk : Keep [] w1 w') => (⟨kk.cell e0 (by simp), kk.cell e1 (by simp), kk.cell e2 (by simp), kk.cell e3 (by simp), kk.cell e4 (by simp)⟩ : w'.cell? ⟨b, off + k * 5, none⟩ = some (.int .i64 p.kind) ∧ w'.cell? ⟨b, off + k * 5 + 1, none⟩ = some (.slice ba bn bc) ∧ w'.cell? ⟨b, off + k * 5 + 2, none⟩ = some (.slice ta tn tc) ∧ w'.cell? ⟨b, off + k * 5 + 3, none⟩ = some (.slice la ln lc) ∧ w'.cell? ⟨b, off + k * 5 + 4, none⟩ = some (.slice da dn dc)))
      obtain ⟨S, hS⟩ : ∃ S, ((qs.take k).map stP).sum = S := ⟨_, rfl⟩
      obtain ⟨T, hT⟩ : ∃ T, (qs.take k).flatMap tkP = T := ⟨_, rfl⟩
      rw [hS] at HS1 htk ⊢
      rw [hT] at HT1 HA htk htk1
      have hS5 : S ≤ 505 := htk.2.2
      have hTl := htk1.1
      rw [List.length_append] at hTl
      have HTL := Lib.hid hTl
      obtain ⟨Z1, hZ1⟩ : ∃ Z, S + 1 = Z := ⟨_, rfl⟩
      have hs1 : IntKind.i64.wrap ((S : Int) + 1) = (Z1 : Int) := by rw [IntKind.wrap_i64]; omega
      have HZ1 := Lib.hid hZ1
      clear hZ1
      have hln : bn = p.bytes.length ∧ tn = p.toks.length ∧ ln = p.lit.length ∧ dn = p.dist.length := by
        obtain ⟨_, _, hv1, _⟩ := pb.shape
        obtain ⟨_, _, hv2, _⟩ := pt.sh
        obtain ⟨_, _, hv3, _⟩ := pl.sh
        obtain ⟨_, _, hv4, _⟩ := pd.sh
        simp only [Value.slice.injEq] at hv1 hv2 hv3 hv4
        exact ⟨hv1.2.1, hv2.2.1, hv3.2.1, hv4.2.1⟩
      obtain ⟨rfl, rfl, rfl, rfl⟩ := hln
      clear hv2 hcell hcell2 c0 c1 c2 c3 c4 e0 e1 e2 e3 e4 hsn hp hxk pb pt pl pd hS1 hT1 hO1 hS hT htk htk1 hk0 hTl
      obtain ⟨kd, hkd⟩ : ∃ kd, p.kind = kd := ⟨_, rfl⟩
      have HKD := Lib.hid hkd
      rw [hkd] at HE
      obtain ⟨e0, e1, e2, e3, e4⟩ := HE.out wr HA.out.keep
      by_cases g0 : kd < 0
      · have t1 : decide (kd < 0) = true := by simpa using g0
        clear e1 e2 e3 e4
        go_wp2_with fail
        refine (lives18_c _ (HG18.out _ (by first | assumption | exact Hid.out (by assumption) | exact Keep.drewN (Hid.out (by assumption)) _ | exact Keep.drewN (by assumption) _))).mono ?_; rintro e w7 ⟨rfl, k7⟩
        go_wp2_with fail
        go_ret
        exact ⟨rfl, HKW.out.trans k7 (by simp)⟩
      have t1 : decide (kd < 0) = false := by simpa using g0
      by_cases g2 : 2 < kd
      · have t2 : decide (2 < kd) = true := by simpa using g2
        clear e1 e2 e3 e4
        go_wp2_with fail
        refine (lives18_c _ (HG18.out _ (by first | assumption | exact Hid.out (by assumption) | exact Keep.drewN (Hid.out (by assumption)) _ | exact Keep.drewN (by assumption) _))).mono ?_; rintro e w7 ⟨rfl, k7⟩
        go_wp2_with fail
        go_ret
        exact ⟨rfl, HKW.out.trans k7 (by simp)⟩
      have t2 : decide (2 < kd) = false := by simpa using g2
      have hk4 : k ≤ 4 := by have := HPL.out; omega
      have g3 : kd = 0 ∨ kd = 1 ∨ kd = 2 := by omega
      clear g0 g2
      rcases g3 with rfl | rfl | rfl
      · have q2 : ((0 : Int) == 2) = false := by decide
        have q0 : ((0 : Int) == 0) = true := by decide
        have hok : okP large p := ⟨by omega, by omega, by omega, fun h => by have := HKD.out; omega, fun h => absurd HKD.out h⟩
        have hst : stP p = 1 + p.bytes.length := by unfold stP; rw [if_pos HKD.out]
        have htp : tkP p = litT p.bytes := by unfold tkP; rw [if_pos HKD.out]
        have HOKP := Lib.hid (HO1.out hok)
        have hZ1 := HZ1.out
        obtain ⟨Z2, hZ2⟩ : ∃ Z, Z1 + p.bytes.length = Z := ⟨_, rfl⟩
        have hs2 : IntKind.i64.wrap ((Z1 : Int) + (p.bytes.length : Int)) = (Z2 : Int) := by rw [IntKind.wrap_i64]; omega
        have HZ : Hid (((qs.take (k + 1)).map stP).sum = Z2) := by unfold Hid; rw [HS1.out, hst]; omega
        have HTT : Hid ((qs.take (k + 1)).flatMap tkP = T ++ litT p.bytes) := by unfold Hid; rw [HT1.out, htp]
        have htl := HTL.out
        rw [htp, litT_len] at htl
        have HTLL := Lib.hid htl
        have HWB := Lib.hid wb
        clear hok hst htp hZ1 hZ2 htl HS1 HT1 HO1 HTL
        go_wp2_with fail
        refine (rfixed18_c wr).mono ?_; rintro e w2 ⟨v8, v9, rfl, h8, h9, k2, -, -⟩
        obtain ⟨g8, c8, rfl⟩ := own_blk18 h8 (by rw [fixL_len]; omega)
        obtain ⟨g9, c9, rfl⟩ := own_blk18 h9 (by rw [fixD_len]; omega)
        have HA2 := Lib.hid (HA.out.read k2)
        clear e0 e1 e2 e3 e4 h8 h9 k2
        obtain ⟨e0, e1, e2, e3, e4⟩ := HE.out w2 HA2.out.keep
        go_wp2_with fail
        clear e0 e1 e2 e3 e4
        go_loopw [5, 10] (fun av jv wx => ∃ (j : Nat) (a6 : Option Addr) (n6 c6 : Nat), j ≤ p.bytes.length ∧ jv = .int .i64 j ∧ av = .slice a6 n6 c6 ∧ Hid (AllT w1 wx a6 n6 c6 (T ++ (litT p.bytes).take j))) (fun _ jv _ => p.bytes.length - (intOf jv).toNat)
        case atStart => exact ⟨0, a5, n5, c5, Nat.zero_le _, rfl, rfl, by rw [List.take_zero, List.append_nil]; exact HA2.out⟩
        case round =>
          obtain ⟨j, a6, n6, c6, hj, rfl, rfl, HA6⟩ := hrel
          obtain ⟨e0, e1, e2, e3, e4⟩ := HE.out wr HA6.out.keep
          clear e0 e2 e3 e4
          have hj100 : j ≤ 100 := by have := HWB.out; omega
          by_cases hjl : j < p.bytes.length
          · have z2 : (j : Int) < (p.bytes.length : Int) := by omega
            have hbb := HPB.out.keep HA6.out.keep (by simp)
            rcases hbb.cases with ⟨hnil, _⟩ | ⟨_, bb, ob, cb, hvb, _, _, _, hcb⟩
            · rw [hnil] at hjl; simp at hjl
            simp only [Value.slice.injEq] at hvb
            obtain ⟨rfl, _, rfl⟩ := hvb
            have d1 := hcb j hjl
            have hlt1 : (litT p.bytes).take (j + 1) = (litT p.bytes).take j ++ [⟨p.bytes[j], 0, 0⟩] := by
              rw [List.take_succ_eq_append_getElem (by rw [litT_len]; exact hjl)]
              simp [litT]
            generalize p.bytes[j] = c at d1 hlt1
            have HLT := Lib.hid hlt1
            have hB := Blk.new wr (⟨c, 0, 0⟩ : Tk).cells.toArray 45
            have ha := HA6.out.read ((Keep.refl [] wr).alloc (.cells (⟨c, 0, 0⟩ : Tk).cells.toArray 45))
            have hwf : (⟨c, 0, 0⟩ : Tk).wf := ⟨(by decide : (Lit.int .i64 0).wf = true), (by decide : (Lit.int .i64 0).wf = true)⟩
            have hlen6 : (T ++ (litT p.bytes).take j).length ≤ 1000000 := by rw [List.length_append, List.length_take]; have := HTLL.out; omega
            have hown := ha.own
            have HAL := Lib.hid ha
            clear hbb hcb hlt1 ha
            go_wp2_with (at_builtin; (refine wpList_appendT (.tmp 85) (.tmp 95) rfl rfl (.slice a6 n6 c6) (T ++ (litT p.bytes).take j) rfl hown wr.heap.size (⟨c, 0, 0⟩ : Tk) rfl hB hwf hlen6 ?_); (intro v' w' o1 o2 o3 _); (obtain ⟨a7, c7, rfl, hA7⟩ := HAL.out.next o1 o2 o3); (have HA7 := Lib.hid hA7); (clear hB hown hlen6 o1 o2 o3 hA7 d1 e1))
            go_roundw
            case rel =>
              refine ⟨j + 1, a7, _, c7, by omega, by first | rfl | simp, rfl, ?_⟩
              rw [HLT.out, ← List.append_assoc]
              first | exact HA7.out | (have h := HA7.out; simp only [List.length_append, List.length_take, List.length_cons, List.length_nil, Nat.zero_add, Nat.add_assoc] at h; exact h)
            case measure => simp [intOf]; omega
          · obtain rfl : j = p.bytes.length := by omega
            have ht : (litT p.bytes).take p.bytes.length = litT p.bytes := List.take_of_length_le (by rw [litT_len]; exact Nat.le_refl _)
            rw [ht] at HA6
            clear ht hjl
            go_wp2_with fail
            go_roundw
            case rel =>
              refine ⟨k + 1, a6, n6, c6, by omega, by first | rfl | simp, rfl, by rw [HZ.out], ?_, HOKP.out⟩
              rw [HTT.out]; exact HA6.out
            case measure => simp [intOf]; omega
      · have q2 : ((1 : Int) == 2) = false := by decide
        have q0 : ((1 : Int) == 0) = false := by decide
        go_wp2_with fail
        refine (rfixed18_c wr).mono ?_; rintro e w2 ⟨v8, v9, rfl, h8, h9, k2, -, -⟩
        obtain ⟨g8, c8, rfl⟩ := own_blk18 h8 (by rw [fixL_len]; omega)
        obtain ⟨g9, c9, rfl⟩ := own_blk18 h9 (by rw [fixD_len]; omega)
        clear e0 e1 e2 e3 e4
        obtain ⟨e0, e1, e2, e3, e4⟩ := HE.out w2 (HA.out.keep.trans k2 (by simp))
        go_wp2_with fail
        refine (has18_c w2 _ _ _ p.toks fixL fixD large (HPT.out.keep (HA.out.keep.trans k2 (by simp)) (by simp)) h8.is h9.is (by rw [fixL_len]; omega)).mono ?_; rintro e w5 ⟨B, rfl, k5, hB⟩
        have A5 := Lib.hid ((HA.out.read k2).read k5)
        have HBB := Lib.hid hB
        cases B with
        | false =>
          have K5 := Lib.hid (HK1.out.trans A5.out.keep (by simp))
          clear k5 hB
          go_wp2_with fail
          refine (lives18_c _ (HG18.out _ (by first | assumption | exact Hid.out (by assumption) | exact Keep.drewN (Hid.out (by assumption)) _ | exact Keep.drewN (by assumption) _))).mono ?_; rintro e w7 ⟨rfl, k7⟩
          go_wp2_with fail
          go_ret
          exact ⟨rfl, K5.out.trans k7 (by simp)⟩
        | true =>
          have hok : okP large p := ⟨by omega, by omega, by omega, fun h => by have := HKD.out; omega, fun _ t ht => by unfold Pc.LL Pc.LD; rw [if_neg (by have := HKD.out; omega), if_neg (by have := HKD.out; omega)]; exact hasT_of fix_nn.1 fix_nn.2 ((HBB.out.1 rfl) t ht) (by rw [fixL_len]; omega)⟩
          have hst : stP p = p.toks.length + 2 := by unfold stP; rw [if_neg (by have := HKD.out; omega)]
          have htp : tkP p = p.toks := by unfold tkP; rw [if_neg (by have := HKD.out; omega)]
          have HOKP := Lib.hid (HO1.out hok)
          have hZ1 := HZ1.out
          obtain ⟨Z2, hZ2⟩ : ∃ Z, Z1 + p.toks.length = Z := ⟨_, rfl⟩
          obtain ⟨Z3, hZ3⟩ : ∃ Z, Z2 + 1 = Z := ⟨_, rfl⟩
          have hs2 : IntKind.i64.wrap ((Z1 : Int) + (p.toks.length : Int)) = (Z2 : Int) := by rw [IntKind.wrap_i64]; omega
          have hs3 : IntKind.i64.wrap ((Z2 : Int) + 1) = (Z3 : Int) := by rw [IntKind.wrap_i64]; omega
          have HZ : Hid (((qs.take (k + 1)).map stP).sum = Z3) := by unfold Hid; rw [HS1.out, hst]; omega
          have HTT : Hid ((qs.take (k + 1)).flatMap tkP = T ++ p.toks) := by unfold Hid; rw [HT1.out, htp]
          obtain ⟨e0, e1, e2, e3, e4⟩ := HE.out w5 A5.out.keep
          have hsrc := HPT.out.keep A5.out.keep (by simp)
          have hown := A5.out.own
          have hlen5 : T.length + p.toks.length ≤ 1000000 := by have := HTL.out; rw [htp] at this; omega
          clear k5 hB hok hst htp HBB hZ1 hZ2 hZ3
          go_wp2_with (at_builtin; (refine wpList_appendTs (.tmp 116) (.tmp 121) rfl rfl (.slice a5 n5 c5) T rfl hown (.slice ta p.toks.length tc) p.toks rfl hsrc hlen5 ?_); (intro v' w' o1 o2 o3); (obtain ⟨a6, c6, rfl, hA6⟩ := A5.out.next o1 o2 o3); (obtain ⟨f0, f1, f2, f3, f4⟩ := HE.out w' hA6.keep); (have HA6 := Lib.hid hA6); (clear e0 e1 e2 e3 e4 hsrc hown hlen5 o1 o2 o3 hA6))
          go_roundw
          case rel =>
            refine ⟨k + 1, a6, _, c6, by omega, by first | rfl | simp, rfl, by rw [HZ.out], ?_, HOKP.out⟩
            rw [HTT.out]; have h := HA6.out; rw [List.length_append] at h; exact h
          case measure => simp [intOf]; omega
      · have q2 : ((2 : Int) == 2) = true := by decide
        have q0 : ((2 : Int) == 0) = false := by decide
        go_wp2_with fail
        refine (rfixed18_c wr).mono ?_; rintro e w2 ⟨v8, v9, rfl, h8, h9, k2, -, -⟩
        obtain ⟨g8, c8, rfl⟩ := own_blk18 h8 (by rw [fixL_len]; omega)
        obtain ⟨g9, c9, rfl⟩ := own_blk18 h9 (by rw [fixD_len]; omega)
        clear e0 e1 e2 e3 e4
        obtain ⟨e0, e1, e2, e3, e4⟩ := HE.out w2 (HA.out.keep.trans k2 (by simp))
        go_wp2_with fail
        go_quiet (fail)
        obtain ⟨Rb, hRb⟩ : ∃ Rb, right17 p.lit p.dist large = Rb := ⟨_, rfl⟩
        have hR := fun ww g1 g2 => rright17_c ww (.slice la p.lit.length lc) (.slice da p.dist.length dc) p.lit p.dist large g1 g2
        rw [hRb] at hR
        have HR := Lib.hid hR
        have HRB := Lib.hid hRb
        clear hR hRb e0 e1 e2 e3 e4
        have KQ := Lib.hid (fun m => k2.drewN m)
        go_wp2_with fail
        refine (HR.out _ (HPLl.out.keep (HA.out.keep.trans (KQ.out _) (by simp)) (by simp)) (HPDd.out.keep (HA.out.keep.trans (KQ.out _) (by simp)) (by simp))).mono ?_; rintro e w3 ⟨rfl, n3, hw3⟩
        have k3 : Keep [] wr w3 := by rw [hw3]; exact (KQ.out _).drewN _
        clear hw3 HR KQ
        obtain ⟨e0, e1, e2, e3, e4⟩ := HE.out w3 (HA.out.keep.trans k3 (by simp))
        cases Rb with
        | false =>
          have K3 := Lib.hid (HKW.out.trans k3 (by simp))
          clear k3 e0 e1 e2 e3 e4
          go_wp2_with fail
          refine (lives18_c _ (HG18.out _ (by first | assumption | exact Hid.out (by assumption) | exact Keep.drewN (Hid.out (by assumption)) _ | exact Keep.drewN (by assumption) _))).mono ?_; rintro e w7 ⟨rfl, k7⟩
          go_wp2_with fail
          go_ret
          exact ⟨rfl, K3.out.trans k7 (by simp)⟩
        | true =>
          go_wp2_with fail
          refine (has18_c w3 _ _ _ p.toks p.lit p.dist large (HPT.out.keep (HA.out.keep.trans k3 (by simp)) (by simp)) (HPLl.out.keep (HA.out.keep.trans k3 (by simp)) (by simp)) (HPDd.out.keep (HA.out.keep.trans k3 (by simp)) (by simp)) (right_nn HRB.out).2.2).mono ?_; rintro e w5 ⟨B, rfl, k5, hB⟩
          have A5 := Lib.hid ((HA.out.read k3).read k5)
          have HBB := Lib.hid hB
          cases B with
          | false =>
            have K5 := Lib.hid (HK1.out.trans A5.out.keep (by simp))
            clear k5 hB
            go_wp2_with fail
            refine (lives18_c _ (HG18.out _ (by first | assumption | exact Hid.out (by assumption) | exact Keep.drewN (Hid.out (by assumption)) _ | exact Keep.drewN (by assumption) _))).mono ?_; rintro e w7 ⟨rfl, k7⟩
            go_wp2_with fail
            go_ret
            exact ⟨rfl, K5.out.trans k7 (by simp)⟩
          | true =>
            have hok : okP large p := ⟨by omega, by omega, by omega, fun _ => HRB.out, fun _ t ht => by unfold Pc.LL Pc.LD Lw; rw [if_pos HKD.out, if_pos HKD.out, if_pos (right_werr HRB.out).1.1, if_pos (right_werr HRB.out).2.1.1]; exact hasT_of (right_nn HRB.out).1 (right_nn HRB.out).2.1 ((HBB.out.1 rfl) t ht) (right_nn HRB.out).2.2⟩
            have hst : stP p = p.toks.length + 2 := by unfold stP; rw [if_neg (by have := HKD.out; omega)]
            have htp : tkP p = p.toks := by unfold tkP; rw [if_neg (by have := HKD.out; omega)]
            have HOKP := Lib.hid (HO1.out hok)
            have hZ1 := HZ1.out
            obtain ⟨Z2, hZ2⟩ : ∃ Z, Z1 + p.toks.length = Z := ⟨_, rfl⟩
            obtain ⟨Z3, hZ3⟩ : ∃ Z, Z2 + 1 = Z := ⟨_, rfl⟩
            have hs2 : IntKind.i64.wrap ((Z1 : Int) + (p.toks.length : Int)) = (Z2 : Int) := by rw [IntKind.wrap_i64]; omega
            have hs3 : IntKind.i64.wrap ((Z2 : Int) + 1) = (Z3 : Int) := by rw [IntKind.wrap_i64]; omega
            have HZ : Hid (((qs.take (k + 1)).map stP).sum = Z3) := by unfold Hid; rw [HS1.out, hst]; omega
            have HTT : Hid ((qs.take (k + 1)).flatMap tkP = T ++ p.toks) := by unfold Hid; rw [HT1.out, htp]
            obtain ⟨e0, e1, e2, e3, e4⟩ := HE.out w5 A5.out.keep
            have hsrc := HPT.out.keep A5.out.keep (by simp)
            have hown := A5.out.own
            have hlen5 : T.length + p.toks.length ≤ 1000000 := by have := HTL.out; rw [htp] at this; omega
            clear k5 hB hok hst htp HBB hZ1 hZ2 hZ3
            go_wp2_with (at_builtin; (refine wpList_appendTs (.tmp 116) (.tmp 121) rfl rfl (.slice a5 n5 c5) T rfl hown (.slice ta p.toks.length tc) p.toks rfl hsrc hlen5 ?_); (intro v' w' o1 o2 o3); (obtain ⟨a6, c6, rfl, hA6⟩ := A5.out.next o1 o2 o3); (obtain ⟨f0, f1, f2, f3, f4⟩ := HE.out w' hA6.keep); (have HA6 := Lib.hid hA6); (clear e0 e1 e2 e3 e4 hsrc hown hlen5 o1 o2 o3 hA6))
            go_roundw
            case rel =>
              refine ⟨k + 1, a6, _, c6, by omega, by first | rfl | simp, rfl, by rw [HZ.out], ?_, HOKP.out⟩
              rw [HTT.out]; have h := HA6.out; rw [List.length_append] at h; exact h
            case measure => simp [intOf]; omega
    · obtain rfl : k = qs.length := by omega
      have hT := HTK.out qs.length
      rw [List.take_length] at HA HOK hT ⊢
      have hr := fun (hne : qs ≠ []) (size : Nat) => dec18_pieces large qs hne HOK.out size ⟨win18 large, size, false, []⟩ rfl
      have hwin : 1 ≤ win18 large ∧ win18 large ≤ 65536 := by unfold win18; split <;> omega
      have hx := exp_room (qs.flatMap tkP) (win18 large) hwin (min (sumT (qs.flatMap tkP)) 1048576) rfl
      obtain ⟨S, hS⟩ : ∃ S, (qs.map stP).sum = S := ⟨_, rfl⟩
      rw [hS] at hr ⊢
      have hsz : sizeT (qs.flatMap tkP) = sumT (qs.flatMap tkP) := by unfold sizeT; omega
      have HSZ := Lib.hid (fun w v (h : Ts w v (qs.flatMap tkP)) => tok_size w v _ h)
      rw [hsz] at HSZ
      have HEX := Lib.hid (fun w v (h : Ts w v (qs.flatMap tkP)) => tok_expand w v _ (win18 large) 1048576 false h (by simp [Lit.wf, IntKind.min, IntKind.max, IntKind.bits, IntKind.signed]; omega) (by decide) (by omega))
      have HDE := Lib.hid (fun w v b (k3 : Keep [] W w) (hb : Bs w v b) (hl : b.length ≤ 1000000) => inf_decode w v b large ((min (sumT (qs.flatMap tkP)) 1048576 : Nat) : Int) (HG18.out w k3) hb hl (by simp [Lit.wf, IntKind.min, IntKind.max, IntKind.bits, IntKind.signed]; omega))
      have h0 : qs = [] → dec18 (ofBits (wrP large [] qs)) large ((min (sumT (qs.flatMap tkP)) 1048576 : Nat) : Int) = ([], 0, 3) := fun h => by
        rw [h]
        show dec18 (ofBits []) large _ = _
        exact dec18_none large _
      have HR := Lib.hid (fun hne => hr hne (min (sumT (qs.flatMap tkP)) 1048576))
      have HXX := Lib.hid hx
      have H0 := Lib.hid h0
      have hm : max (0 : Int) (min ((sumT (qs.flatMap tkP) : Nat) : Int) 1048576) = ((min (sumT (qs.flatMap tkP)) 1048576 : Nat) : Int) := by omega
      obtain ⟨m, hmm⟩ : ∃ m, min (sumT (qs.flatMap tkP)) 1048576 = m := ⟨_, rfl⟩
      rw [hmm] at HDE HR HXX H0 hm
      generalize sumT (qs.flatMap tkP) = sm0 at *
      have HMM := Lib.hid hm
      clear hr hx h0 hsz hS hmm hm hT hwin HOK
      obtain ⟨TT, hTT⟩ : ∃ TT, qs.flatMap tkP = TT := ⟨_, rfl⟩
      obtain ⟨L0, hL0⟩ : ∃ L0, ofBits (wrP large [] qs) = L0 := ⟨_, rfl⟩
      rw [hTT] at HA HSZ HEX HR HXX
      rw [hL0] at HWR HLL HR H0
      obtain ⟨ee, want, hE⟩ : ∃ ee want, expT TT (win18 large) 1048576 false = (ee, want) := ⟨_, _, rfl⟩
      rw [hE] at HEX HXX
      have hD : dec18 L0 large (m : Int) = if qs.length = 0 then ([], 0, 3) else if ee = 0 then (want, S, 0) else ([], 0, ee) := by
        by_cases hq : qs.length = 0
        · rw [if_pos hq]; exact H0.out (List.eq_nil_of_length_eq_zero hq)
        · rw [if_neg hq]
          have hne : qs ≠ [] := fun h => hq (by rw [h]; rfl)
          obtain ⟨r1, r2⟩ := HR.out hne
          obtain ⟨x1, x2⟩ := HXX.out
          by_cases h0 : ee = 0
          · rw [if_pos h0]
            obtain ⟨y1, y2, y3⟩ := x1 h0
            rw [r1 y1 y3, y2]
          · rw [if_neg h0]
            have y := x2 h0
            rw [r2 (by rw [y]; exact h0), y]
      obtain ⟨D1, D2, D3, hDD⟩ : ∃ D1 D2 D3, dec18 L0 large (m : Int) = (D1, D2, D3) := ⟨_, _, _, rfl⟩
      have hde := fun w v (k3 : Keep [] W w) (hb : Bs w v L0) => HDE.out w v L0 k3 hb (by have := HLL.out; omega)
      rw [hDD] at hD hde
      have HDF := Lib.hid hde
      have HD := Lib.hid hD
      have HKA := Lib.hid HA.out.keep
      have HTA := Lib.hid HA.out.own.ts
      clear hTT hL0 hE hD hDD hde HDE HR HXX H0 HA HTK HPS HLL
      go_upto_if 132 with fail
      go_cut [11] (fun wv wx => wv = .int .i64 (win18 large : Nat) ∧ wx = wr)
      case first =>
        cases large with
        | true =>
          go_wp2_with fail
          go_meet
          exact ⟨rfl, rfl⟩
        | false =>
          go_wp2_with fail
          go_meet
          exact ⟨rfl, rfl⟩
      case rest =>
      obtain ⟨rfl, hwc⟩ := hcut
      have h := hwc.symm; subst h
      clear hwc
      go_wp2_with fail
      refine (HEX.out wr _ HTA.out).mono ?_; rintro e w2 ⟨v2, rfl, h2, k2⟩
      have HW2 := Lib.hid (HWR.out w2 _ (HP1.out.keep0 (HKA.out.trans k2 (by simp))))
      have HT2 := Lib.hid (HTA.out.keep k2 (by simp))
      have HB2 := Lib.hid h2
      have HK2 := Lib.hid (HKW.out.trans k2 (by simp))
      obtain ⟨a2, c2, rfl, _⟩ := h2.shape
      clear HEX HTA h2 k2 HWR HKW
      go_wp2_with fail
      refine HW2.out.mono ?_; rintro e w3 ⟨v3, rfl, h3, k3⟩
      have HS3 := Lib.hid (HSZ.out w3 _ (HT2.out.keep k3 (by simp)))
      have HB3 := Lib.hid h3.bs
      have HB23 := Lib.hid (HB2.out.keep k3 (by simp))
      have HK3 := Lib.hid (HK2.out.trans k3 (by simp))
      obtain ⟨a3, c3, rfl, _⟩ := h3.bs.shape
      clear HW2 h3 k3 HT2 HSZ HB2 HK2
      go_wp2_with fail
      refine HS3.out.mono ?_; rintro e w4 ⟨rfl, k4⟩
      have HB4 := Lib.hid (HB3.out.keep k4 (by simp))
      have HB24 := Lib.hid (HB23.out.keep k4 (by simp))
      have HK4 := Lib.hid (HK3.out.trans k4 (by simp))
      have HWI := Lib.hid (within_c (sm0 : Nat) 0 1048576 w4 (by decide))
      rw [HMM.out] at HWI
      clear HS3 HB3 HB23 HK3 k4
      go_wp2_with fail
      refine HWI.out.mono ?_; rintro e w5 ⟨rfl, rfl⟩
      have HD4 := Lib.hid (HDF.out w4 _ (by first | assumption | exact Hid.out (by assumption) | exact Keep.drewN (Hid.out (by assumption)) _ | exact Keep.drewN (by assumption) _) HB4.out)
      clear HWI HDF HB4
      go_wp2_with fail
      refine HD4.out.mono ?_; rintro e w5 ⟨v5, rfl, h5, k5⟩
      have h5 : Bs w5 v5 D1 := h5
      have HB5 := Lib.hid h5
      have HB25 := Lib.hid (HB24.out.keep k5 (by simp))
      have HK5 := Lib.hid (HK4.out.trans k5 (by simp))
      obtain ⟨a5', c5', rfl, _⟩ := h5.shape
      clear HD4 h5 k5 HB24 HK4 HP1 HG HX HL
      have hD := HD.out
      dsimp only
      by_cases hq : qs.length = 0
      · rw [if_pos hq] at hD
        simp only [Prod.mk.injEq] at hD
        obtain ⟨-, -, rfl⟩ := hD
        have q1 : ((qs.length : Int) == 0) = true := by rw [hq]; rfl
        have q2 : (qs.length == 0) = true := by rw [hq]; rfl
        clear hq HD
        go_wp2_with fail
        refine (lives18_c _ (HG18.out _ (by first | assumption | exact Hid.out (by assumption) | exact Keep.drewN (Hid.out (by assumption)) _ | exact Keep.drewN (by assumption) _))).mono ?_; rintro e w7 ⟨rfl, k7⟩
        go_wp2_with fail
        go_ret
        exact ⟨rfl, HK5.out.trans k7 (by simp)⟩
      · rw [if_neg hq] at hD
        have q1 : ((qs.length : Int) == 0) = false := by rw [beq_eq_false_iff_ne]; omega
        have q2 : (qs.length == 0) = false := by rw [beq_eq_false_iff_ne]; omega
        by_cases he : ee = 0
        · rw [if_pos he] at hD
          simp only [Prod.mk.injEq] at hD
          obtain ⟨rfl, rfl, rfl⟩ := hD
          subst he
          have s1 := same_c w5 _ _ D1 D1 HB5.out HB25.out
          simp only [decide_true] at s1
          have HS1 := Lib.hid s1
          clear hq HD s1
          go_wp2_with fail
          refine HS1.out.mono ?_; rintro e w6 ⟨rfl, n6, rfl⟩
          go_wp2_with fail
          refine (lives18_c _ (HG18.out _ (by first | assumption | exact Hid.out (by assumption) | exact Keep.drewN (Hid.out (by assumption)) _ | exact Keep.drewN (by assumption) _))).mono ?_; rintro e w7 ⟨rfl, k7⟩
          go_wp2_with fail
          go_ret
          exact ⟨rfl, (HK5.out.drewN _).trans k7 (by simp)⟩
        · rw [if_neg he] at hD
          simp only [Prod.mk.injEq] at hD
          obtain ⟨-, -, rfl⟩ := hD
          have q3 : ((D3 : Int) == 0) = false := by rw [beq_eq_false_iff_ne]; omega
          have q4 : (D3 == 0) = false := by rw [beq_eq_false_iff_ne]; omega
          clear hq HD he
          go_wp2_with fail
          refine (lives18_c _ (HG18.out _ (by first | assumption | exact Hid.out (by assumption) | exact Keep.drewN (Hid.out (by assumption)) _ | exact Keep.drewN (by assumption) _))).mono ?_; rintro e w7 ⟨rfl, k7⟩
          go_wp2_with fail
          go_ret
          exact ⟨rfl, HK5.out.trans k7 (by simp)⟩
end Go.Proofs.YtokfcgloogdeiaaGreatDoor
