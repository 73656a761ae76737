/- at over the landed code. -/
import Derived.Test.YtmafgamacijdaaaFinAt
namespace Go.Proofs.Ytmafgamacijdaaa
set_option linter.unusedVariables false
set_option linter.unusedSimpArgs false
open Go.ChangeShapes Go.WideShapes Go.ChangeAt Go.RowKit

theorem Srch.bat {w : World} {q : Nat} {v bv : Value} {b : List UInt8} {s : Sh} (h : Srch w q v bv b s) (p : Nat) (hp : p < b.length) : ∃ g off cap, bv = .slice (some ⟨g, off, none⟩) b.length cap ∧ w.cell? ⟨g, off + p, none⟩ = some (.int .i32 (bck b s.min.toNat p : Nat)) := by
  obtain ⟨g, off, cap, hv, hc⟩ := h.back.at good32 p (by simpa using hp)
  refine ⟨g, off, cap, by rw [hv]; simp, ?_⟩
  have := hc 0 Nat.zero_lt_one
  simpa [el32] using this
/-- a found value's cells -/
def Tk.fnd (t : Tk) : Array Value := #[.int .i64 t.dist, .int .i64 t.len]
set_option maxRecDepth 100000 in
set_option maxHeartbeats 4000000 in
theorem at_c (w : World) (q : Nat) (v bv : Value) (b : List UInt8) (s : Sh) (hs : s.ok) (h : Srch w q v bv b s) (i : Nat) (hi : i ≤ b.length) (hb : b.length ≤ 100000) :
    Calls Try.prog 47 #[.pointer (some ⟨q, 0, none⟩), .int .i64 i] w fun e w' => e = .returned (.agg (atT b s i).fnd) ∧ Keep [] w w' := by
  have hs' := hs
  unfold Sh.ok at hs'
  have HS := Lib.hid h
  have HE := Lib.hid (fun (ww : World) (kk : Keep [] w ww) (p M : Nat) (hp : p ≤ i) (hM : M = min s.max.toNat (b.length - i)) (hmn : s.min.toNat ≤ M) (he : eqm b p i s.min.toNat) => equal_c ww q v bv b s hs (h.keep kk) p i M hp hi hb hM hmn he)
  have HFEW : Hid (min s.max.toNat (b.length - i) < s.min.toNat → atT b s i = ⟨0, 0, 0⟩) := atT_few hs hi
  have HAT := Lib.hid (atF_prv b s i)
  have HFULL := Lib.hid (fun k L best => atF_full (b := b) (s := s) (i := i) hi k L best)
  have HA0 : Hid (atT b s i = atF b s i i 0 ⟨0, 0, 0⟩) := rfl
  have HBAT := Lib.hid h.bat
  have HI := Lib.hid (fun k hk => h.text.spot k hk)
  obtain ⟨a, cap, hv, hc1, hc2⟩ := h.text.shape
  subst hv
  have HBL := Lib.hid h.blk
  obtain ⟨mn, hmn⟩ := Int.eq_ofNat_of_zero_le (show 0 ≤ s.min by omega)
  obtain ⟨mx, hmx⟩ := Int.eq_ofNat_of_zero_le (show 0 ≤ s.max by omega)
  obtain ⟨win, hwin⟩ := Int.eq_ofNat_of_zero_le (show 0 ≤ s.win by omega)
  obtain ⟨ch, hch⟩ := Int.eq_ofNat_of_zero_le (show 0 ≤ s.chain by omega)
  have e1 : s.min.toNat = mn := by omega
  have e2 : s.max.toNat = mx := by omega
  rw [hmn, hmx, hwin, hch] at HBL
  rw [e1, e2] at HE HFEW
  rw [hwin, hch, e1] at HAT
  rw [e2] at HFULL
  have hmn2 : 2 ≤ mn := by omega
  have hmn3 : mn ≤ 3 := by omega
  have hmx6 : mx ≤ 65538 := by omega
  have hwin6 : win ≤ 65536 := by omega
  have hch4 : ch ≤ 4096 := by omega
  rw [e1] at HBAT
  have HU : Hid (∀ p best, upd b s i p best = if best.len < (sme b p i mx : Int) then ⟨0, (i : Int) - p, sme b p i mx⟩ else best) := fun p best => by unfold upd; rw [e2]
  have HEND : Hid (∀ k (L : Nat) best, ¬ (L : Int) < ch → atF b s i k L best = best) := by
    intro k L best hL
    rw [HAT.out]
    cases prv b mn i k with
    | none => rfl
    | some p => exact if_neg (fun g => hL g.2)
  clear h hc1 hc2 hs hs' e1 e2 hmn hmx hwin hch HS
  generalize s.lazy = lz at HBL
  generalize hS : s = S at HAT HFULL HA0 HU HFEW HEND ⊢
  clear hS
  go_enter Try.func47, Try.ntmps47
  obtain ⟨M, hM⟩ : ∃ M : Nat, min mx (b.length - i) = M := ⟨_, rfl⟩
  have hMM := Lib.hid hM.symm
  have hM2 : min (mx : Int) ((b.length : Int) - i) = (M : Int) := by omega
  have hMi : i + M ≤ b.length := by omega
  have hMx : M ≤ mx := by omega
  rw [hM] at HFEW HFULL
  clear hM
  go_wp2_with fail
  have HK1 : Hid (Keep [] w (w.alloc (.cells #[.int .i64 0, .int .i64 0] 82))) := (Keep.refl _ _).alloc _
  have HR1 : Hid (Blk (w.alloc (.cells #[.int .i64 0, .int .i64 0] 82)) w.heap.size #[.int .i64 0, .int .i64 0] 82) := Blk.new _ _ _
  obtain ⟨g0, hg0⟩ : ∃ g0, w.heap.size = g0 := ⟨_, rfl⟩
  have HG0 := Lib.hid hg0
  rw [hg0] at HR1 ⊢
  clear hg0
  generalize w.alloc (.cells #[.int .i64 0, .int .i64 0] 82) = w1 at HK1 HR1 ⊢
  have HBL1 := Lib.hid (HBL.out.keep HK1.out (by simp))
  have s0 := HBL1.out.cell 0 _ rfl
  have s2 := HBL1.out.cell 2 _ rfl
  have s3 := HBL1.out.cell 3 _ rfl
  simp only [List.getElem_toArray, List.getElem_cons_zero, List.getElem_cons_succ] at s0 s2 s3
  go_quiet (fail)
  have HK2 : Hid (Keep [] w (w1.drewN nq)) := HK1.out.drewN _
  have HR2 : Hid (Blk (w1.drewN nq) g0 #[.int .i64 0, .int .i64 0] 82) := HR1.out.drewN _
  have HBL2 := Lib.hid (HBL1.out.drewN nq)
  clear HK1 HR1 HBL1 s0 s2 s3
  generalize w1.drewN nq = w2 at HK2 HR2 HBL2 ⊢
  have s2 := HBL2.out.cell 2 _ rfl
  have s4 := HBL2.out.cell 4 _ rfl
  have r0 := HR2.out.cell 0 _ rfl
  have r1 := HR2.out.cell 1 _ rfl
  have f0 := HR2.out.free 0
  have f1 := HR2.out.free 1
  simp only [List.getElem_toArray, List.getElem_cons_zero, List.getElem_cons_succ] at s2 s4 r0 r1
  by_cases hfew : M < mn
  · have HR := Lib.hid (HFEW.out hfew)
    have d1 : (M : Int) < (mn : Int) := by omega
    have HF : Hid (Blk ((w2.setCell ⟨g0, 0, none⟩ (.int .i64 0)).setCell ⟨g0, 1, none⟩ (.int .i64 0)) g0 #[.int .i64 0, .int .i64 0] 82) := (HR2.out.set 0 (.int .i64 0)).set 1 (.int .i64 0)
    have HKF : Hid (Keep [] w ((w2.setCell ⟨g0, 0, none⟩ (.int .i64 0)).setCell ⟨g0, 1, none⟩ (.int .i64 0))) := (HK2.out.setCell (.inr (by rw [← HG0.out]; exact Nat.le_refl _)) _).setCell (.inr (by rw [← HG0.out]; exact Nat.le_refl _)) _
    clear hfew
    go_wp2_with fail
    refine bodyPost_ret (results_cell_row rfl _ _ _ _ _ (0, 0) _ rfl HF.out Try.underlying82 rfl (by kernel_rfl)) rfl ?_
    exact ⟨by rw [HR.out]; rfl, HKF.out⟩
  have d1 : ¬ (M : Int) < (mn : Int) := by omega
  have hil : i < b.length := by omega
  have s4 := (HBL2.out.alloc (.cells #[.int .i64 0, .int .i64 0] 82)).cell 4 _ rfl
  simp only [List.getElem_toArray, List.getElem_cons_zero, List.getElem_cons_succ] at s4
  have HK3 : Hid (Keep [] w (w2.alloc (.cells #[.int .i64 0, .int .i64 0] 82))) := HK2.out.alloc _
  have HR3 : Hid (Blk (w2.alloc (.cells #[.int .i64 0, .int .i64 0] 82)) g0 #[.int .i64 0, .int .i64 0] 82) := HR2.out.alloc _
  have HB3 : Hid (Blk (w2.alloc (.cells #[.int .i64 0, .int .i64 0] 82)) w2.heap.size #[.int .i64 0, .int .i64 0] 82) := Blk.new _ _ _
  have HQ3 : Hid (g0 < w2.heap.size) := HR2.out.lt
  go_wp2_with fail
  generalize w2.alloc (.cells #[.int .i64 0, .int .i64 0] 82) = w3 at HK3 HR3 HB3 s4 ⊢
  generalize w2.heap.size = gb at HB3 HQ3 ⊢
  clear s2 s4 r0 r1 f0 f1 HK2 HR2 HBL2 d1 hM2
  go_loopw [7, 37] (fun pv cv wr => ∃ (c p n : Nat) (d : Int), c ≤ ch ∧ p ≤ i ∧ n < M ∧ pv = .int .i64 p ∧ cv = .int .i64 c ∧ Hid (p = i ∨ eqm b p i mn) ∧ Hid (atT b S i = atF b S i p c ⟨0, d, (n : Int)⟩) ∧ Hid (Keep [] w wr) ∧ Hid (Blk wr g0 #[.int .i64 0, .int .i64 0] 82) ∧ Hid (Blk wr gb #[.int .i64 d, .int .i64 n] 82)) (fun _ cv _ => ch - (intOf cv).toNat)
  case atStart => exact ⟨0, i, 0, 0, by omega, by omega, by omega, rfl, rfl, .inl rfl, HA0.out, HK3.out, HR3.out, HB3.out⟩
  case round =>
    obtain ⟨c, p, n, d, hc, hp, hn, rfl, rfl, HP, HA, HK, HR, HB⟩ := hrel
    clear HK3 HR3 HB3
    by_cases hcc : c < ch
    case neg =>
      have HRR : Hid (atT b S i = ⟨0, d, (n : Int)⟩) := by
        have := HA.out
        rw [HEND.out _ _ _ (by omega)] at this
        exact this
      have d2 : ¬ (c : Int) < (ch : Int) := by omega
      clear hcc HA HP
      have b0 := HB.out.cell 0 _ rfl
      have b1 := HB.out.cell 1 _ rfl
      have f0 := HR.out.free 0
      have f1 := HR.out.free 1
      have r0 := HR.out.cell 0 _ rfl
      have r1 := HR.out.cell 1 _ rfl
      simp only [List.getElem_toArray, List.getElem_cons_zero, List.getElem_cons_succ] at b0 b1 r0 r1
      have HF : Hid (Blk ((wr.setCell ⟨g0, 0, none⟩ (.int .i64 d)).setCell ⟨g0, 1, none⟩ (.int .i64 n)) g0 #[.int .i64 d, .int .i64 n] 82) := (HR.out.set 0 (.int .i64 d)).set 1 (.int .i64 n)
      have HKF : Hid (Keep [] w ((wr.setCell ⟨g0, 0, none⟩ (.int .i64 d)).setCell ⟨g0, 1, none⟩ (.int .i64 n))) := (HK.out.setCell (.inr (by rw [← HG0.out]; exact Nat.le_refl _)) _).setCell (.inr (by rw [← HG0.out]; exact Nat.le_refl _)) _
      go_wp2_with fail
      refine bodyPost_ret (results_cell_row rfl _ _ _ _ _ (0, 0) _ rfl HF.out Try.underlying82 rfl (by kernel_rfl)) rfl ?_
      exact ⟨by rw [HRR.out]; rfl, HKF.out⟩
    have d2 : (c : Int) < (ch : Int) := by omega
    have HBL3 := Lib.hid (HBL.out.keep HK.out (by simp))
    have s6 := HBL3.out.cell 6 _ rfl
    simp only [List.getElem_toArray, List.getElem_cons_zero, List.getElem_cons_succ] at s6
    have hchain : prv b mn i p = prv b mn p p := by
      rcases HP.out with h | h
      · rw [h]
      · exact (prv_chain (by omega) hp h p (Nat.le_refl _)).symm
    have hA := HA.out
    rw [HAT.out, hchain] at hA
    obtain ⟨gk, off, cp, hv, hbc⟩ := HBAT.out p (by omega)
    have hbc' := HK.out.cell hbc (by simp)
    subst hv
    have hbd : bck b mn p ≤ 100000 := by unfold bck; split <;> omega
    cases hpp : prv b mn p p with
    | none =>
      rw [hpp] at hA
      have HRR : Hid (atT b S i = ⟨0, d, (n : Int)⟩) := hA
      rw [bck_none hpp] at hbc'
      clear hA hpp hchain hbc hbd HA HP hcc
      have b0 := HB.out.cell 0 _ rfl
      have b1 := HB.out.cell 1 _ rfl
      have f0 := HR.out.free 0
      have f1 := HR.out.free 1
      have r0 := HR.out.cell 0 _ rfl
      have r1 := HR.out.cell 1 _ rfl
      simp only [List.getElem_toArray, List.getElem_cons_zero, List.getElem_cons_succ] at b0 b1 r0 r1
      have HF : Hid (Blk ((wr.setCell ⟨g0, 0, none⟩ (.int .i64 d)).setCell ⟨g0, 1, none⟩ (.int .i64 n)) g0 #[.int .i64 d, .int .i64 n] 82) := (HR.out.set 0 (.int .i64 d)).set 1 (.int .i64 n)
      have HKF : Hid (Keep [] w ((wr.setCell ⟨g0, 0, none⟩ (.int .i64 d)).setCell ⟨g0, 1, none⟩ (.int .i64 n))) := (HK.out.setCell (.inr (by rw [← HG0.out]; exact Nat.le_refl _)) _).setCell (.inr (by rw [← HG0.out]; exact Nat.le_refl _)) _
      go_wp2_with fail
      refine bodyPost_ret (results_cell_row rfl _ _ _ _ _ (0, 0) _ rfl HF.out Try.underlying82 rfl (by kernel_rfl)) rfl ?_
      exact ⟨by rw [HRR.out]; rfl, HKF.out⟩
    | some p' =>
      rw [hpp] at hA
      simp only at hA
      obtain ⟨hpp1, heq⟩ := prv_some (by omega) (hchain.trans hpp)
      have HEQ := Lib.hid heq
      obtain ⟨z, hz⟩ : ∃ z : Nat, p - p' = z := ⟨_, rfl⟩
      rw [bck_some hpp, hz] at hbc'
      have hz1 : (p : Int) - (z : Int) = (p' : Int) := by omega
      have hz0 : ((z : Int) == 0) = false := by simp; omega
      have hz2 : ¬ z = 0 := by omega
      have hpi : p' < i := by omega
      have hzb : z ≤ 100000 := by omega
      have HZ := Lib.hid hz
      clear hz hbd hbc hchain hpp HP HA heq
      by_cases hw : (i : Int) - p' ≤ win
      case neg =>
        have HRR : Hid (atT b S i = ⟨0, d, (n : Int)⟩) := by rw [if_neg (fun g => hw g.1)] at hA; exact hA
        have d4 : (i : Int) - p' > win := by omega
        clear hA hw
        have s1 := HBL3.out.cell 1 _ rfl
        simp only [List.getElem_toArray, List.getElem_cons_zero, List.getElem_cons_succ] at s1
        have b0 := HB.out.cell 0 _ rfl
        have b1 := HB.out.cell 1 _ rfl
        have f0 := HR.out.free 0
        have f1 := HR.out.free 1
        have r0 := HR.out.cell 0 _ rfl
        have r1 := HR.out.cell 1 _ rfl
        simp only [List.getElem_toArray, List.getElem_cons_zero, List.getElem_cons_succ] at b0 b1 r0 r1
        have HF : Hid (Blk ((wr.setCell ⟨g0, 0, none⟩ (.int .i64 d)).setCell ⟨g0, 1, none⟩ (.int .i64 n)) g0 #[.int .i64 d, .int .i64 n] 82) := (HR.out.set 0 (.int .i64 d)).set 1 (.int .i64 n)
        have HKF : Hid (Keep [] w ((wr.setCell ⟨g0, 0, none⟩ (.int .i64 d)).setCell ⟨g0, 1, none⟩ (.int .i64 n))) := (HK.out.setCell (.inr (by rw [← HG0.out]; exact Nat.le_refl _)) _).setCell (.inr (by rw [← HG0.out]; exact Nat.le_refl _)) _
        go_wp2_with fail
        refine bodyPost_ret (results_cell_row rfl _ _ _ _ _ (0, 0) _ rfl HF.out Try.underlying82 rfl (by kernel_rfl)) rfl ?_
        exact ⟨by rw [HRR.out]; rfl, HKF.out⟩
      rw [if_pos ⟨hw, by omega⟩] at hA
      have HA2 := Lib.hid hA
      have d4 : ¬ (i : Int) - p' > win := by omega
      clear hA hw
      have s1 := HBL3.out.cell 1 _ rfl
      have s0 := HBL3.out.cell 0 _ rfl
      have b1 := HB.out.cell 1 _ rfl
      simp only [List.getElem_toArray, List.getElem_cons_zero, List.getElem_cons_succ] at s0 s1 b1
      obtain ⟨g, off1, cap1, hv, e1⟩ := HI.out (i + n) (by omega)
      simp only [Value.slice.injEq] at hv
      obtain ⟨rfl, h3, rfl⟩ := hv
      clear h3
      obtain ⟨g', off2, cap2, hv, e2⟩ := HI.out (p' + n) (by omega)
      simp only [Value.slice.injEq, Option.some.injEq, Addr.mk.injEq] at hv
      obtain ⟨⟨rfl, rfl, hh⟩, h3, rfl⟩ := hv
      clear h3 hh
      have e1' := HK.out.cell e1 (by simp)
      have e2' := HK.out.cell e2 (by simp)
      clear e1 e2
      have d5 : (i : Int) + n < (b.length : Int) := by omega
      have d6 : (p' : Int) + n < (b.length : Int) := by omega
      have g1 : b.getD (p' + n) 0 = b[p' + n]'(by omega) := by rw [List.getD_eq_getElem?_getD, List.getElem?_eq_getElem (by omega)]; rfl
      have g2 : b.getD (i + n) 0 = b[i + n]'(by omega) := by rw [List.getD_eq_getElem?_getD, List.getElem?_eq_getElem (by omega)]; rfl
      by_cases he : b[p' + n]'(by omega) = b[i + n]'(by omega)
      case neg =>
        have hb1 : (((b[p' + n]'(by omega)).toNat : Int) != (b[i + n]'(by omega)).toNat) = true := by
          have : (b[p' + n]'(by omega)).toNat ≠ (b[i + n]'(by omega)).toNat := fun e => he (UInt8.toNat_inj.1 e)
          simp; omega
        have HC2 : Hid (atT b S i = atF b S i p' (c + 1) ⟨0, d, (n : Int)⟩) := by
          have h1 := sme_differ (b := b) (p := p') (i := i) (m := mx) (a := n) (by rw [g1, g2]; exact he)
          have h2 := HA2.out
          rw [HU.out, if_neg (by show ¬ (n : Int) < _; omega)] at h2
          exact h2
        generalize (b[p' + n]'(by omega)).toNat = x1 at e2' hb1
        generalize (b[i + n]'(by omega)).toNat = x2 at e1' hb1
        clear he g1 g2 HA2
        go_wp2_with fail
        go_quiet (fail)
        go_wp2_with fail
        go_roundw
        case rel => exact ⟨c + 1, p', n, d, by omega, by omega, hn, rfl, by go_num, .inr HEQ.out, HC2.out, HK.out.drewN _, HR.out.drewN _, HB.out.drewN _⟩
        case measure => simp [intOf]; omega
      have hb1 : (((b[p' + n]'(by omega)).toNat : Int) != (b[i + n]'(by omega)).toNat) = false := by rw [he]; simp
      generalize (b[p' + n]'(by omega)).toNat = x1 at e2' hb1
      generalize (b[i + n]'(by omega)).toNat = x2 at e1' hb1
      clear he g1 g2
      go_wp2_with fail
      go_quiet (fail)
      have HKq := Lib.hid (HK.out.drewN nq)
      have HRq := Lib.hid (HR.out.drewN nq)
      have HBq := Lib.hid (HB.out.drewN nq)
      clear HK HR HB e1' e2' s0 s1 s6 hbc' b1 HBL3
      generalize wr.drewN nq = w4 at HKq HRq HBq ⊢
      go_wp2_with fail
      have hsm := sme_most b p' i mx hi
      rw [← hMM.out] at hsm
      refine (HE.out w4 HKq.out p' M (by omega) hMM.out (by omega) HEQ.out).mono ?_
      rintro e w' ⟨rfl, nn, rfl⟩
      have HU2 := Lib.hid (HU.out p' ⟨0, d, (n : Int)⟩)
      have HU3 : Hid (upd b S i p' ⟨0, d, (n : Int)⟩ = if (n : Int) < ((sme b p' i mx : Nat) : Int) then ⟨0, (i : Int) - p', ((sme b p' i mx : Nat) : Int)⟩ else ⟨0, d, (n : Int)⟩) := HU2.out
      clear HU2
      generalize sme b p' i mx = m at hsm HU3 ⊢
      have HK5 := Lib.hid (HKq.out.drewN nn)
      have HR5 := Lib.hid (HRq.out.drewN nn)
      have HB5 := Lib.hid (HBq.out.drewN nn)
      clear HKq HRq HBq
      generalize w4.drewN nn = w5 at HK5 HR5 HB5 ⊢
      have b0 := HB5.out.cell 0 _ rfl
      have b1 := HB5.out.cell 1 _ rfl
      have f0 := HB5.out.free 0
      have f1 := HB5.out.free 1
      simp only [List.getElem_toArray, List.getElem_cons_zero, List.getElem_cons_succ] at b0 b1
      by_cases hnm : n < m
      case neg =>
        have d7 : ¬ (m : Int) > (n : Int) := by omega
        have d8 : ((n : Int) == (M : Int)) = false := by simp; omega
        have HC2 : Hid (atT b S i = atF b S i p' (c + 1) ⟨0, d, (n : Int)⟩) := by
          have h2 := HA2.out
          rw [HU3.out, if_neg (by omega)] at h2
          exact h2
        clear hnm HA2 HU3
        go_wp2_with fail
        go_roundw
        case rel => exact ⟨c + 1, p', n, d, by omega, by omega, hn, rfl, by go_num, .inr HEQ.out, HC2.out, HK5.out, HR5.out, HB5.out⟩
        case measure => simp [intOf]; omega
      have d7 : (m : Int) > (n : Int) := by omega
      have HC2 : Hid (atT b S i = atF b S i p' (c + 1) ⟨0, (i : Int) - p', (m : Int)⟩) := by
        have h2 := HA2.out
        rw [HU3.out, if_pos (by omega)] at h2
        exact h2
      have HK6 : Hid (Keep [] w ((w5.setCell ⟨gb, 0, none⟩ (.int .i64 ((i : Int) - p'))).setCell ⟨gb, 1, none⟩ (.int .i64 m))) := (HK5.out.setCell (.inr (by have := HG0.out; have := HQ3.out; show w.heap.size ≤ gb; omega)) _).setCell (.inr (by have := HG0.out; have := HQ3.out; show w.heap.size ≤ gb; omega)) _
      have HR6 : Hid (Blk ((w5.setCell ⟨gb, 0, none⟩ (.int .i64 ((i : Int) - p'))).setCell ⟨gb, 1, none⟩ (.int .i64 m)) g0 #[.int .i64 0, .int .i64 0] 82) := (HR5.out.other (by have := HQ3.out; show g0 ≠ gb; omega) _).other (by have := HQ3.out; show g0 ≠ gb; omega) _
      have HB6 : Hid (Blk ((w5.setCell ⟨gb, 0, none⟩ (.int .i64 ((i : Int) - p'))).setCell ⟨gb, 1, none⟩ (.int .i64 m)) gb #[.int .i64 ((i : Int) - p'), .int .i64 m] 82) := (HB5.out.set 0 (.int .i64 ((i : Int) - p'))).set 1 (.int .i64 m)
      clear HA2 HU3
      by_cases hfull : m = M
      · have HRR : Hid (atT b S i = ⟨0, (i : Int) - p', (m : Int)⟩) := by rw [HC2.out]; exact HFULL.out _ _ _ (by show (M : Int) ≤ (m : Int); omega)
        have d8 : ((m : Int) == (M : Int)) = true := by simp; omega
        clear hfull HC2 hnm
        go_upto_region 15 with fail
        generalize (w5.setCell ⟨gb, 0, none⟩ (.int .i64 ((i : Int) - p'))).setCell ⟨gb, 1, none⟩ (.int .i64 m) = w6 at HK6 HR6 HB6 ⊢
        clear b0 b1 f0 f1 HK5 HR5 HB5
        have b0' := HB6.out.cell 0 _ rfl
        have b1' := HB6.out.cell 1 _ rfl
        have f0' := HR6.out.free 0
        have f1' := HR6.out.free 1
        have r0 := HR6.out.cell 0 _ rfl
        have r1 := HR6.out.cell 1 _ rfl
        simp only [List.getElem_toArray, List.getElem_cons_zero, List.getElem_cons_succ] at b0' b1' r0 r1
        have HF : Hid (Blk ((w6.setCell ⟨g0, 0, none⟩ (.int .i64 ((i : Int) - p'))).setCell ⟨g0, 1, none⟩ (.int .i64 m)) g0 #[.int .i64 ((i : Int) - p'), .int .i64 m] 82) := (HR6.out.set 0 (.int .i64 ((i : Int) - p'))).set 1 (.int .i64 m)
        have HKF : Hid (Keep [] w ((w6.setCell ⟨g0, 0, none⟩ (.int .i64 ((i : Int) - p'))).setCell ⟨g0, 1, none⟩ (.int .i64 m))) := (HK6.out.setCell (.inr (by rw [← HG0.out]; exact Nat.le_refl _)) _).setCell (.inr (by rw [← HG0.out]; exact Nat.le_refl _)) _
        go_wp2_with fail
        refine bodyPost_ret (results_cell_row rfl _ _ _ _ _ (0, 0) _ rfl HF.out Try.underlying82 rfl (by kernel_rfl)) rfl ?_
        exact ⟨by rw [HRR.out]; rfl, HKF.out⟩
      · have d8 : ((m : Int) == (M : Int)) = false := by simp; omega
        clear hnm
        go_wp2_with fail
        go_roundw
        case rel => exact ⟨c + 1, p', m, (i : Int) - p', by omega, by omega, by omega, rfl, by go_num, .inr HEQ.out, HC2.out, HK6.out, HR6.out, HB6.out⟩
        case measure => simp [intOf]; omega
end Go.Proofs.Ytmafgamacijdaaa
