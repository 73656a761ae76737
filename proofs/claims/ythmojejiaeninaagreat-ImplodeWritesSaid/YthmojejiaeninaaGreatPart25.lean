/- Texts put together: FinAt FinAt2 FinNext -/
import Derived.Test.YthmojejiaeninaaGreatPart24
import Derived.Test.YthmojejiaeninaaGreatPart8
import Derived.BigQuiet
import Derived.Lib.MinMax
namespace Go.Proofs.YthmojejiaeninaaGreat
set_option linter.unusedVariables false
set_option linter.unusedSimpArgs false
set_option maxRecDepth 100000
open Go.ChangeShapes Go.WideShapes Go.ChangeAt Go.RowKit

/-- block q is a text with what is needed to find copies -/
structure Srch (w : World) (q : Nat) (v bv : Value) (b : List UInt8) (s : Sh) : Prop where
  blk : Blk w q #[v, .int .i64 s.win, .int .i64 s.min, .int .i64 s.max, .int .i64 s.chain, .bool s.lazy, bv] 115
  text : Bs w v b
  back : Gs el32 w bv ((List.range b.length).map (bck b s.min.toNat))
theorem Srch.keep {w w' : World} {q : Nat} {v bv : Value} {b : List UInt8} {s : Sh} (h : Srch w q v bv b s) (k : Keep [] w w') : Srch w' q v bv b s :=
  ⟨h.blk.keep k (by simp), h.text.keep k (by simp), h.back.keep' good32 k (by simp)⟩
set_option maxRecDepth 100000 in
set_option maxHeartbeats 4000000 in
theorem equal_c (w : World) (q : Nat) (v bv : Value) (b : List UInt8) (s : Sh) (hs : s.ok) (h : Srch w q v bv b s) (p i M : Nat) (hp : p ≤ i) (hi : i ≤ b.length) (hb : b.length ≤ 100000) (hM : M = min s.max.toNat (b.length - i)) (hmn : s.min.toNat ≤ M) (he : eqm b p i s.min.toNat) :
    Calls Tryz.prog 87 #[.pointer (some ⟨q, 0, none⟩), .int .i64 p, .int .i64 i, .int .i64 M] w fun e w' => e = .returned (.int .i64 (sme b p i s.max.toNat : Nat)) ∧ ∃ n, w' = w.drewN n := by
  have hs' := hs
  unfold Sh.ok at hs'
  obtain ⟨win, mn, mx, ch, lz⟩ := s
  simp only at hs' hM hmn he ⊢
  obtain ⟨mn, rfl⟩ := Int.eq_ofNat_of_zero_le (show 0 ≤ mn by omega)
  obtain ⟨mx, rfl⟩ := Int.eq_ofNat_of_zero_le (show 0 ≤ mx by omega)
  have e1 : ((mn : Int).toNat) = mn := by simp
  have e2 : ((mx : Int).toNat) = mx := by simp
  rw [e1] at hmn he
  rw [e2] at hM ⊢
  have HI := Lib.hid (fun k hk => h.text.spot k hk)
  have HBL : Hid (Blk w q #[v, .int .i64 win, .int .i64 mn, .int .i64 mx, .int .i64 ch, .bool lz, bv] 115) := h.blk
  have HF : Hid (∀ n, n ≤ M → (∀ j, j < n → b.getD (p + j) 0 = b.getD (i + j) 0) → (n = M ∨ b.getD (p + n) 0 ≠ b.getD (i + n) 0) → sme b p i mx = n) := fun n h1 h2 h3 => sme_from hi (by omega) h2 (by rw [hM] at h3; exact h3)
  have HE := Lib.hid he.2
  have hMi : i + M ≤ b.length := by omega
  obtain ⟨a, cap, rfl, hc1, hc2⟩ := h.text.shape
  clear h hc1 hc2 hs hs' e1 e2 he
  have s0 := HBL.out.cell 0 _ rfl
  have s2 := HBL.out.cell 2 _ rfl
  simp only [List.getElem_toArray, List.getElem_cons_zero, List.getElem_cons_succ] at s0 s2
  clear hM
  go_enter Tryz.func87, Tryz.ntmps87
  go_wp2_with fail
  go_loopw [9] (fun n wr => ∃ k : Nat, mn ≤ k ∧ k ≤ M ∧ n = .int .i64 k ∧ Hid (∀ j, j < k → b.getD (p + j) 0 = b.getD (i + j) 0) ∧ ∃ n, wr = w.drewN n) (fun n _ => M - (intOf n).toNat)
  case atStart => exact ⟨mn, by omega, by omega, rfl, HE.out, 0, rfl⟩
  case round =>
    obtain ⟨k, hk, hkb, rfl, HC, n, rfl⟩ := hrel
    by_cases h1 : k < M
    case neg =>
      obtain rfl : k = M := by omega
      have HC2 := Lib.hid (HF.out k (Nat.le_refl _) HC.out (.inl rfl))
      clear HC h1
      go_wp2_with fail
      go_quiet (fail)
      go_wp2_with fail
      go_ret
      exact ⟨by rw [HC2.out]; rfl, _, World.drewN_drewN _ _ _⟩
    have d1 : (k : Int) < (M : Int) := by omega
    obtain ⟨g, off, cap1, hv, e1⟩ := HI.out (i + k) (by omega)
    simp only [Value.slice.injEq] at hv
    obtain ⟨rfl, h3, rfl⟩ := hv
    clear h3
    obtain ⟨g', off', cap2, hv, e2⟩ := HI.out (p + k) (by omega)
    simp only [Value.slice.injEq, Option.some.injEq, Addr.mk.injEq] at hv
    obtain ⟨⟨rfl, rfl, hh⟩, h3, rfl⟩ := hv
    clear h3 hh
    have d2 : (i : Int) + k < (b.length : Int) := by omega
    have d3 : (p : Int) + k < (b.length : Int) := by omega
    have g1 : b.getD (p + k) 0 = b[p + k]'(by omega) := by rw [List.getD_eq_getElem?_getD, List.getElem?_eq_getElem (by omega)]; rfl
    have g2 : b.getD (i + k) 0 = b[i + k]'(by omega) := by rw [List.getD_eq_getElem?_getD, List.getElem?_eq_getElem (by omega)]; rfl
    by_cases he : b[p + k]'(by omega) = b[i + k]'(by omega)
    · have hb1 : (((b[p + k]'(by omega)).toNat : Int) == (b[i + k]'(by omega)).toNat) = true := by rw [he]; simp
      have HC2 : Hid (∀ j, j < k + 1 → b.getD (p + j) 0 = b.getD (i + j) 0) := fun j hj => by
        by_cases ej : j = k
        · subst ej; rw [g1, g2, he]
        · exact HC.out j (by omega)
      generalize (b[p + k]'(by omega)).toNat = x1 at e2 hb1
      generalize (b[i + k]'(by omega)).toNat = x2 at e1 hb1
      clear he HC g1 g2
      go_wp2_with fail
      go_quiet (fail)
      go_wp2_with fail
      go_roundw
      case rel => exact ⟨k + 1, by omega, by omega, by go_num, HC2, _, rfl⟩
      case measure => simp [intOf]; omega
    · have hb1 : (((b[p + k]'(by omega)).toNat : Int) == (b[i + k]'(by omega)).toNat) = false := by
        have : (b[p + k]'(by omega)).toNat ≠ (b[i + k]'(by omega)).toNat := fun e => he (UInt8.toNat_inj.1 e)
        simp; omega
      have HC2 := Lib.hid (HF.out k (by omega) HC.out (.inr (by rw [g1, g2]; exact he)))
      generalize (b[p + k]'(by omega)).toNat = x1 at e2 hb1
      generalize (b[i + k]'(by omega)).toNat = x2 at e1 hb1
      clear he HC g1 g2
      go_wp2_with fail
      go_quiet (fail)
      go_wp2_with fail
      go_ret
      exact ⟨by rw [HC2.out]; rfl, _, World.drewN_drewN _ _ _⟩
end Go.Proofs.YthmojejiaeninaaGreat
namespace Go.Proofs.YthmojejiaeninaaGreat
set_option linter.unusedVariables false
set_option linter.unusedSimpArgs false
set_option maxRecDepth 100000
open Go.ChangeShapes Go.WideShapes Go.ChangeAt Go.RowKit

theorem Srch.bat {w : World} {q : Nat} {v bv : Value} {b : List UInt8} {s : Sh} (h : Srch w q v bv b s) (p : Nat) (hp : p < b.length) : ∃ g off cap, bv = .slice (some ⟨g, off, none⟩) b.length cap ∧ w.cell? ⟨g, off + p, none⟩ = some (.int .i32 (bck b s.min.toNat p : Nat)) := by
  obtain ⟨g, off, cap, hv, hc⟩ := h.back.at good32 p (by simpa using hp)
  refine ⟨g, off, cap, by rw [hv]; simp, ?_⟩
  have := hc 0 Nat.zero_lt_one
  simpa [el32] using this
/-- a found value's cells -/
def Tk.fnd (t : Tk) : Array Value := #[.int .i64 t.dist, .int .i64 t.len]
set_option maxRecDepth 100000 in
set_option maxHeartbeats 4000000 in
theorem fat_c (w : World) (q : Nat) (v bv : Value) (b : List UInt8) (s : Sh) (hs : s.ok) (h : Srch w q v bv b s) (i : Nat) (hi : i ≤ b.length) (hb : b.length ≤ 100000) :
    Calls Tryz.prog 52 #[.pointer (some ⟨q, 0, none⟩), .int .i64 i] w fun e w' => e = .returned (.agg (atT b s i).fnd) ∧ Keep [] w w' := by
  have hs' := hs
  unfold Sh.ok at hs'
  have HS := Lib.hid h
  have HE := Lib.hid (fun (ww : World) (kk : Keep [] w ww) (p M : Nat) (hp : p ≤ i) (hM : M = min s.max.toNat (b.length - i)) (hmn : s.min.toNat ≤ M) (he : eqm b p i s.min.toNat) => equal_c ww q v bv b s hs (h.keep kk) p i M hp hi hb hM hmn he)
  have HFEW : Hid (min s.max.toNat (b.length - i) < s.min.toNat → atT b s i = ⟨0, 0, 0⟩) := atT_few hs hi
  have HAT := Lib.hid (atF_prv b s i)
  have HFULL := Lib.hid (fun k L best => atF_full (b := b) (s := s) (i := i) hi k L best)
  have HA0 : Hid (atT b s i = atF b s i i 0 ⟨0, 0, 0⟩) := rfl
  have HBAT := Lib.hid h.bat
  have HI := Lib.hid (fun k hk => h.text.spot k hk)
  obtain ⟨a, cap, hv, hc1, hc2⟩ := h.text.shape
  subst hv
  have HBL := Lib.hid h.blk
  obtain ⟨mn, hmn⟩ := Int.eq_ofNat_of_zero_le (show 0 ≤ s.min by omega)
  obtain ⟨mx, hmx⟩ := Int.eq_ofNat_of_zero_le (show 0 ≤ s.max by omega)
  obtain ⟨win, hwin⟩ := Int.eq_ofNat_of_zero_le (show 0 ≤ s.win by omega)
  obtain ⟨ch, hch⟩ := Int.eq_ofNat_of_zero_le (show 0 ≤ s.chain by omega)
  have e1 : s.min.toNat = mn := by omega
  have e2 : s.max.toNat = mx := by omega
  rw [hmn, hmx, hwin, hch] at HBL
  rw [e1, e2] at HE HFEW
  rw [hwin, hch, e1] at HAT
  rw [e2] at HFULL
  have hmn2 : 2 ≤ mn := by omega
  have hmn3 : mn ≤ 3 := by omega
  have hmx6 : mx ≤ 65538 := by omega
  have hwin6 : win ≤ 65536 := by omega
  have hch4 : ch ≤ 4096 := by omega
  rw [e1] at HBAT
  have HU : Hid (∀ p best, updB b s i p best = if best.len < (sme b p i mx : Int) then ⟨0, (i : Int) - p, sme b p i mx⟩ else best) := fun p best => by unfold updB; rw [e2]
  have HEND : Hid (∀ k (L : Nat) best, ¬ (L : Int) < ch → atF b s i k L best = best) := by
    intro k L best hL
    rw [HAT.out]
    cases prv b mn i k with
    | none => rfl
    | some p => exact if_neg (fun g => hL g.2)
  clear h hc1 hc2 hs hs' e1 e2 hmn hmx hwin hch HS
  generalize s.lazy = lz at HBL
  generalize hS : s = S at HAT HFULL HA0 HU HFEW HEND ⊢
  clear hS
  go_enter Tryz.func52, Tryz.ntmps52
  obtain ⟨M, hM⟩ : ∃ M : Nat, min mx (b.length - i) = M := ⟨_, rfl⟩
  have hMM := Lib.hid hM.symm
  have hM2 : min (mx : Int) ((b.length : Int) - i) = (M : Int) := by omega
  have hMi : i + M ≤ b.length := by omega
  have hMx : M ≤ mx := by omega
  rw [hM] at HFEW HFULL
  clear hM
  go_wp2_with fail
  have HK1 : Hid (Keep [] w (w.alloc (.cells #[.int .i64 0, .int .i64 0] 117))) := (Keep.refl _ _).alloc _
  have HR1 : Hid (Blk (w.alloc (.cells #[.int .i64 0, .int .i64 0] 117)) w.heap.size #[.int .i64 0, .int .i64 0] 117) := Blk.new _ _ _
  obtain ⟨g0, hg0⟩ : ∃ g0, w.heap.size = g0 := ⟨_, rfl⟩
  have HG0 := Lib.hid hg0
  rw [hg0] at HR1 ⊢
  clear hg0
  generalize w.alloc (.cells #[.int .i64 0, .int .i64 0] 117) = w1 at HK1 HR1 ⊢
  have HBL1 := Lib.hid (HBL.out.keep HK1.out (by simp))
  have s0 := HBL1.out.cell 0 _ rfl
  have s2 := HBL1.out.cell 2 _ rfl
  have s3 := HBL1.out.cell 3 _ rfl
  simp only [List.getElem_toArray, List.getElem_cons_zero, List.getElem_cons_succ] at s0 s2 s3
  go_quiet (fail)
  have HK2 : Hid (Keep [] w (w1.drewN nq)) := HK1.out.drewN _
  have HR2 : Hid (Blk (w1.drewN nq) g0 #[.int .i64 0, .int .i64 0] 117) := HR1.out.drewN _
  have HBL2 := Lib.hid (HBL1.out.drewN nq)
  clear HK1 HR1 HBL1 s0 s2 s3
  generalize w1.drewN nq = w2 at HK2 HR2 HBL2 ⊢
  have s2 := HBL2.out.cell 2 _ rfl
  have s4 := HBL2.out.cell 4 _ rfl
  have r0 := HR2.out.cell 0 _ rfl
  have r1 := HR2.out.cell 1 _ rfl
  have f0 := HR2.out.free 0
  have f1 := HR2.out.free 1
  simp only [List.getElem_toArray, List.getElem_cons_zero, List.getElem_cons_succ] at s2 s4 r0 r1
  by_cases hfew : M < mn
  · have HR := Lib.hid (HFEW.out hfew)
    have d1 : (M : Int) < (mn : Int) := by omega
    have HF : Hid (Blk ((w2.setCell ⟨g0, 0, none⟩ (.int .i64 0)).setCell ⟨g0, 1, none⟩ (.int .i64 0)) g0 #[.int .i64 0, .int .i64 0] 117) := (HR2.out.set 0 (.int .i64 0)).set 1 (.int .i64 0)
    have HKF : Hid (Keep [] w ((w2.setCell ⟨g0, 0, none⟩ (.int .i64 0)).setCell ⟨g0, 1, none⟩ (.int .i64 0))) := (HK2.out.setCell (.inr (by rw [← HG0.out]; exact Nat.le_refl _)) _).setCell (.inr (by rw [← HG0.out]; exact Nat.le_refl _)) _
    clear hfew
    go_wp2_with fail
    refine bodyPost_ret (results_cell_row rfl _ _ _ _ _ (0, 0) _ rfl HF.out Tryz.underlying117 rfl (by kernel_rfl)) rfl ?_
    exact ⟨by rw [HR.out]; rfl, HKF.out⟩
  have d1 : ¬ (M : Int) < (mn : Int) := by omega
  have hil : i < b.length := by omega
  have s4 := (HBL2.out.alloc (.cells #[.int .i64 0, .int .i64 0] 117)).cell 4 _ rfl
  simp only [List.getElem_toArray, List.getElem_cons_zero, List.getElem_cons_succ] at s4
  have HK3 : Hid (Keep [] w (w2.alloc (.cells #[.int .i64 0, .int .i64 0] 117))) := HK2.out.alloc _
  have HR3 : Hid (Blk (w2.alloc (.cells #[.int .i64 0, .int .i64 0] 117)) g0 #[.int .i64 0, .int .i64 0] 117) := HR2.out.alloc _
  have HB3 : Hid (Blk (w2.alloc (.cells #[.int .i64 0, .int .i64 0] 117)) w2.heap.size #[.int .i64 0, .int .i64 0] 117) := Blk.new _ _ _
  have HQ3 : Hid (g0 < w2.heap.size) := HR2.out.lt
  go_wp2_with fail
  generalize w2.alloc (.cells #[.int .i64 0, .int .i64 0] 117) = w3 at HK3 HR3 HB3 s4 ⊢
  generalize w2.heap.size = gb at HB3 HQ3 ⊢
  clear s2 s4 r0 r1 f0 f1 HK2 HR2 HBL2 d1 hM2
  go_loopw [7, 37] (fun pv cv wr => ∃ (c p n : Nat) (d : Int), c ≤ ch ∧ p ≤ i ∧ n < M ∧ pv = .int .i64 p ∧ cv = .int .i64 c ∧ Hid (p = i ∨ eqm b p i mn) ∧ Hid (atT b S i = atF b S i p c ⟨0, d, (n : Int)⟩) ∧ Hid (Keep [] w wr) ∧ Hid (Blk wr g0 #[.int .i64 0, .int .i64 0] 117) ∧ Hid (Blk wr gb #[.int .i64 d, .int .i64 n] 117)) (fun _ cv _ => ch - (intOf cv).toNat)
  case atStart => exact ⟨0, i, 0, 0, by omega, by omega, by omega, rfl, rfl, .inl rfl, HA0.out, HK3.out, HR3.out, HB3.out⟩
  case round =>
    obtain ⟨c, p, n, d, hc, hp, hn, rfl, rfl, HP, HA, HK, HR, HB⟩ := hrel
    clear HK3 HR3 HB3
    by_cases hcc : c < ch
    case neg =>
      have HRR : Hid (atT b S i = ⟨0, d, (n : Int)⟩) := by
        have := HA.out
        rw [HEND.out _ _ _ (by omega)] at this
        exact this
      have d2 : ¬ (c : Int) < (ch : Int) := by omega
      clear hcc HA HP
      have b0 := HB.out.cell 0 _ rfl
      have b1 := HB.out.cell 1 _ rfl
      have f0 := HR.out.free 0
      have f1 := HR.out.free 1
      have r0 := HR.out.cell 0 _ rfl
      have r1 := HR.out.cell 1 _ rfl
      simp only [List.getElem_toArray, List.getElem_cons_zero, List.getElem_cons_succ] at b0 b1 r0 r1
      have HF : Hid (Blk ((wr.setCell ⟨g0, 0, none⟩ (.int .i64 d)).setCell ⟨g0, 1, none⟩ (.int .i64 n)) g0 #[.int .i64 d, .int .i64 n] 117) := (HR.out.set 0 (.int .i64 d)).set 1 (.int .i64 n)
      have HKF : Hid (Keep [] w ((wr.setCell ⟨g0, 0, none⟩ (.int .i64 d)).setCell ⟨g0, 1, none⟩ (.int .i64 n))) := (HK.out.setCell (.inr (by rw [← HG0.out]; exact Nat.le_refl _)) _).setCell (.inr (by rw [← HG0.out]; exact Nat.le_refl _)) _
      go_wp2_with fail
      refine bodyPost_ret (results_cell_row rfl _ _ _ _ _ (0, 0) _ rfl HF.out Tryz.underlying117 rfl (by kernel_rfl)) rfl ?_
      exact ⟨by rw [HRR.out]; rfl, HKF.out⟩
    have d2 : (c : Int) < (ch : Int) := by omega
    have HBL3 := Lib.hid (HBL.out.keep HK.out (by simp))
    have s6 := HBL3.out.cell 6 _ rfl
    simp only [List.getElem_toArray, List.getElem_cons_zero, List.getElem_cons_succ] at s6
    have hchain : prv b mn i p = prv b mn p p := by
      rcases HP.out with h | h
      · rw [h]
      · exact (prv_chain (by omega) hp h p (Nat.le_refl _)).symm
    have hA := HA.out
    rw [HAT.out, hchain] at hA
    obtain ⟨gk, off, cp, hv, hbc⟩ := HBAT.out p (by omega)
    have hbc' := HK.out.cell hbc (by simp)
    subst hv
    have hbd : bck b mn p ≤ 100000 := by unfold bck; split <;> omega
    cases hpp : prv b mn p p with
    | none =>
      rw [hpp] at hA
      have HRR : Hid (atT b S i = ⟨0, d, (n : Int)⟩) := hA
      rw [bck_none hpp] at hbc'
      clear hA hpp hchain hbc hbd HA HP hcc
      have b0 := HB.out.cell 0 _ rfl
      have b1 := HB.out.cell 1 _ rfl
      have f0 := HR.out.free 0
      have f1 := HR.out.free 1
      have r0 := HR.out.cell 0 _ rfl
      have r1 := HR.out.cell 1 _ rfl
      simp only [List.getElem_toArray, List.getElem_cons_zero, List.getElem_cons_succ] at b0 b1 r0 r1
      have HF : Hid (Blk ((wr.setCell ⟨g0, 0, none⟩ (.int .i64 d)).setCell ⟨g0, 1, none⟩ (.int .i64 n)) g0 #[.int .i64 d, .int .i64 n] 117) := (HR.out.set 0 (.int .i64 d)).set 1 (.int .i64 n)
      have HKF : Hid (Keep [] w ((wr.setCell ⟨g0, 0, none⟩ (.int .i64 d)).setCell ⟨g0, 1, none⟩ (.int .i64 n))) := (HK.out.setCell (.inr (by rw [← HG0.out]; exact Nat.le_refl _)) _).setCell (.inr (by rw [← HG0.out]; exact Nat.le_refl _)) _
      go_wp2_with fail
      refine bodyPost_ret (results_cell_row rfl _ _ _ _ _ (0, 0) _ rfl HF.out Tryz.underlying117 rfl (by kernel_rfl)) rfl ?_
      exact ⟨by rw [HRR.out]; rfl, HKF.out⟩
    | some p' =>
      rw [hpp] at hA
      simp only at hA
      obtain ⟨hpp1, heq⟩ := prv_some (by omega) (hchain.trans hpp)
      have HEQ := Lib.hid heq
      obtain ⟨z, hz⟩ : ∃ z : Nat, p - p' = z := ⟨_, rfl⟩
      rw [bck_some hpp, hz] at hbc'
      have hz1 : (p : Int) - (z : Int) = (p' : Int) := by omega
      have hz0 : ((z : Int) == 0) = false := by simp; omega
      have hz2 : ¬ z = 0 := by omega
      have hpi : p' < i := by omega
      have hzb : z ≤ 100000 := by omega
      have HZ := Lib.hid hz
      clear hz hbd hbc hchain hpp HP HA heq
      by_cases hw : (i : Int) - p' ≤ win
      case neg =>
        have HRR : Hid (atT b S i = ⟨0, d, (n : Int)⟩) := by rw [if_neg (fun g => hw g.1)] at hA; exact hA
        have d4 : (i : Int) - p' > win := by omega
        clear hA hw
        have s1 := HBL3.out.cell 1 _ rfl
        simp only [List.getElem_toArray, List.getElem_cons_zero, List.getElem_cons_succ] at s1
        have b0 := HB.out.cell 0 _ rfl
        have b1 := HB.out.cell 1 _ rfl
        have f0 := HR.out.free 0
        have f1 := HR.out.free 1
        have r0 := HR.out.cell 0 _ rfl
        have r1 := HR.out.cell 1 _ rfl
        simp only [List.getElem_toArray, List.getElem_cons_zero, List.getElem_cons_succ] at b0 b1 r0 r1
        have HF : Hid (Blk ((wr.setCell ⟨g0, 0, none⟩ (.int .i64 d)).setCell ⟨g0, 1, none⟩ (.int .i64 n)) g0 #[.int .i64 d, .int .i64 n] 117) := (HR.out.set 0 (.int .i64 d)).set 1 (.int .i64 n)
        have HKF : Hid (Keep [] w ((wr.setCell ⟨g0, 0, none⟩ (.int .i64 d)).setCell ⟨g0, 1, none⟩ (.int .i64 n))) := (HK.out.setCell (.inr (by rw [← HG0.out]; exact Nat.le_refl _)) _).setCell (.inr (by rw [← HG0.out]; exact Nat.le_refl _)) _
        go_wp2_with fail
        refine bodyPost_ret (results_cell_row rfl _ _ _ _ _ (0, 0) _ rfl HF.out Tryz.underlying117 rfl (by kernel_rfl)) rfl ?_
        exact ⟨by rw [HRR.out]; rfl, HKF.out⟩
      rw [if_pos ⟨hw, by omega⟩] at hA
      have HA2 := Lib.hid hA
      have d4 : ¬ (i : Int) - p' > win := by omega
      clear hA hw
      have s1 := HBL3.out.cell 1 _ rfl
      have s0 := HBL3.out.cell 0 _ rfl
      have b1 := HB.out.cell 1 _ rfl
      simp only [List.getElem_toArray, List.getElem_cons_zero, List.getElem_cons_succ] at s0 s1 b1
      obtain ⟨g, off1, cap1, hv, e1⟩ := HI.out (i + n) (by omega)
      simp only [Value.slice.injEq] at hv
      obtain ⟨rfl, h3, rfl⟩ := hv
      clear h3
      obtain ⟨g', off2, cap2, hv, e2⟩ := HI.out (p' + n) (by omega)
      simp only [Value.slice.injEq, Option.some.injEq, Addr.mk.injEq] at hv
      obtain ⟨⟨rfl, rfl, hh⟩, h3, rfl⟩ := hv
      clear h3 hh
      have e1' := HK.out.cell e1 (by simp)
      have e2' := HK.out.cell e2 (by simp)
      clear e1 e2
      have d5 : (i : Int) + n < (b.length : Int) := by omega
      have d6 : (p' : Int) + n < (b.length : Int) := by omega
      have g1 : b.getD (p' + n) 0 = b[p' + n]'(by omega) := by rw [List.getD_eq_getElem?_getD, List.getElem?_eq_getElem (by omega)]; rfl
      have g2 : b.getD (i + n) 0 = b[i + n]'(by omega) := by rw [List.getD_eq_getElem?_getD, List.getElem?_eq_getElem (by omega)]; rfl
      by_cases he : b[p' + n]'(by omega) = b[i + n]'(by omega)
      case neg =>
        have hb1 : (((b[p' + n]'(by omega)).toNat : Int) != (b[i + n]'(by omega)).toNat) = true := by
          have : (b[p' + n]'(by omega)).toNat ≠ (b[i + n]'(by omega)).toNat := fun e => he (UInt8.toNat_inj.1 e)
          simp; omega
        have HC2 : Hid (atT b S i = atF b S i p' (c + 1) ⟨0, d, (n : Int)⟩) := by
          have h1 := sme_differ (b := b) (p := p') (i := i) (m := mx) (a := n) (by rw [g1, g2]; exact he)
          have h2 := HA2.out
          rw [HU.out, if_neg (by show ¬ (n : Int) < _; omega)] at h2
          exact h2
        generalize (b[p' + n]'(by omega)).toNat = x1 at e2' hb1
        generalize (b[i + n]'(by omega)).toNat = x2 at e1' hb1
        clear he g1 g2 HA2
        go_wp2_with fail
        go_quiet (fail)
        go_wp2_with fail
        go_roundw
        case rel => exact ⟨c + 1, p', n, d, by omega, by omega, hn, rfl, by go_num, .inr HEQ.out, HC2.out, HK.out.drewN _, HR.out.drewN _, HB.out.drewN _⟩
        case measure => simp [intOf]; omega
      have hb1 : (((b[p' + n]'(by omega)).toNat : Int) != (b[i + n]'(by omega)).toNat) = false := by rw [he]; simp
      generalize (b[p' + n]'(by omega)).toNat = x1 at e2' hb1
      generalize (b[i + n]'(by omega)).toNat = x2 at e1' hb1
      clear he g1 g2
      go_wp2_with fail
      go_quiet (fail)
      have HKq := Lib.hid (HK.out.drewN nq)
      have HRq := Lib.hid (HR.out.drewN nq)
      have HBq := Lib.hid (HB.out.drewN nq)
      clear HK HR HB e1' e2' s0 s1 s6 hbc' b1 HBL3
      generalize wr.drewN nq = w4 at HKq HRq HBq ⊢
      go_wp2_with fail
      have hsm := sme_most b p' i mx hi
      rw [← hMM.out] at hsm
      refine (HE.out w4 HKq.out p' M (by omega) hMM.out (by omega) HEQ.out).mono ?_
      rintro e w' ⟨rfl, nn, rfl⟩
      have HU2 := Lib.hid (HU.out p' ⟨0, d, (n : Int)⟩)
      have HU3 : Hid (updB b S i p' ⟨0, d, (n : Int)⟩ = if (n : Int) < ((sme b p' i mx : Nat) : Int) then ⟨0, (i : Int) - p', ((sme b p' i mx : Nat) : Int)⟩ else ⟨0, d, (n : Int)⟩) := HU2.out
      clear HU2
      generalize sme b p' i mx = m at hsm HU3 ⊢
      have HK5 := Lib.hid (HKq.out.drewN nn)
      have HR5 := Lib.hid (HRq.out.drewN nn)
      have HB5 := Lib.hid (HBq.out.drewN nn)
      clear HKq HRq HBq
      generalize w4.drewN nn = w5 at HK5 HR5 HB5 ⊢
      have b0 := HB5.out.cell 0 _ rfl
      have b1 := HB5.out.cell 1 _ rfl
      have f0 := HB5.out.free 0
      have f1 := HB5.out.free 1
      simp only [List.getElem_toArray, List.getElem_cons_zero, List.getElem_cons_succ] at b0 b1
      by_cases hnm : n < m
      case neg =>
        have d7 : ¬ (m : Int) > (n : Int) := by omega
        have d8 : ((n : Int) == (M : Int)) = false := by simp; omega
        have HC2 : Hid (atT b S i = atF b S i p' (c + 1) ⟨0, d, (n : Int)⟩) := by
          have h2 := HA2.out
          rw [HU3.out, if_neg (by omega)] at h2
          exact h2
        clear hnm HA2 HU3
        go_wp2_with fail
        go_roundw
        case rel => exact ⟨c + 1, p', n, d, by omega, by omega, hn, rfl, by go_num, .inr HEQ.out, HC2.out, HK5.out, HR5.out, HB5.out⟩
        case measure => simp [intOf]; omega
      have d7 : (m : Int) > (n : Int) := by omega
      have HC2 : Hid (atT b S i = atF b S i p' (c + 1) ⟨0, (i : Int) - p', (m : Int)⟩) := by
        have h2 := HA2.out
        rw [HU3.out, if_pos (by omega)] at h2
        exact h2
      have HK6 : Hid (Keep [] w ((w5.setCell ⟨gb, 0, none⟩ (.int .i64 ((i : Int) - p'))).setCell ⟨gb, 1, none⟩ (.int .i64 m))) := (HK5.out.setCell (.inr (by have := HG0.out; have := HQ3.out; show w.heap.size ≤ gb; omega)) _).setCell (.inr (by have := HG0.out; have := HQ3.out; show w.heap.size ≤ gb; omega)) _
      have HR6 : Hid (Blk ((w5.setCell ⟨gb, 0, none⟩ (.int .i64 ((i : Int) - p'))).setCell ⟨gb, 1, none⟩ (.int .i64 m)) g0 #[.int .i64 0, .int .i64 0] 117) := (HR5.out.other (by have := HQ3.out; show g0 ≠ gb; omega) _).other (by have := HQ3.out; show g0 ≠ gb; omega) _
      have HB6 : Hid (Blk ((w5.setCell ⟨gb, 0, none⟩ (.int .i64 ((i : Int) - p'))).setCell ⟨gb, 1, none⟩ (.int .i64 m)) gb #[.int .i64 ((i : Int) - p'), .int .i64 m] 117) := (HB5.out.set 0 (.int .i64 ((i : Int) - p'))).set 1 (.int .i64 m)
      clear HA2 HU3
      by_cases hfull : m = M
      · have HRR : Hid (atT b S i = ⟨0, (i : Int) - p', (m : Int)⟩) := by rw [HC2.out]; exact HFULL.out _ _ _ (by show (M : Int) ≤ (m : Int); omega)
        have d8 : ((m : Int) == (M : Int)) = true := by simp; omega
        clear hfull HC2 hnm
        go_upto_region 15 with fail
        generalize (w5.setCell ⟨gb, 0, none⟩ (.int .i64 ((i : Int) - p'))).setCell ⟨gb, 1, none⟩ (.int .i64 m) = w6 at HK6 HR6 HB6 ⊢
        clear b0 b1 f0 f1 HK5 HR5 HB5
        have b0' := HB6.out.cell 0 _ rfl
        have b1' := HB6.out.cell 1 _ rfl
        have f0' := HR6.out.free 0
        have f1' := HR6.out.free 1
        have r0 := HR6.out.cell 0 _ rfl
        have r1 := HR6.out.cell 1 _ rfl
        simp only [List.getElem_toArray, List.getElem_cons_zero, List.getElem_cons_succ] at b0' b1' r0 r1
        have HF : Hid (Blk ((w6.setCell ⟨g0, 0, none⟩ (.int .i64 ((i : Int) - p'))).setCell ⟨g0, 1, none⟩ (.int .i64 m)) g0 #[.int .i64 ((i : Int) - p'), .int .i64 m] 117) := (HR6.out.set 0 (.int .i64 ((i : Int) - p'))).set 1 (.int .i64 m)
        have HKF : Hid (Keep [] w ((w6.setCell ⟨g0, 0, none⟩ (.int .i64 ((i : Int) - p'))).setCell ⟨g0, 1, none⟩ (.int .i64 m))) := (HK6.out.setCell (.inr (by rw [← HG0.out]; exact Nat.le_refl _)) _).setCell (.inr (by rw [← HG0.out]; exact Nat.le_refl _)) _
        go_wp2_with fail
        refine bodyPost_ret (results_cell_row rfl _ _ _ _ _ (0, 0) _ rfl HF.out Tryz.underlying117 rfl (by kernel_rfl)) rfl ?_
        exact ⟨by rw [HRR.out]; rfl, HKF.out⟩
      · have d8 : ((m : Int) == (M : Int)) = false := by simp; omega
        clear hnm
        go_wp2_with fail
        go_roundw
        case rel => exact ⟨c + 1, p', m, (i : Int) - p', by omega, by omega, by omega, rfl, by go_num, .inr HEQ.out, HC2.out, HK6.out, HR6.out, HB6.out⟩
        case measure => simp [intOf]; omega
end Go.Proofs.YthmojejiaeninaaGreat
namespace Go.Proofs.YthmojejiaeninaaGreat
set_option linter.unusedVariables false
set_option linter.unusedSimpArgs false
set_option maxRecDepth 100000
open Go.ChangeShapes Go.WideShapes Go.ChangeAt Go.RowKit

/-- what is found behind i, unless the copy at i is taken -/
def nextT (b : List UInt8) (s : Sh) (i : Nat) (d n : Int) : Tk := if (d = 0 ∧ n = 0) ∨ (s.lazy = true ∧ n < s.max) then atT b s (i + 1) else ⟨0, 0, 0⟩
set_option maxRecDepth 100000 in
set_option maxHeartbeats 4000000 in
theorem next_c (w : World) (q : Nat) (v bv : Value) (b : List UInt8) (s : Sh) (hs : s.ok) (h : Srch w q v bv b s) (i : Nat) (hi : i < b.length) (hb : b.length ≤ 100000) (d n : Int) (hz : (d = 0 ∧ n = 0) ∨ ¬ d = 0) :
    Calls Tryz.prog 53 #[.pointer (some ⟨q, 0, none⟩), .int .i64 i, .agg #[.int .i64 d, .int .i64 n]] w fun e w' => e = .returned (.agg (nextT b s i d n).fnd) ∧ Keep [] w w' := by
  have HA := Lib.hid (fun (ww : World) (kk : Keep [] w ww) => fat_c ww q v bv b s hs (h.keep kk) (i + 1) (by omega) hb)
  have HBL := Lib.hid h.blk
  have HN : Hid (nextT b s i d n = if (d = 0 ∧ n = 0) ∨ (s.lazy = true ∧ n < s.max) then atT b s (i + 1) else ⟨0, 0, 0⟩) := rfl
  clear hs h
  obtain ⟨R, hR⟩ : ∃ R, nextT b s i d n = R := ⟨_, rfl⟩
  obtain ⟨T, hT⟩ : ∃ T, atT b s (i + 1) = T := ⟨_, rfl⟩
  rw [hT] at HA HN
  rw [hR] at HN ⊢
  generalize s.win = win at HBL
  generalize s.min = mn at HBL
  generalize s.chain = ch at HBL
  generalize s.max = mx at HBL HN
  generalize s.lazy = lz at HBL HN
  clear hR hT
  obtain ⟨tl, td, tn⟩ := T
  have HA2 : Hid (∀ ww, Keep [] w ww → Calls Tryz.prog 52 #[.pointer (some ⟨q, 0, none⟩), .int .i64 ((i : Int) + 1)] ww fun e w' => e = .returned (.agg #[.int .i64 td, .int .i64 tn]) ∧ Keep [] ww w') := HA.out
  clear HA
  rcases hz with hz | hz
  · obtain ⟨rfl, rfl⟩ := hz
    cases lz with
    | false =>
      have HRR : Hid (R = ⟨tl, td, tn⟩) := by have := HN.out; rw [if_pos (.inl ⟨rfl, rfl⟩)] at this; exact this
      clear HN
      go_enter Tryz.func53, Tryz.ntmps53
      go_wp2_with fail
      have HK1 : Hid (Keep [] w ((w.alloc (.cells #[.int .i64 0, .int .i64 0] 117)).alloc (.cells #[.int .i64 0, .int .i64 0] 117))) := ((Keep.refl _ _).alloc _).alloc _
      have HX1 : Hid (Blk ((w.alloc (.cells #[.int .i64 0, .int .i64 0] 117)).alloc (.cells #[.int .i64 0, .int .i64 0] 117)) w.heap.size #[.int .i64 0, .int .i64 0] 117) := (Blk.new _ _ _).alloc _
      have HR1 : Hid (Blk ((w.alloc (.cells #[.int .i64 0, .int .i64 0] 117)).alloc (.cells #[.int .i64 0, .int .i64 0] 117)) (w.heap.size + 1) #[.int .i64 0, .int .i64 0] 117) := by
        have := Blk.new (w.alloc (.cells #[.int .i64 0, .int .i64 0] 117)) #[.int .i64 0, .int .i64 0] 117
        simp only [World.size_alloc] at this
        exact this
      obtain ⟨g0, hg0⟩ : ∃ g0, w.heap.size = g0 := ⟨_, rfl⟩
      have HG0 := Lib.hid hg0
      rw [hg0] at HX1 HR1 ⊢
      clear hg0
      generalize ((w.alloc (.cells #[.int .i64 0, .int .i64 0] 117)).alloc (.cells #[.int .i64 0, .int .i64 0] 117)) = w2 at HK1 HX1 HR1 ⊢
      have HBL2 := Lib.hid (HBL.out.keep HK1.out (by simp))
      have s5 := HBL2.out.cell 5 _ rfl
      have s3 := HBL2.out.cell 3 _ rfl
      have x0 := HX1.out.cell 0 _ rfl
      have x1 := HX1.out.cell 1 _ rfl
      simp only [List.getElem_toArray, List.getElem_cons_zero, List.getElem_cons_succ] at s5 s3 x0 x1
      go_quiet (fail)
      have HK3 := Lib.hid (HK1.out.drewN nq)
      have HX3 := Lib.hid (HX1.out.drewN nq)
      have HR3 := Lib.hid (HR1.out.drewN nq)
      clear HK1 HX1 HR1 HBL2 s5 s3 x0 x1
      generalize w2.drewN nq = w3 at HK3 HX3 HR3 ⊢
      have x0 := HX3.out.cell 0 _ rfl
      have x1 := HX3.out.cell 1 _ rfl
      have r0 := HR3.out.cell 0 _ rfl
      have r1 := HR3.out.cell 1 _ rfl
      have f0 := HR3.out.free 0
      have f1 := HR3.out.free 1
      simp only [List.getElem_toArray, List.getElem_cons_zero, List.getElem_cons_succ] at x0 x1 r0 r1
      go_wp2_with fail
      refine (HA2.out w3 HK3.out).mono ?_
      rintro e w' ⟨rfl, hk⟩
      have HK4 := Lib.hid (HK3.out.trans hk (by simp))
      have HR4 := Lib.hid (HR3.out.keep hk (by simp))
      clear hk x0 x1 r0 r1 f0 f1
      have r0 := HR4.out.cell 0 _ rfl
      have r1 := HR4.out.cell 1 _ rfl
      have f0 := HR4.out.free 0
      have f1 := HR4.out.free 1
      simp only [List.getElem_toArray, List.getElem_cons_zero, List.getElem_cons_succ] at r0 r1
      have HF : Hid (Blk ((w'.setCell ⟨g0 + 1, 0, none⟩ (.int .i64 td)).setCell ⟨g0 + 1, 1, none⟩ (.int .i64 tn)) (g0 + 1) #[.int .i64 td, .int .i64 tn] 117) := (HR4.out.set 0 (.int .i64 td)).set 1 (.int .i64 tn)
      have HKF : Hid (Keep [] w ((w'.setCell ⟨g0 + 1, 0, none⟩ (.int .i64 td)).setCell ⟨g0 + 1, 1, none⟩ (.int .i64 tn))) := (HK4.out.setCell (.inr (by rw [HG0.out]; exact Nat.le_succ _)) _).setCell (.inr (by rw [HG0.out]; exact Nat.le_succ _)) _
      go_wp2_with fail
      refine bodyPost_ret (results_cell_row rfl _ _ _ _ _ (0, 0) _ rfl HF.out Tryz.underlying117 rfl (by kernel_rfl)) rfl ?_
      exact ⟨by rw [HRR.out]; rfl, HKF.out⟩
    | true =>
      by_cases hw : (0 : Int) < mx
      · have HRR : Hid (R = ⟨tl, td, tn⟩) := by have := HN.out; rw [if_pos (.inl ⟨rfl, rfl⟩)] at this; exact this
        clear HN
        go_enter Tryz.func53, Tryz.ntmps53
        go_wp2_with fail
        have HK1 : Hid (Keep [] w ((w.alloc (.cells #[.int .i64 0, .int .i64 0] 117)).alloc (.cells #[.int .i64 0, .int .i64 0] 117))) := ((Keep.refl _ _).alloc _).alloc _
        have HX1 : Hid (Blk ((w.alloc (.cells #[.int .i64 0, .int .i64 0] 117)).alloc (.cells #[.int .i64 0, .int .i64 0] 117)) w.heap.size #[.int .i64 0, .int .i64 0] 117) := (Blk.new _ _ _).alloc _
        have HR1 : Hid (Blk ((w.alloc (.cells #[.int .i64 0, .int .i64 0] 117)).alloc (.cells #[.int .i64 0, .int .i64 0] 117)) (w.heap.size + 1) #[.int .i64 0, .int .i64 0] 117) := by
          have := Blk.new (w.alloc (.cells #[.int .i64 0, .int .i64 0] 117)) #[.int .i64 0, .int .i64 0] 117
          simp only [World.size_alloc] at this
          exact this
        obtain ⟨g0, hg0⟩ : ∃ g0, w.heap.size = g0 := ⟨_, rfl⟩
        have HG0 := Lib.hid hg0
        rw [hg0] at HX1 HR1 ⊢
        clear hg0
        generalize ((w.alloc (.cells #[.int .i64 0, .int .i64 0] 117)).alloc (.cells #[.int .i64 0, .int .i64 0] 117)) = w2 at HK1 HX1 HR1 ⊢
        have HBL2 := Lib.hid (HBL.out.keep HK1.out (by simp))
        have s5 := HBL2.out.cell 5 _ rfl
        have s3 := HBL2.out.cell 3 _ rfl
        have x0 := HX1.out.cell 0 _ rfl
        have x1 := HX1.out.cell 1 _ rfl
        simp only [List.getElem_toArray, List.getElem_cons_zero, List.getElem_cons_succ] at s5 s3 x0 x1
        go_quiet (fail)
        have HK3 := Lib.hid (HK1.out.drewN nq)
        have HX3 := Lib.hid (HX1.out.drewN nq)
        have HR3 := Lib.hid (HR1.out.drewN nq)
        clear HK1 HX1 HR1 HBL2 s5 s3 x0 x1
        generalize w2.drewN nq = w3 at HK3 HX3 HR3 ⊢
        have x0 := HX3.out.cell 0 _ rfl
        have x1 := HX3.out.cell 1 _ rfl
        have r0 := HR3.out.cell 0 _ rfl
        have r1 := HR3.out.cell 1 _ rfl
        have f0 := HR3.out.free 0
        have f1 := HR3.out.free 1
        simp only [List.getElem_toArray, List.getElem_cons_zero, List.getElem_cons_succ] at x0 x1 r0 r1
        go_wp2_with fail
        refine (HA2.out w3 HK3.out).mono ?_
        rintro e w' ⟨rfl, hk⟩
        have HK4 := Lib.hid (HK3.out.trans hk (by simp))
        have HR4 := Lib.hid (HR3.out.keep hk (by simp))
        clear hk x0 x1 r0 r1 f0 f1
        have r0 := HR4.out.cell 0 _ rfl
        have r1 := HR4.out.cell 1 _ rfl
        have f0 := HR4.out.free 0
        have f1 := HR4.out.free 1
        simp only [List.getElem_toArray, List.getElem_cons_zero, List.getElem_cons_succ] at r0 r1
        have HF : Hid (Blk ((w'.setCell ⟨g0 + 1, 0, none⟩ (.int .i64 td)).setCell ⟨g0 + 1, 1, none⟩ (.int .i64 tn)) (g0 + 1) #[.int .i64 td, .int .i64 tn] 117) := (HR4.out.set 0 (.int .i64 td)).set 1 (.int .i64 tn)
        have HKF : Hid (Keep [] w ((w'.setCell ⟨g0 + 1, 0, none⟩ (.int .i64 td)).setCell ⟨g0 + 1, 1, none⟩ (.int .i64 tn))) := (HK4.out.setCell (.inr (by rw [HG0.out]; exact Nat.le_succ _)) _).setCell (.inr (by rw [HG0.out]; exact Nat.le_succ _)) _
        go_wp2_with fail
        refine bodyPost_ret (results_cell_row rfl _ _ _ _ _ (0, 0) _ rfl HF.out Tryz.underlying117 rfl (by kernel_rfl)) rfl ?_
        exact ⟨by rw [HRR.out]; rfl, HKF.out⟩
      · have HRR : Hid (R = ⟨tl, td, tn⟩) := by have := HN.out; rw [if_pos (.inl ⟨rfl, rfl⟩)] at this; exact this
        have d1 : decide ((0 : Int) < mx) = false := dec_f hw
        clear hw
        clear HN
        go_enter Tryz.func53, Tryz.ntmps53
        go_wp2_with fail
        have HK1 : Hid (Keep [] w ((w.alloc (.cells #[.int .i64 0, .int .i64 0] 117)).alloc (.cells #[.int .i64 0, .int .i64 0] 117))) := ((Keep.refl _ _).alloc _).alloc _
        have HX1 : Hid (Blk ((w.alloc (.cells #[.int .i64 0, .int .i64 0] 117)).alloc (.cells #[.int .i64 0, .int .i64 0] 117)) w.heap.size #[.int .i64 0, .int .i64 0] 117) := (Blk.new _ _ _).alloc _
        have HR1 : Hid (Blk ((w.alloc (.cells #[.int .i64 0, .int .i64 0] 117)).alloc (.cells #[.int .i64 0, .int .i64 0] 117)) (w.heap.size + 1) #[.int .i64 0, .int .i64 0] 117) := by
          have := Blk.new (w.alloc (.cells #[.int .i64 0, .int .i64 0] 117)) #[.int .i64 0, .int .i64 0] 117
          simp only [World.size_alloc] at this
          exact this
        obtain ⟨g0, hg0⟩ : ∃ g0, w.heap.size = g0 := ⟨_, rfl⟩
        have HG0 := Lib.hid hg0
        rw [hg0] at HX1 HR1 ⊢
        clear hg0
        generalize ((w.alloc (.cells #[.int .i64 0, .int .i64 0] 117)).alloc (.cells #[.int .i64 0, .int .i64 0] 117)) = w2 at HK1 HX1 HR1 ⊢
        have HBL2 := Lib.hid (HBL.out.keep HK1.out (by simp))
        have s5 := HBL2.out.cell 5 _ rfl
        have s3 := HBL2.out.cell 3 _ rfl
        have x0 := HX1.out.cell 0 _ rfl
        have x1 := HX1.out.cell 1 _ rfl
        simp only [List.getElem_toArray, List.getElem_cons_zero, List.getElem_cons_succ] at s5 s3 x0 x1
        go_quiet (fail)
        have HK3 := Lib.hid (HK1.out.drewN nq)
        have HX3 := Lib.hid (HX1.out.drewN nq)
        have HR3 := Lib.hid (HR1.out.drewN nq)
        clear HK1 HX1 HR1 HBL2 s5 s3 x0 x1
        generalize w2.drewN nq = w3 at HK3 HX3 HR3 ⊢
        have x0 := HX3.out.cell 0 _ rfl
        have x1 := HX3.out.cell 1 _ rfl
        have r0 := HR3.out.cell 0 _ rfl
        have r1 := HR3.out.cell 1 _ rfl
        have f0 := HR3.out.free 0
        have f1 := HR3.out.free 1
        simp only [List.getElem_toArray, List.getElem_cons_zero, List.getElem_cons_succ] at x0 x1 r0 r1
        go_wp2_with fail
        refine (HA2.out w3 HK3.out).mono ?_
        rintro e w' ⟨rfl, hk⟩
        have HK4 := Lib.hid (HK3.out.trans hk (by simp))
        have HR4 := Lib.hid (HR3.out.keep hk (by simp))
        clear hk x0 x1 r0 r1 f0 f1
        have r0 := HR4.out.cell 0 _ rfl
        have r1 := HR4.out.cell 1 _ rfl
        have f0 := HR4.out.free 0
        have f1 := HR4.out.free 1
        simp only [List.getElem_toArray, List.getElem_cons_zero, List.getElem_cons_succ] at r0 r1
        have HF : Hid (Blk ((w'.setCell ⟨g0 + 1, 0, none⟩ (.int .i64 td)).setCell ⟨g0 + 1, 1, none⟩ (.int .i64 tn)) (g0 + 1) #[.int .i64 td, .int .i64 tn] 117) := (HR4.out.set 0 (.int .i64 td)).set 1 (.int .i64 tn)
        have HKF : Hid (Keep [] w ((w'.setCell ⟨g0 + 1, 0, none⟩ (.int .i64 td)).setCell ⟨g0 + 1, 1, none⟩ (.int .i64 tn))) := (HK4.out.setCell (.inr (by rw [HG0.out]; exact Nat.le_succ _)) _).setCell (.inr (by rw [HG0.out]; exact Nat.le_succ _)) _
        go_wp2_with fail
        refine bodyPost_ret (results_cell_row rfl _ _ _ _ _ (0, 0) _ rfl HF.out Tryz.underlying117 rfl (by kernel_rfl)) rfl ?_
        exact ⟨by rw [HRR.out]; rfl, HKF.out⟩
  · cases lz with
    | false =>
      have HRR : Hid (R = ⟨0, 0, 0⟩) := by have := HN.out; rw [if_neg (fun g => g.elim (fun g => hz g.1) (fun g => nomatch g.1))] at this; exact this
      clear HN
      go_enter Tryz.func53, Tryz.ntmps53
      go_wp2_with fail
      have HK1 : Hid (Keep [] w ((w.alloc (.cells #[.int .i64 d, .int .i64 n] 117)).alloc (.cells #[.int .i64 0, .int .i64 0] 117))) := ((Keep.refl _ _).alloc _).alloc _
      have HX1 : Hid (Blk ((w.alloc (.cells #[.int .i64 d, .int .i64 n] 117)).alloc (.cells #[.int .i64 0, .int .i64 0] 117)) w.heap.size #[.int .i64 d, .int .i64 n] 117) := (Blk.new _ _ _).alloc _
      have HR1 : Hid (Blk ((w.alloc (.cells #[.int .i64 d, .int .i64 n] 117)).alloc (.cells #[.int .i64 0, .int .i64 0] 117)) (w.heap.size + 1) #[.int .i64 0, .int .i64 0] 117) := by
        have := Blk.new (w.alloc (.cells #[.int .i64 d, .int .i64 n] 117)) #[.int .i64 0, .int .i64 0] 117
        simp only [World.size_alloc] at this
        exact this
      obtain ⟨g0, hg0⟩ : ∃ g0, w.heap.size = g0 := ⟨_, rfl⟩
      have HG0 := Lib.hid hg0
      rw [hg0] at HX1 HR1 ⊢
      clear hg0
      generalize ((w.alloc (.cells #[.int .i64 d, .int .i64 n] 117)).alloc (.cells #[.int .i64 0, .int .i64 0] 117)) = w2 at HK1 HX1 HR1 ⊢
      have HBL2 := Lib.hid (HBL.out.keep HK1.out (by simp))
      have s5 := HBL2.out.cell 5 _ rfl
      have s3 := HBL2.out.cell 3 _ rfl
      have x0 := HX1.out.cell 0 _ rfl
      have x1 := HX1.out.cell 1 _ rfl
      simp only [List.getElem_toArray, List.getElem_cons_zero, List.getElem_cons_succ] at s5 s3 x0 x1
      go_quiet (fail)
      have HK3 := Lib.hid (HK1.out.drewN nq)
      have HX3 := Lib.hid (HX1.out.drewN nq)
      have HR3 := Lib.hid (HR1.out.drewN nq)
      clear HK1 HX1 HR1 HBL2 s5 s3 x0 x1
      generalize w2.drewN nq = w3 at HK3 HX3 HR3 ⊢
      have x0 := HX3.out.cell 0 _ rfl
      have x1 := HX3.out.cell 1 _ rfl
      have r0 := HR3.out.cell 0 _ rfl
      have r1 := HR3.out.cell 1 _ rfl
      have f0 := HR3.out.free 0
      have f1 := HR3.out.free 1
      simp only [List.getElem_toArray, List.getElem_cons_zero, List.getElem_cons_succ] at x0 x1 r0 r1
      have HF : Hid (Blk ((w3.setCell ⟨g0 + 1, 0, none⟩ (.int .i64 0)).setCell ⟨g0 + 1, 1, none⟩ (.int .i64 0)) (g0 + 1) #[.int .i64 0, .int .i64 0] 117) := (HR3.out.set 0 (.int .i64 0)).set 1 (.int .i64 0)
      have HKF : Hid (Keep [] w ((w3.setCell ⟨g0 + 1, 0, none⟩ (.int .i64 0)).setCell ⟨g0 + 1, 1, none⟩ (.int .i64 0))) := (HK3.out.setCell (.inr (by rw [HG0.out]; exact Nat.le_succ _)) _).setCell (.inr (by rw [HG0.out]; exact Nat.le_succ _)) _
      go_wp2_with fail
      refine bodyPost_ret (results_cell_row rfl _ _ _ _ _ (0, 0) _ rfl HF.out Tryz.underlying117 rfl (by kernel_rfl)) rfl ?_
      exact ⟨by rw [HRR.out]; rfl, HKF.out⟩
    | true =>
      by_cases hw : n < mx
      · have HRR : Hid (R = ⟨tl, td, tn⟩) := by have := HN.out; rw [if_pos (.inr ⟨rfl, hw⟩)] at this; exact this
        clear HN
        go_enter Tryz.func53, Tryz.ntmps53
        go_wp2_with fail
        have HK1 : Hid (Keep [] w ((w.alloc (.cells #[.int .i64 d, .int .i64 n] 117)).alloc (.cells #[.int .i64 0, .int .i64 0] 117))) := ((Keep.refl _ _).alloc _).alloc _
        have HX1 : Hid (Blk ((w.alloc (.cells #[.int .i64 d, .int .i64 n] 117)).alloc (.cells #[.int .i64 0, .int .i64 0] 117)) w.heap.size #[.int .i64 d, .int .i64 n] 117) := (Blk.new _ _ _).alloc _
        have HR1 : Hid (Blk ((w.alloc (.cells #[.int .i64 d, .int .i64 n] 117)).alloc (.cells #[.int .i64 0, .int .i64 0] 117)) (w.heap.size + 1) #[.int .i64 0, .int .i64 0] 117) := by
          have := Blk.new (w.alloc (.cells #[.int .i64 d, .int .i64 n] 117)) #[.int .i64 0, .int .i64 0] 117
          simp only [World.size_alloc] at this
          exact this
        obtain ⟨g0, hg0⟩ : ∃ g0, w.heap.size = g0 := ⟨_, rfl⟩
        have HG0 := Lib.hid hg0
        rw [hg0] at HX1 HR1 ⊢
        clear hg0
        generalize ((w.alloc (.cells #[.int .i64 d, .int .i64 n] 117)).alloc (.cells #[.int .i64 0, .int .i64 0] 117)) = w2 at HK1 HX1 HR1 ⊢
        have HBL2 := Lib.hid (HBL.out.keep HK1.out (by simp))
        have s5 := HBL2.out.cell 5 _ rfl
        have s3 := HBL2.out.cell 3 _ rfl
        have x0 := HX1.out.cell 0 _ rfl
        have x1 := HX1.out.cell 1 _ rfl
        simp only [List.getElem_toArray, List.getElem_cons_zero, List.getElem_cons_succ] at s5 s3 x0 x1
        go_quiet (fail)
        have HK3 := Lib.hid (HK1.out.drewN nq)
        have HX3 := Lib.hid (HX1.out.drewN nq)
        have HR3 := Lib.hid (HR1.out.drewN nq)
        clear HK1 HX1 HR1 HBL2 s5 s3 x0 x1
        generalize w2.drewN nq = w3 at HK3 HX3 HR3 ⊢
        have x0 := HX3.out.cell 0 _ rfl
        have x1 := HX3.out.cell 1 _ rfl
        have r0 := HR3.out.cell 0 _ rfl
        have r1 := HR3.out.cell 1 _ rfl
        have f0 := HR3.out.free 0
        have f1 := HR3.out.free 1
        simp only [List.getElem_toArray, List.getElem_cons_zero, List.getElem_cons_succ] at x0 x1 r0 r1
        go_wp2_with fail
        refine (HA2.out w3 HK3.out).mono ?_
        rintro e w' ⟨rfl, hk⟩
        have HK4 := Lib.hid (HK3.out.trans hk (by simp))
        have HR4 := Lib.hid (HR3.out.keep hk (by simp))
        clear hk x0 x1 r0 r1 f0 f1
        have r0 := HR4.out.cell 0 _ rfl
        have r1 := HR4.out.cell 1 _ rfl
        have f0 := HR4.out.free 0
        have f1 := HR4.out.free 1
        simp only [List.getElem_toArray, List.getElem_cons_zero, List.getElem_cons_succ] at r0 r1
        have HF : Hid (Blk ((w'.setCell ⟨g0 + 1, 0, none⟩ (.int .i64 td)).setCell ⟨g0 + 1, 1, none⟩ (.int .i64 tn)) (g0 + 1) #[.int .i64 td, .int .i64 tn] 117) := (HR4.out.set 0 (.int .i64 td)).set 1 (.int .i64 tn)
        have HKF : Hid (Keep [] w ((w'.setCell ⟨g0 + 1, 0, none⟩ (.int .i64 td)).setCell ⟨g0 + 1, 1, none⟩ (.int .i64 tn))) := (HK4.out.setCell (.inr (by rw [HG0.out]; exact Nat.le_succ _)) _).setCell (.inr (by rw [HG0.out]; exact Nat.le_succ _)) _
        go_wp2_with fail
        refine bodyPost_ret (results_cell_row rfl _ _ _ _ _ (0, 0) _ rfl HF.out Tryz.underlying117 rfl (by kernel_rfl)) rfl ?_
        exact ⟨by rw [HRR.out]; rfl, HKF.out⟩
      · have HRR : Hid (R = ⟨0, 0, 0⟩) := by have := HN.out; rw [if_neg (fun g => g.elim (fun g => hz g.1) (fun g => hw g.2))] at this; exact this
        have d1 : decide (n < mx) = false := dec_f hw
        clear hw
        clear HN
        go_enter Tryz.func53, Tryz.ntmps53
        go_wp2_with fail
        have HK1 : Hid (Keep [] w ((w.alloc (.cells #[.int .i64 d, .int .i64 n] 117)).alloc (.cells #[.int .i64 0, .int .i64 0] 117))) := ((Keep.refl _ _).alloc _).alloc _
        have HX1 : Hid (Blk ((w.alloc (.cells #[.int .i64 d, .int .i64 n] 117)).alloc (.cells #[.int .i64 0, .int .i64 0] 117)) w.heap.size #[.int .i64 d, .int .i64 n] 117) := (Blk.new _ _ _).alloc _
        have HR1 : Hid (Blk ((w.alloc (.cells #[.int .i64 d, .int .i64 n] 117)).alloc (.cells #[.int .i64 0, .int .i64 0] 117)) (w.heap.size + 1) #[.int .i64 0, .int .i64 0] 117) := by
          have := Blk.new (w.alloc (.cells #[.int .i64 d, .int .i64 n] 117)) #[.int .i64 0, .int .i64 0] 117
          simp only [World.size_alloc] at this
          exact this
        obtain ⟨g0, hg0⟩ : ∃ g0, w.heap.size = g0 := ⟨_, rfl⟩
        have HG0 := Lib.hid hg0
        rw [hg0] at HX1 HR1 ⊢
        clear hg0
        generalize ((w.alloc (.cells #[.int .i64 d, .int .i64 n] 117)).alloc (.cells #[.int .i64 0, .int .i64 0] 117)) = w2 at HK1 HX1 HR1 ⊢
        have HBL2 := Lib.hid (HBL.out.keep HK1.out (by simp))
        have s5 := HBL2.out.cell 5 _ rfl
        have s3 := HBL2.out.cell 3 _ rfl
        have x0 := HX1.out.cell 0 _ rfl
        have x1 := HX1.out.cell 1 _ rfl
        simp only [List.getElem_toArray, List.getElem_cons_zero, List.getElem_cons_succ] at s5 s3 x0 x1
        go_quiet (fail)
        have HK3 := Lib.hid (HK1.out.drewN nq)
        have HX3 := Lib.hid (HX1.out.drewN nq)
        have HR3 := Lib.hid (HR1.out.drewN nq)
        clear HK1 HX1 HR1 HBL2 s5 s3 x0 x1
        generalize w2.drewN nq = w3 at HK3 HX3 HR3 ⊢
        have x0 := HX3.out.cell 0 _ rfl
        have x1 := HX3.out.cell 1 _ rfl
        have r0 := HR3.out.cell 0 _ rfl
        have r1 := HR3.out.cell 1 _ rfl
        have f0 := HR3.out.free 0
        have f1 := HR3.out.free 1
        simp only [List.getElem_toArray, List.getElem_cons_zero, List.getElem_cons_succ] at x0 x1 r0 r1
        have HF : Hid (Blk ((w3.setCell ⟨g0 + 1, 0, none⟩ (.int .i64 0)).setCell ⟨g0 + 1, 1, none⟩ (.int .i64 0)) (g0 + 1) #[.int .i64 0, .int .i64 0] 117) := (HR3.out.set 0 (.int .i64 0)).set 1 (.int .i64 0)
        have HKF : Hid (Keep [] w ((w3.setCell ⟨g0 + 1, 0, none⟩ (.int .i64 0)).setCell ⟨g0 + 1, 1, none⟩ (.int .i64 0))) := (HK3.out.setCell (.inr (by rw [HG0.out]; exact Nat.le_succ _)) _).setCell (.inr (by rw [HG0.out]; exact Nat.le_succ _)) _
        go_wp2_with fail
        refine bodyPost_ret (results_cell_row rfl _ _ _ _ _ (0, 0) _ rfl HF.out Tryz.underlying117 rfl (by kernel_rfl)) rfl ?_
        exact ⟨by rw [HRR.out]; rfl, HKF.out⟩
theorem atT_zeroOr {b : List UInt8} {s : Sh} (hs : s.ok) {i : Nat} (hi : i ≤ b.length) : ((atT b s i).dist = 0 ∧ (atT b s i).len = 0) ∨ (1 ≤ (atT b s i).dist ∧ 2 ≤ (atT b s i).len ∧ (atT b s i).lit = 0) := by
  rcases atT_hit hs hi with h | h
  · rw [h]; exact .inl ⟨rfl, rfl⟩
  · obtain ⟨d, n, h1, h2, h3, h4, h5, h6, _⟩ := h.ex
    obtain ⟨_, _, g3, _⟩ := hs
    exact .inr ⟨by omega, by omega, h.lit⟩
/-- the byte, and what is found behind it -/
theorem step_lit {b : List UInt8} {s : Sh} (hs : s.ok) {i : Nat} (hi : i < b.length) (h : ((atT b s i).dist = 0 ∧ (atT b s i).len = 0) ∨ (atT b s i).len < (nextT b s i (atT b s i).dist (atT b s i).len).len) :
    stepT b s i = ⟨b.getD i 0, 0, 0⟩ ∧ nextT b s i (atT b s i).dist (atT b s i).len = atT b s (i + 1) := by
  by_cases h0 : (atT b s i).dist = 0 ∧ (atT b s i).len = 0
  · exact ⟨by unfold stepT; rw [if_pos (.inl h0.2)], by unfold nextT; rw [if_pos (.inl h0)]⟩
  · rcases h with h | h
    · exact absurd h h0
    · have hz := (atT_zeroOr hs (Nat.le_of_lt hi)).resolve_left h0
      unfold nextT at h ⊢
      by_cases hw : s.lazy = true ∧ (atT b s i).len < s.max
      · rw [if_pos (.inr hw)] at h ⊢
        have h2 := atT_hit hs (show i + 1 ≤ b.length by omega)
        refine ⟨?_, rfl⟩
        unfold stepT
        rw [if_pos]
        right
        refine ⟨hw.1, hw.2, by omega, ?_, h⟩
        rcases h2 with h2 | h2
        · rw [h2] at h; simp only at h; omega
        · obtain ⟨d, n, q1, q2, q3, q4, q5, q6, q7, q8, _⟩ := h2.ex
          obtain ⟨_, _, g3, _⟩ := hs
          omega
      · rw [if_neg (by intro g; rcases g with g | g; exact h0 g; exact hw g)] at h
        simp only at h; omega
/-- the copy -/
theorem step_copy {b : List UInt8} {s : Sh} (hs : s.ok) {i : Nat} (hi : i < b.length) (h : ¬ (((atT b s i).dist = 0 ∧ (atT b s i).len = 0) ∨ (atT b s i).len < (nextT b s i (atT b s i).dist (atT b s i).len).len)) :
    stepT b s i = ⟨0, (atT b s i).dist, (atT b s i).len⟩ := by
  have h0 : ¬ ((atT b s i).dist = 0 ∧ (atT b s i).len = 0) := fun g => h (.inl g)
  have hz := (atT_zeroOr hs (Nat.le_of_lt hi)).resolve_left h0
  have e : stepT b s i = atT b s i := by
    unfold stepT
    rw [if_neg]
    intro g
    rcases g with g | g
    · omega
    · refine h (.inr ?_)
      obtain ⟨q1, q2, _, _, q5⟩ := g
      unfold nextT
      rw [if_pos (.inr ⟨q1, q2⟩)]; exact q5
  rw [e]
  obtain ⟨_, _, h3⟩ := hz
  generalize atT b s i = t at h3 ⊢
  obtain ⟨l, d, n⟩ := t
  simp only at h3
  rw [h3]
end Go.Proofs.YthmojejiaeninaaGreat
