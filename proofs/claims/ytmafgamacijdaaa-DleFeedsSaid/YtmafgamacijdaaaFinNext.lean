/- next over the landed code. -/
import Derived.Test.YtmafgamacijdaaaFinAt2
namespace Go.Proofs.Ytmafgamacijdaaa
set_option linter.unusedVariables false
set_option linter.unusedSimpArgs false
open Go.ChangeShapes Go.WideShapes Go.ChangeAt Go.RowKit

/-- what is found behind i, unless the copy at i is taken -/
def nextT (b : List UInt8) (s : Sh) (i : Nat) (d n : Int) : Tk := if (d = 0 ∧ n = 0) ∨ (s.lazy = true ∧ n < s.max) then atT b s (i + 1) else ⟨0, 0, 0⟩
set_option maxRecDepth 100000 in
set_option maxHeartbeats 4000000 in
theorem next_c (w : World) (q : Nat) (v bv : Value) (b : List UInt8) (s : Sh) (hs : s.ok) (h : Srch w q v bv b s) (i : Nat) (hi : i < b.length) (hb : b.length ≤ 100000) (d n : Int) (hz : (d = 0 ∧ n = 0) ∨ ¬ d = 0) :
    Calls Try.prog 48 #[.pointer (some ⟨q, 0, none⟩), .int .i64 i, .agg #[.int .i64 d, .int .i64 n]] w fun e w' => e = .returned (.agg (nextT b s i d n).fnd) ∧ Keep [] w w' := by
  have HA := Lib.hid (fun (ww : World) (kk : Keep [] w ww) => at_c ww q v bv b s hs (h.keep kk) (i + 1) (by omega) hb)
  have HBL := Lib.hid h.blk
  have HN : Hid (nextT b s i d n = if (d = 0 ∧ n = 0) ∨ (s.lazy = true ∧ n < s.max) then atT b s (i + 1) else ⟨0, 0, 0⟩) := rfl
  clear hs h
  obtain ⟨R, hR⟩ : ∃ R, nextT b s i d n = R := ⟨_, rfl⟩
  obtain ⟨T, hT⟩ : ∃ T, atT b s (i + 1) = T := ⟨_, rfl⟩
  rw [hT] at HA HN
  rw [hR] at HN ⊢
  generalize s.win = win at HBL
  generalize s.min = mn at HBL
  generalize s.chain = ch at HBL
  generalize s.max = mx at HBL HN
  generalize s.lazy = lz at HBL HN
  clear hR hT
  obtain ⟨tl, td, tn⟩ := T
  have HA2 : Hid (∀ ww, Keep [] w ww → Calls Try.prog 47 #[.pointer (some ⟨q, 0, none⟩), .int .i64 ((i : Int) + 1)] ww fun e w' => e = .returned (.agg #[.int .i64 td, .int .i64 tn]) ∧ Keep [] ww w') := HA.out
  clear HA
  rcases hz with hz | hz
  · obtain ⟨rfl, rfl⟩ := hz
    cases lz with
    | false =>
      have HRR : Hid (R = ⟨tl, td, tn⟩) := by have := HN.out; rw [if_pos (.inl ⟨rfl, rfl⟩)] at this; exact this
      clear HN
      go_enter Try.func48, Try.ntmps48
      go_wp2_with fail
      have HK1 : Hid (Keep [] w ((w.alloc (.cells #[.int .i64 0, .int .i64 0] 82)).alloc (.cells #[.int .i64 0, .int .i64 0] 82))) := ((Keep.refl _ _).alloc _).alloc _
      have HX1 : Hid (Blk ((w.alloc (.cells #[.int .i64 0, .int .i64 0] 82)).alloc (.cells #[.int .i64 0, .int .i64 0] 82)) w.heap.size #[.int .i64 0, .int .i64 0] 82) := (Blk.new _ _ _).alloc _
      have HR1 : Hid (Blk ((w.alloc (.cells #[.int .i64 0, .int .i64 0] 82)).alloc (.cells #[.int .i64 0, .int .i64 0] 82)) (w.heap.size + 1) #[.int .i64 0, .int .i64 0] 82) := by
        have := Blk.new (w.alloc (.cells #[.int .i64 0, .int .i64 0] 82)) #[.int .i64 0, .int .i64 0] 82
        simp only [World.size_alloc] at this
        exact this
      obtain ⟨g0, hg0⟩ : ∃ g0, w.heap.size = g0 := ⟨_, rfl⟩
      have HG0 := Lib.hid hg0
      rw [hg0] at HX1 HR1 ⊢
      clear hg0
      generalize ((w.alloc (.cells #[.int .i64 0, .int .i64 0] 82)).alloc (.cells #[.int .i64 0, .int .i64 0] 82)) = w2 at HK1 HX1 HR1 ⊢
      have HBL2 := Lib.hid (HBL.out.keep HK1.out (by simp))
      have s5 := HBL2.out.cell 5 _ rfl
      have s3 := HBL2.out.cell 3 _ rfl
      have x0 := HX1.out.cell 0 _ rfl
      have x1 := HX1.out.cell 1 _ rfl
      simp only [List.getElem_toArray, List.getElem_cons_zero, List.getElem_cons_succ] at s5 s3 x0 x1
      go_quiet (fail)
      have HK3 := Lib.hid (HK1.out.drewN nq)
      have HX3 := Lib.hid (HX1.out.drewN nq)
      have HR3 := Lib.hid (HR1.out.drewN nq)
      clear HK1 HX1 HR1 HBL2 s5 s3 x0 x1
      generalize w2.drewN nq = w3 at HK3 HX3 HR3 ⊢
      have x0 := HX3.out.cell 0 _ rfl
      have x1 := HX3.out.cell 1 _ rfl
      have r0 := HR3.out.cell 0 _ rfl
      have r1 := HR3.out.cell 1 _ rfl
      have f0 := HR3.out.free 0
      have f1 := HR3.out.free 1
      simp only [List.getElem_toArray, List.getElem_cons_zero, List.getElem_cons_succ] at x0 x1 r0 r1
      go_wp2_with fail
      refine (HA2.out w3 HK3.out).mono ?_
      rintro e w' ⟨rfl, hk⟩
      have HK4 := Lib.hid (HK3.out.trans hk (by simp))
      have HR4 := Lib.hid (HR3.out.keep hk (by simp))
      clear hk x0 x1 r0 r1 f0 f1
      have r0 := HR4.out.cell 0 _ rfl
      have r1 := HR4.out.cell 1 _ rfl
      have f0 := HR4.out.free 0
      have f1 := HR4.out.free 1
      simp only [List.getElem_toArray, List.getElem_cons_zero, List.getElem_cons_succ] at r0 r1
      have HF : Hid (Blk ((w'.setCell ⟨g0 + 1, 0, none⟩ (.int .i64 td)).setCell ⟨g0 + 1, 1, none⟩ (.int .i64 tn)) (g0 + 1) #[.int .i64 td, .int .i64 tn] 82) := (HR4.out.set 0 (.int .i64 td)).set 1 (.int .i64 tn)
      have HKF : Hid (Keep [] w ((w'.setCell ⟨g0 + 1, 0, none⟩ (.int .i64 td)).setCell ⟨g0 + 1, 1, none⟩ (.int .i64 tn))) := (HK4.out.setCell (.inr (by rw [HG0.out]; exact Nat.le_succ _)) _).setCell (.inr (by rw [HG0.out]; exact Nat.le_succ _)) _
      go_wp2_with fail
      refine bodyPost_ret (results_cell_row rfl _ _ _ _ _ (0, 0) _ rfl HF.out Try.underlying82 rfl (by kernel_rfl)) rfl ?_
      exact ⟨by rw [HRR.out]; rfl, HKF.out⟩
    | true =>
      by_cases hw : (0 : Int) < mx
      · have HRR : Hid (R = ⟨tl, td, tn⟩) := by have := HN.out; rw [if_pos (.inl ⟨rfl, rfl⟩)] at this; exact this
        clear HN
        go_enter Try.func48, Try.ntmps48
        go_wp2_with fail
        have HK1 : Hid (Keep [] w ((w.alloc (.cells #[.int .i64 0, .int .i64 0] 82)).alloc (.cells #[.int .i64 0, .int .i64 0] 82))) := ((Keep.refl _ _).alloc _).alloc _
        have HX1 : Hid (Blk ((w.alloc (.cells #[.int .i64 0, .int .i64 0] 82)).alloc (.cells #[.int .i64 0, .int .i64 0] 82)) w.heap.size #[.int .i64 0, .int .i64 0] 82) := (Blk.new _ _ _).alloc _
        have HR1 : Hid (Blk ((w.alloc (.cells #[.int .i64 0, .int .i64 0] 82)).alloc (.cells #[.int .i64 0, .int .i64 0] 82)) (w.heap.size + 1) #[.int .i64 0, .int .i64 0] 82) := by
          have := Blk.new (w.alloc (.cells #[.int .i64 0, .int .i64 0] 82)) #[.int .i64 0, .int .i64 0] 82
          simp only [World.size_alloc] at this
          exact this
        obtain ⟨g0, hg0⟩ : ∃ g0, w.heap.size = g0 := ⟨_, rfl⟩
        have HG0 := Lib.hid hg0
        rw [hg0] at HX1 HR1 ⊢
        clear hg0
        generalize ((w.alloc (.cells #[.int .i64 0, .int .i64 0] 82)).alloc (.cells #[.int .i64 0, .int .i64 0] 82)) = w2 at HK1 HX1 HR1 ⊢
        have HBL2 := Lib.hid (HBL.out.keep HK1.out (by simp))
        have s5 := HBL2.out.cell 5 _ rfl
        have s3 := HBL2.out.cell 3 _ rfl
        have x0 := HX1.out.cell 0 _ rfl
        have x1 := HX1.out.cell 1 _ rfl
        simp only [List.getElem_toArray, List.getElem_cons_zero, List.getElem_cons_succ] at s5 s3 x0 x1
        go_quiet (fail)
        have HK3 := Lib.hid (HK1.out.drewN nq)
        have HX3 := Lib.hid (HX1.out.drewN nq)
        have HR3 := Lib.hid (HR1.out.drewN nq)
        clear HK1 HX1 HR1 HBL2 s5 s3 x0 x1
        generalize w2.drewN nq = w3 at HK3 HX3 HR3 ⊢
        have x0 := HX3.out.cell 0 _ rfl
        have x1 := HX3.out.cell 1 _ rfl
        have r0 := HR3.out.cell 0 _ rfl
        have r1 := HR3.out.cell 1 _ rfl
        have f0 := HR3.out.free 0
        have f1 := HR3.out.free 1
        simp only [List.getElem_toArray, List.getElem_cons_zero, List.getElem_cons_succ] at x0 x1 r0 r1
        go_wp2_with fail
        refine (HA2.out w3 HK3.out).mono ?_
        rintro e w' ⟨rfl, hk⟩
        have HK4 := Lib.hid (HK3.out.trans hk (by simp))
        have HR4 := Lib.hid (HR3.out.keep hk (by simp))
        clear hk x0 x1 r0 r1 f0 f1
        have r0 := HR4.out.cell 0 _ rfl
        have r1 := HR4.out.cell 1 _ rfl
        have f0 := HR4.out.free 0
        have f1 := HR4.out.free 1
        simp only [List.getElem_toArray, List.getElem_cons_zero, List.getElem_cons_succ] at r0 r1
        have HF : Hid (Blk ((w'.setCell ⟨g0 + 1, 0, none⟩ (.int .i64 td)).setCell ⟨g0 + 1, 1, none⟩ (.int .i64 tn)) (g0 + 1) #[.int .i64 td, .int .i64 tn] 82) := (HR4.out.set 0 (.int .i64 td)).set 1 (.int .i64 tn)
        have HKF : Hid (Keep [] w ((w'.setCell ⟨g0 + 1, 0, none⟩ (.int .i64 td)).setCell ⟨g0 + 1, 1, none⟩ (.int .i64 tn))) := (HK4.out.setCell (.inr (by rw [HG0.out]; exact Nat.le_succ _)) _).setCell (.inr (by rw [HG0.out]; exact Nat.le_succ _)) _
        go_wp2_with fail
        refine bodyPost_ret (results_cell_row rfl _ _ _ _ _ (0, 0) _ rfl HF.out Try.underlying82 rfl (by kernel_rfl)) rfl ?_
        exact ⟨by rw [HRR.out]; rfl, HKF.out⟩
      · have HRR : Hid (R = ⟨tl, td, tn⟩) := by have := HN.out; rw [if_pos (.inl ⟨rfl, rfl⟩)] at this; exact this
        have d1 : decide ((0 : Int) < mx) = false := dec_f hw
        clear hw
        clear HN
        go_enter Try.func48, Try.ntmps48
        go_wp2_with fail
        have HK1 : Hid (Keep [] w ((w.alloc (.cells #[.int .i64 0, .int .i64 0] 82)).alloc (.cells #[.int .i64 0, .int .i64 0] 82))) := ((Keep.refl _ _).alloc _).alloc _
        have HX1 : Hid (Blk ((w.alloc (.cells #[.int .i64 0, .int .i64 0] 82)).alloc (.cells #[.int .i64 0, .int .i64 0] 82)) w.heap.size #[.int .i64 0, .int .i64 0] 82) := (Blk.new _ _ _).alloc _
        have HR1 : Hid (Blk ((w.alloc (.cells #[.int .i64 0, .int .i64 0] 82)).alloc (.cells #[.int .i64 0, .int .i64 0] 82)) (w.heap.size + 1) #[.int .i64 0, .int .i64 0] 82) := by
          have := Blk.new (w.alloc (.cells #[.int .i64 0, .int .i64 0] 82)) #[.int .i64 0, .int .i64 0] 82
          simp only [World.size_alloc] at this
          exact this
        obtain ⟨g0, hg0⟩ : ∃ g0, w.heap.size = g0 := ⟨_, rfl⟩
        have HG0 := Lib.hid hg0
        rw [hg0] at HX1 HR1 ⊢
        clear hg0
        generalize ((w.alloc (.cells #[.int .i64 0, .int .i64 0] 82)).alloc (.cells #[.int .i64 0, .int .i64 0] 82)) = w2 at HK1 HX1 HR1 ⊢
        have HBL2 := Lib.hid (HBL.out.keep HK1.out (by simp))
        have s5 := HBL2.out.cell 5 _ rfl
        have s3 := HBL2.out.cell 3 _ rfl
        have x0 := HX1.out.cell 0 _ rfl
        have x1 := HX1.out.cell 1 _ rfl
        simp only [List.getElem_toArray, List.getElem_cons_zero, List.getElem_cons_succ] at s5 s3 x0 x1
        go_quiet (fail)
        have HK3 := Lib.hid (HK1.out.drewN nq)
        have HX3 := Lib.hid (HX1.out.drewN nq)
        have HR3 := Lib.hid (HR1.out.drewN nq)
        clear HK1 HX1 HR1 HBL2 s5 s3 x0 x1
        generalize w2.drewN nq = w3 at HK3 HX3 HR3 ⊢
        have x0 := HX3.out.cell 0 _ rfl
        have x1 := HX3.out.cell 1 _ rfl
        have r0 := HR3.out.cell 0 _ rfl
        have r1 := HR3.out.cell 1 _ rfl
        have f0 := HR3.out.free 0
        have f1 := HR3.out.free 1
        simp only [List.getElem_toArray, List.getElem_cons_zero, List.getElem_cons_succ] at x0 x1 r0 r1
        go_wp2_with fail
        refine (HA2.out w3 HK3.out).mono ?_
        rintro e w' ⟨rfl, hk⟩
        have HK4 := Lib.hid (HK3.out.trans hk (by simp))
        have HR4 := Lib.hid (HR3.out.keep hk (by simp))
        clear hk x0 x1 r0 r1 f0 f1
        have r0 := HR4.out.cell 0 _ rfl
        have r1 := HR4.out.cell 1 _ rfl
        have f0 := HR4.out.free 0
        have f1 := HR4.out.free 1
        simp only [List.getElem_toArray, List.getElem_cons_zero, List.getElem_cons_succ] at r0 r1
        have HF : Hid (Blk ((w'.setCell ⟨g0 + 1, 0, none⟩ (.int .i64 td)).setCell ⟨g0 + 1, 1, none⟩ (.int .i64 tn)) (g0 + 1) #[.int .i64 td, .int .i64 tn] 82) := (HR4.out.set 0 (.int .i64 td)).set 1 (.int .i64 tn)
        have HKF : Hid (Keep [] w ((w'.setCell ⟨g0 + 1, 0, none⟩ (.int .i64 td)).setCell ⟨g0 + 1, 1, none⟩ (.int .i64 tn))) := (HK4.out.setCell (.inr (by rw [HG0.out]; exact Nat.le_succ _)) _).setCell (.inr (by rw [HG0.out]; exact Nat.le_succ _)) _
        go_wp2_with fail
        refine bodyPost_ret (results_cell_row rfl _ _ _ _ _ (0, 0) _ rfl HF.out Try.underlying82 rfl (by kernel_rfl)) rfl ?_
        exact ⟨by rw [HRR.out]; rfl, HKF.out⟩
  · cases lz with
    | false =>
      have HRR : Hid (R = ⟨0, 0, 0⟩) := by have := HN.out; rw [if_neg (fun g => g.elim (fun g => hz g.1) (fun g => nomatch g.1))] at this; exact this
      clear HN
      go_enter Try.func48, Try.ntmps48
      go_wp2_with fail
      have HK1 : Hid (Keep [] w ((w.alloc (.cells #[.int .i64 d, .int .i64 n] 82)).alloc (.cells #[.int .i64 0, .int .i64 0] 82))) := ((Keep.refl _ _).alloc _).alloc _
      have HX1 : Hid (Blk ((w.alloc (.cells #[.int .i64 d, .int .i64 n] 82)).alloc (.cells #[.int .i64 0, .int .i64 0] 82)) w.heap.size #[.int .i64 d, .int .i64 n] 82) := (Blk.new _ _ _).alloc _
      have HR1 : Hid (Blk ((w.alloc (.cells #[.int .i64 d, .int .i64 n] 82)).alloc (.cells #[.int .i64 0, .int .i64 0] 82)) (w.heap.size + 1) #[.int .i64 0, .int .i64 0] 82) := by
        have := Blk.new (w.alloc (.cells #[.int .i64 d, .int .i64 n] 82)) #[.int .i64 0, .int .i64 0] 82
        simp only [World.size_alloc] at this
        exact this
      obtain ⟨g0, hg0⟩ : ∃ g0, w.heap.size = g0 := ⟨_, rfl⟩
      have HG0 := Lib.hid hg0
      rw [hg0] at HX1 HR1 ⊢
      clear hg0
      generalize ((w.alloc (.cells #[.int .i64 d, .int .i64 n] 82)).alloc (.cells #[.int .i64 0, .int .i64 0] 82)) = w2 at HK1 HX1 HR1 ⊢
      have HBL2 := Lib.hid (HBL.out.keep HK1.out (by simp))
      have s5 := HBL2.out.cell 5 _ rfl
      have s3 := HBL2.out.cell 3 _ rfl
      have x0 := HX1.out.cell 0 _ rfl
      have x1 := HX1.out.cell 1 _ rfl
      simp only [List.getElem_toArray, List.getElem_cons_zero, List.getElem_cons_succ] at s5 s3 x0 x1
      go_quiet (fail)
      have HK3 := Lib.hid (HK1.out.drewN nq)
      have HX3 := Lib.hid (HX1.out.drewN nq)
      have HR3 := Lib.hid (HR1.out.drewN nq)
      clear HK1 HX1 HR1 HBL2 s5 s3 x0 x1
      generalize w2.drewN nq = w3 at HK3 HX3 HR3 ⊢
      have x0 := HX3.out.cell 0 _ rfl
      have x1 := HX3.out.cell 1 _ rfl
      have r0 := HR3.out.cell 0 _ rfl
      have r1 := HR3.out.cell 1 _ rfl
      have f0 := HR3.out.free 0
      have f1 := HR3.out.free 1
      simp only [List.getElem_toArray, List.getElem_cons_zero, List.getElem_cons_succ] at x0 x1 r0 r1
      have HF : Hid (Blk ((w3.setCell ⟨g0 + 1, 0, none⟩ (.int .i64 0)).setCell ⟨g0 + 1, 1, none⟩ (.int .i64 0)) (g0 + 1) #[.int .i64 0, .int .i64 0] 82) := (HR3.out.set 0 (.int .i64 0)).set 1 (.int .i64 0)
      have HKF : Hid (Keep [] w ((w3.setCell ⟨g0 + 1, 0, none⟩ (.int .i64 0)).setCell ⟨g0 + 1, 1, none⟩ (.int .i64 0))) := (HK3.out.setCell (.inr (by rw [HG0.out]; exact Nat.le_succ _)) _).setCell (.inr (by rw [HG0.out]; exact Nat.le_succ _)) _
      go_wp2_with fail
      refine bodyPost_ret (results_cell_row rfl _ _ _ _ _ (0, 0) _ rfl HF.out Try.underlying82 rfl (by kernel_rfl)) rfl ?_
      exact ⟨by rw [HRR.out]; rfl, HKF.out⟩
    | true =>
      by_cases hw : n < mx
      · have HRR : Hid (R = ⟨tl, td, tn⟩) := by have := HN.out; rw [if_pos (.inr ⟨rfl, hw⟩)] at this; exact this
        clear HN
        go_enter Try.func48, Try.ntmps48
        go_wp2_with fail
        have HK1 : Hid (Keep [] w ((w.alloc (.cells #[.int .i64 d, .int .i64 n] 82)).alloc (.cells #[.int .i64 0, .int .i64 0] 82))) := ((Keep.refl _ _).alloc _).alloc _
        have HX1 : Hid (Blk ((w.alloc (.cells #[.int .i64 d, .int .i64 n] 82)).alloc (.cells #[.int .i64 0, .int .i64 0] 82)) w.heap.size #[.int .i64 d, .int .i64 n] 82) := (Blk.new _ _ _).alloc _
        have HR1 : Hid (Blk ((w.alloc (.cells #[.int .i64 d, .int .i64 n] 82)).alloc (.cells #[.int .i64 0, .int .i64 0] 82)) (w.heap.size + 1) #[.int .i64 0, .int .i64 0] 82) := by
          have := Blk.new (w.alloc (.cells #[.int .i64 d, .int .i64 n] 82)) #[.int .i64 0, .int .i64 0] 82
          simp only [World.size_alloc] at this
          exact this
        obtain ⟨g0, hg0⟩ : ∃ g0, w.heap.size = g0 := ⟨_, rfl⟩
        have HG0 := Lib.hid hg0
        rw [hg0] at HX1 HR1 ⊢
        clear hg0
        generalize ((w.alloc (.cells #[.int .i64 d, .int .i64 n] 82)).alloc (.cells #[.int .i64 0, .int .i64 0] 82)) = w2 at HK1 HX1 HR1 ⊢
        have HBL2 := Lib.hid (HBL.out.keep HK1.out (by simp))
        have s5 := HBL2.out.cell 5 _ rfl
        have s3 := HBL2.out.cell 3 _ rfl
        have x0 := HX1.out.cell 0 _ rfl
        have x1 := HX1.out.cell 1 _ rfl
        simp only [List.getElem_toArray, List.getElem_cons_zero, List.getElem_cons_succ] at s5 s3 x0 x1
        go_quiet (fail)
        have HK3 := Lib.hid (HK1.out.drewN nq)
        have HX3 := Lib.hid (HX1.out.drewN nq)
        have HR3 := Lib.hid (HR1.out.drewN nq)
        clear HK1 HX1 HR1 HBL2 s5 s3 x0 x1
        generalize w2.drewN nq = w3 at HK3 HX3 HR3 ⊢
        have x0 := HX3.out.cell 0 _ rfl
        have x1 := HX3.out.cell 1 _ rfl
        have r0 := HR3.out.cell 0 _ rfl
        have r1 := HR3.out.cell 1 _ rfl
        have f0 := HR3.out.free 0
        have f1 := HR3.out.free 1
        simp only [List.getElem_toArray, List.getElem_cons_zero, List.getElem_cons_succ] at x0 x1 r0 r1
        go_wp2_with fail
        refine (HA2.out w3 HK3.out).mono ?_
        rintro e w' ⟨rfl, hk⟩
        have HK4 := Lib.hid (HK3.out.trans hk (by simp))
        have HR4 := Lib.hid (HR3.out.keep hk (by simp))
        clear hk x0 x1 r0 r1 f0 f1
        have r0 := HR4.out.cell 0 _ rfl
        have r1 := HR4.out.cell 1 _ rfl
        have f0 := HR4.out.free 0
        have f1 := HR4.out.free 1
        simp only [List.getElem_toArray, List.getElem_cons_zero, List.getElem_cons_succ] at r0 r1
        have HF : Hid (Blk ((w'.setCell ⟨g0 + 1, 0, none⟩ (.int .i64 td)).setCell ⟨g0 + 1, 1, none⟩ (.int .i64 tn)) (g0 + 1) #[.int .i64 td, .int .i64 tn] 82) := (HR4.out.set 0 (.int .i64 td)).set 1 (.int .i64 tn)
        have HKF : Hid (Keep [] w ((w'.setCell ⟨g0 + 1, 0, none⟩ (.int .i64 td)).setCell ⟨g0 + 1, 1, none⟩ (.int .i64 tn))) := (HK4.out.setCell (.inr (by rw [HG0.out]; exact Nat.le_succ _)) _).setCell (.inr (by rw [HG0.out]; exact Nat.le_succ _)) _
        go_wp2_with fail
        refine bodyPost_ret (results_cell_row rfl _ _ _ _ _ (0, 0) _ rfl HF.out Try.underlying82 rfl (by kernel_rfl)) rfl ?_
        exact ⟨by rw [HRR.out]; rfl, HKF.out⟩
      · have HRR : Hid (R = ⟨0, 0, 0⟩) := by have := HN.out; rw [if_neg (fun g => g.elim (fun g => hz g.1) (fun g => hw g.2))] at this; exact this
        have d1 : decide (n < mx) = false := dec_f hw
        clear hw
        clear HN
        go_enter Try.func48, Try.ntmps48
        go_wp2_with fail
        have HK1 : Hid (Keep [] w ((w.alloc (.cells #[.int .i64 d, .int .i64 n] 82)).alloc (.cells #[.int .i64 0, .int .i64 0] 82))) := ((Keep.refl _ _).alloc _).alloc _
        have HX1 : Hid (Blk ((w.alloc (.cells #[.int .i64 d, .int .i64 n] 82)).alloc (.cells #[.int .i64 0, .int .i64 0] 82)) w.heap.size #[.int .i64 d, .int .i64 n] 82) := (Blk.new _ _ _).alloc _
        have HR1 : Hid (Blk ((w.alloc (.cells #[.int .i64 d, .int .i64 n] 82)).alloc (.cells #[.int .i64 0, .int .i64 0] 82)) (w.heap.size + 1) #[.int .i64 0, .int .i64 0] 82) := by
          have := Blk.new (w.alloc (.cells #[.int .i64 d, .int .i64 n] 82)) #[.int .i64 0, .int .i64 0] 82
          simp only [World.size_alloc] at this
          exact this
        obtain ⟨g0, hg0⟩ : ∃ g0, w.heap.size = g0 := ⟨_, rfl⟩
        have HG0 := Lib.hid hg0
        rw [hg0] at HX1 HR1 ⊢
        clear hg0
        generalize ((w.alloc (.cells #[.int .i64 d, .int .i64 n] 82)).alloc (.cells #[.int .i64 0, .int .i64 0] 82)) = w2 at HK1 HX1 HR1 ⊢
        have HBL2 := Lib.hid (HBL.out.keep HK1.out (by simp))
        have s5 := HBL2.out.cell 5 _ rfl
        have s3 := HBL2.out.cell 3 _ rfl
        have x0 := HX1.out.cell 0 _ rfl
        have x1 := HX1.out.cell 1 _ rfl
        simp only [List.getElem_toArray, List.getElem_cons_zero, List.getElem_cons_succ] at s5 s3 x0 x1
        go_quiet (fail)
        have HK3 := Lib.hid (HK1.out.drewN nq)
        have HX3 := Lib.hid (HX1.out.drewN nq)
        have HR3 := Lib.hid (HR1.out.drewN nq)
        clear HK1 HX1 HR1 HBL2 s5 s3 x0 x1
        generalize w2.drewN nq = w3 at HK3 HX3 HR3 ⊢
        have x0 := HX3.out.cell 0 _ rfl
        have x1 := HX3.out.cell 1 _ rfl
        have r0 := HR3.out.cell 0 _ rfl
        have r1 := HR3.out.cell 1 _ rfl
        have f0 := HR3.out.free 0
        have f1 := HR3.out.free 1
        simp only [List.getElem_toArray, List.getElem_cons_zero, List.getElem_cons_succ] at x0 x1 r0 r1
        have HF : Hid (Blk ((w3.setCell ⟨g0 + 1, 0, none⟩ (.int .i64 0)).setCell ⟨g0 + 1, 1, none⟩ (.int .i64 0)) (g0 + 1) #[.int .i64 0, .int .i64 0] 82) := (HR3.out.set 0 (.int .i64 0)).set 1 (.int .i64 0)
        have HKF : Hid (Keep [] w ((w3.setCell ⟨g0 + 1, 0, none⟩ (.int .i64 0)).setCell ⟨g0 + 1, 1, none⟩ (.int .i64 0))) := (HK3.out.setCell (.inr (by rw [HG0.out]; exact Nat.le_succ _)) _).setCell (.inr (by rw [HG0.out]; exact Nat.le_succ _)) _
        go_wp2_with fail
        refine bodyPost_ret (results_cell_row rfl _ _ _ _ _ (0, 0) _ rfl HF.out Try.underlying82 rfl (by kernel_rfl)) rfl ?_
        exact ⟨by rw [HRR.out]; rfl, HKF.out⟩
theorem atT_zeroOr {b : List UInt8} {s : Sh} (hs : s.ok) {i : Nat} (hi : i ≤ b.length) : ((atT b s i).dist = 0 ∧ (atT b s i).len = 0) ∨ (1 ≤ (atT b s i).dist ∧ 2 ≤ (atT b s i).len ∧ (atT b s i).lit = 0) := by
  rcases atT_hit hs hi with h | h
  · rw [h]; exact .inl ⟨rfl, rfl⟩
  · obtain ⟨d, n, h1, h2, h3, h4, h5, h6, _⟩ := h.ex
    obtain ⟨_, _, g3, _⟩ := hs
    exact .inr ⟨by omega, by omega, h.lit⟩
/-- the byte, and what is found behind it -/
theorem step_lit {b : List UInt8} {s : Sh} (hs : s.ok) {i : Nat} (hi : i < b.length) (h : ((atT b s i).dist = 0 ∧ (atT b s i).len = 0) ∨ (atT b s i).len < (nextT b s i (atT b s i).dist (atT b s i).len).len) :
    stepT b s i = ⟨b.getD i 0, 0, 0⟩ ∧ nextT b s i (atT b s i).dist (atT b s i).len = atT b s (i + 1) := by
  by_cases h0 : (atT b s i).dist = 0 ∧ (atT b s i).len = 0
  · exact ⟨by unfold stepT; rw [if_pos (.inl h0.2)], by unfold nextT; rw [if_pos (.inl h0)]⟩
  · rcases h with h | h
    · exact absurd h h0
    · have hz := (atT_zeroOr hs (Nat.le_of_lt hi)).resolve_left h0
      unfold nextT at h ⊢
      by_cases hw : s.lazy = true ∧ (atT b s i).len < s.max
      · rw [if_pos (.inr hw)] at h ⊢
        have h2 := atT_hit hs (show i + 1 ≤ b.length by omega)
        refine ⟨?_, rfl⟩
        unfold stepT
        rw [if_pos]
        right
        refine ⟨hw.1, hw.2, by omega, ?_, h⟩
        rcases h2 with h2 | h2
        · rw [h2] at h; simp only at h; omega
        · obtain ⟨d, n, q1, q2, q3, q4, q5, q6, q7, q8, _⟩ := h2.ex
          obtain ⟨_, _, g3, _⟩ := hs
          omega
      · rw [if_neg (by intro g; rcases g with g | g; exact h0 g; exact hw g)] at h
        simp only at h; omega
/-- the copy -/
theorem step_copy {b : List UInt8} {s : Sh} (hs : s.ok) {i : Nat} (hi : i < b.length) (h : ¬ (((atT b s i).dist = 0 ∧ (atT b s i).len = 0) ∨ (atT b s i).len < (nextT b s i (atT b s i).dist (atT b s i).len).len)) :
    stepT b s i = ⟨0, (atT b s i).dist, (atT b s i).len⟩ := by
  have h0 : ¬ ((atT b s i).dist = 0 ∧ (atT b s i).len = 0) := fun g => h (.inl g)
  have hz := (atT_zeroOr hs (Nat.le_of_lt hi)).resolve_left h0
  have e : stepT b s i = atT b s i := by
    unfold stepT
    rw [if_neg]
    intro g
    rcases g with g | g
    · omega
    · refine h (.inr ?_)
      obtain ⟨q1, q2, _, _, q5⟩ := g
      unfold nextT
      rw [if_pos (.inr ⟨q1, q2⟩)]; exact q5
  rw [e]
  obtain ⟨_, _, h3⟩ := hz
  generalize atT b s i = t at h3 ⊢
  obtain ⟨l, d, n⟩ := t
  simp only at h3
  rw [h3]
end Go.Proofs.Ytmafgamacijdaaa
