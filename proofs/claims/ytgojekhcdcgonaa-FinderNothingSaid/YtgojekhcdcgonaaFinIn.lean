/- The law's own within of layer 9: a shape that is right. -/
import Derived.Test.YtgojekhcdcgonaaRefFin3
import Derived.Test.YtgojekhcdcgonaaQuietTail
import Derived.Test.YtgojekhcdcgonaaWithin
import Derived.Deep.RegionWith
namespace Go.Proofs.Ytgojekhcdcgonaa
set_option linter.unusedVariables false
set_option linter.unusedSimpArgs false
open Go.ChangeShapes Go.WideShapes Go.ChangeAt Go.RowKit

def inS (s : Sh) : Sh := ⟨Max.max 1 (Min.min s.win 65536), Max.max 2 (Min.min s.min 3), Max.max (Max.max 2 (Min.min s.min 3)) (Min.min s.max 65538), Max.max 0 (Min.min s.chain 4096), s.lazy⟩
theorem inS_ok (s : Sh) : (inS s).ok := by unfold Sh.ok inS; dsimp only; omega
set_option maxRecDepth 100000 in
set_option maxHeartbeats 4000000 in
theorem within9_c (w : World) (s : Sh) : Calls Try.prog 16 #[s.val] w fun e w' => e = .returned (inS s).val ∧ Keep [] w w' := by
  obtain ⟨win, mn, mx, ch, lz⟩ := s
  show Calls Try.prog 16 #[.agg #[.int .i64 win, .int .i64 mn, .int .i64 mx, .int .i64 ch, .bool lz]] w _
  have hB0 := (Blk.new w #[.int .i64 win, .int .i64 mn, .int .i64 mx, .int .i64 ch, .bool lz] 24)
  have K0 := (Keep.refl [] w).alloc (.cells #[.int .i64 win, .int .i64 mn, .int .i64 mx, .int .i64 ch, .bool lz] 24)
  have HI : Hid ((inS ⟨win, mn, mx, ch, lz⟩).val = .agg #[.int .i64 (Max.max 1 (Min.min win 65536)), .int .i64 (Max.max 2 (Min.min mn 3)), .int .i64 (Max.max (Max.max 2 (Min.min mn 3)) (Min.min mx 65538)), .int .i64 (Max.max 0 (Min.min ch 4096)), .bool lz]) := rfl
  have hm1 : Max.max 2 (Min.min mn 3) ≤ 65538 := by omega
  have W1 : ∀ w, Calls Try.prog 20 #[.int .i64 win, .int .i64 1, .int .i64 65536] w fun e w' => e = .returned (.int .i64 (Max.max 1 (Min.min win 65536))) ∧ w = w' := fun w => within_c win 1 65536 w (by omega)
  have W2 : ∀ w, Calls Try.prog 20 #[.int .i64 mn, .int .i64 2, .int .i64 3] w fun e w' => e = .returned (.int .i64 (Max.max 2 (Min.min mn 3))) ∧ w = w' := fun w => within_c mn 2 3 w (by omega)
  have W3 : ∀ w, Calls Try.prog 20 #[.int .i64 mx, .int .i64 (Max.max 2 (Min.min mn 3)), .int .i64 65538] w fun e w' => e = .returned (.int .i64 (Max.max (Max.max 2 (Min.min mn 3)) (Min.min mx 65538))) ∧ w = w' := fun w => within_c mx _ 65538 w hm1
  have W4 : ∀ w, Calls Try.prog 20 #[.int .i64 ch, .int .i64 0, .int .i64 4096] w fun e w' => e = .returned (.int .i64 (Max.max 0 (Min.min ch 4096))) ∧ w = w' := fun w => within_c ch 0 4096 w (by omega)
  generalize Max.max (Max.max 2 (Min.min mn 3)) (Min.min mx 65538) = x3 at HI W3
  generalize Max.max 1 (Min.min win 65536) = x1 at HI W1
  generalize Max.max 2 (Min.min mn 3) = x2 at HI W2 W3 hm1
  generalize Max.max 0 (Min.min ch 4096) = x4 at HI W4
  have V1 := Lib.hid W1
  have V2 := Lib.hid W2
  have V3 := Lib.hid W3
  have V4 := Lib.hid W4
  clear W1 W2 W3 W4 hm1
  go_enter Try.func16, Try.ntmps16
  go_upto_region 1 with fail
  have hA := hB0.alloc (.cells #[.int .i64 0, .int .i64 0, .int .i64 0, .int .i64 0, .bool false] 24)
  have hR : Blk ((w.alloc (.cells #[.int .i64 win, .int .i64 mn, .int .i64 mx, .int .i64 ch, .bool lz] 24)).alloc (.cells #[.int .i64 0, .int .i64 0, .int .i64 0, .int .i64 0, .bool false] 24)) (w.heap.size + 1) #[.int .i64 0, .int .i64 0, .int .i64 0, .int .i64 0, .bool false] 24 := by
    have := Blk.new (w.alloc (.cells #[.int .i64 win, .int .i64 mn, .int .i64 mx, .int .i64 ch, .bool lz] 24)) #[.int .i64 0, .int .i64 0, .int .i64 0, .int .i64 0, .bool false] 24
    rw [World.size_alloc] at this
    exact this
  have K1 := K0.alloc (.cells #[.int .i64 0, .int .i64 0, .int .i64 0, .int .i64 0, .bool false] 24)
  obtain ⟨w1, hw1⟩ : ∃ x, ((w.alloc (.cells #[.int .i64 win, .int .i64 mn, .int .i64 mx, .int .i64 ch, .bool lz] 24)).alloc (.cells #[.int .i64 0, .int .i64 0, .int .i64 0, .int .i64 0, .bool false] 24)) = x := ⟨_, rfl⟩
  rw [hw1] at hA hR K1 ⊢
  clear hw1 hB0 K0
  have HK1 := Lib.hid K1
  obtain ⟨q, hq⟩ : ∃ x, w.heap.size = x := ⟨_, rfl⟩
  have HQ := Lib.hid hq
  rw [hq] at hA hR ⊢
  clear hq K1
  go_cut [] (fun wx => Blk wx q #[.int .i64 x1, .int .i64 x2, .int .i64 mx, .int .i64 ch, .bool lz] 24 ∧ Blk wx (q + 1) #[.int .i64 0, .int .i64 0, .int .i64 0, .int .i64 0, .bool false] 24 ∧ Keep [] w wx)
  case first =>
    have a0 := hA.cell 0 _ rfl
    have a1 := hA.cell 1 _ rfl
    have f0 := hA.free 0
    have f1 := hA.free 1
    have hS : Blk ((w1.setCell ⟨q, 0, none⟩ (.int .i64 x1)).setCell ⟨q, 1, none⟩ (.int .i64 x2)).drew q #[.int .i64 x1, .int .i64 x2, .int .i64 mx, .int .i64 ch, .bool lz] 24 := ((hA.set 0 (.int .i64 x1)).set 1 (.int .i64 x2)).keep (Keep.refl [] _).drew (by simp)
    have hS' : Blk ((w1.setCell ⟨q, 1, none⟩ (.int .i64 x2)).setCell ⟨q, 0, none⟩ (.int .i64 x1)).drew q #[.int .i64 x1, .int .i64 x2, .int .i64 mx, .int .i64 ch, .bool lz] 24 := ((hA.set 1 (.int .i64 x2)).set 0 (.int .i64 x1)).keep (Keep.refl [] _).drew (by simp)
    have hR' : Blk ((w1.setCell ⟨q, 0, none⟩ (.int .i64 x1)).setCell ⟨q, 1, none⟩ (.int .i64 x2)).drew (q + 1) #[.int .i64 0, .int .i64 0, .int .i64 0, .int .i64 0, .bool false] 24 := ((hR.other (p := ⟨q, 0, none⟩) (by simp) _).other (p := ⟨q, 1, none⟩) (by simp) _).keep (Keep.refl [] _).drew (by simp)
    have hR'' : Blk ((w1.setCell ⟨q, 1, none⟩ (.int .i64 x2)).setCell ⟨q, 0, none⟩ (.int .i64 x1)).drew (q + 1) #[.int .i64 0, .int .i64 0, .int .i64 0, .int .i64 0, .bool false] 24 := ((hR.other (p := ⟨q, 1, none⟩) (by simp) _).other (p := ⟨q, 0, none⟩) (by simp) _).keep (Keep.refl [] _).drew (by simp)
    have HK' : Hid (Keep [] w ((w1.setCell ⟨q, 0, none⟩ (.int .i64 x1)).setCell ⟨q, 1, none⟩ (.int .i64 x2)).drew) := ((HK1.out.setCell (.inr (by have := HQ.out; simp; omega)) _).setCell (.inr (by have := HQ.out; simp; omega)) _).drew
    have HK'' : Hid (Keep [] w ((w1.setCell ⟨q, 1, none⟩ (.int .i64 x2)).setCell ⟨q, 0, none⟩ (.int .i64 x1)).drew) := ((HK1.out.setCell (.inr (by have := HQ.out; simp; omega)) _).setCell (.inr (by have := HQ.out; simp; omega)) _).drew
    go_region_with (first
      | (go_at_call 20; with_reducible refine (V1.out _).mono ?_; rintro e w' ⟨rfl, rfl⟩)
      | (go_at_call 20; with_reducible refine (V2.out _).mono ?_; rintro e w' ⟨rfl, rfl⟩))
    all_goals
      go_wp2_with fail
      go_meet
      first | exact ⟨hS, hR', HK'.out⟩ | exact ⟨hS', hR'', HK''.out⟩
  case rest =>
    clear hA hR
    obtain ⟨hA, hR, hK⟩ := hcut
    have HK2 := Lib.hid hK
    clear hK HK1
    go_upto_region 2 with fail
    go_cut [] (fun wx => Blk wx q #[.int .i64 x1, .int .i64 x2, .int .i64 x3, .int .i64 x4, .bool lz] 24 ∧ Blk wx (q + 1) #[.int .i64 0, .int .i64 0, .int .i64 0, .int .i64 0, .bool false] 24 ∧ Keep [] w wx)
    case first =>
      have a1 := hA.cell 1 _ rfl
      have a2 := hA.cell 2 _ rfl
      have a3 := hA.cell 3 _ rfl
      have f2 := hA.free 2
      have f3 := hA.free 3
      have hS : Blk ((wc.setCell ⟨q, 2, none⟩ (.int .i64 x3)).setCell ⟨q, 3, none⟩ (.int .i64 x4)).drew q #[.int .i64 x1, .int .i64 x2, .int .i64 x3, .int .i64 x4, .bool lz] 24 := ((hA.set 2 (.int .i64 x3)).set 3 (.int .i64 x4)).keep (Keep.refl [] _).drew (by simp)
      have hS' : Blk ((wc.setCell ⟨q, 3, none⟩ (.int .i64 x4)).setCell ⟨q, 2, none⟩ (.int .i64 x3)).drew q #[.int .i64 x1, .int .i64 x2, .int .i64 x3, .int .i64 x4, .bool lz] 24 := ((hA.set 3 (.int .i64 x4)).set 2 (.int .i64 x3)).keep (Keep.refl [] _).drew (by simp)
      have hR' : Blk ((wc.setCell ⟨q, 2, none⟩ (.int .i64 x3)).setCell ⟨q, 3, none⟩ (.int .i64 x4)).drew (q + 1) #[.int .i64 0, .int .i64 0, .int .i64 0, .int .i64 0, .bool false] 24 := ((hR.other (p := ⟨q, 2, none⟩) (by simp) _).other (p := ⟨q, 3, none⟩) (by simp) _).keep (Keep.refl [] _).drew (by simp)
      have hR'' : Blk ((wc.setCell ⟨q, 3, none⟩ (.int .i64 x4)).setCell ⟨q, 2, none⟩ (.int .i64 x3)).drew (q + 1) #[.int .i64 0, .int .i64 0, .int .i64 0, .int .i64 0, .bool false] 24 := ((hR.other (p := ⟨q, 3, none⟩) (by simp) _).other (p := ⟨q, 2, none⟩) (by simp) _).keep (Keep.refl [] _).drew (by simp)
      have HK' : Hid (Keep [] w ((wc.setCell ⟨q, 2, none⟩ (.int .i64 x3)).setCell ⟨q, 3, none⟩ (.int .i64 x4)).drew) := ((HK2.out.setCell (.inr (by have := HQ.out; simp; omega)) _).setCell (.inr (by have := HQ.out; simp; omega)) _).drew
      have HK'' : Hid (Keep [] w ((wc.setCell ⟨q, 3, none⟩ (.int .i64 x4)).setCell ⟨q, 2, none⟩ (.int .i64 x3)).drew) := ((HK2.out.setCell (.inr (by have := HQ.out; simp; omega)) _).setCell (.inr (by have := HQ.out; simp; omega)) _).drew
      go_region_with (first
        | (go_at_call 20; with_reducible refine (V3.out _).mono ?_; rintro e w' ⟨rfl, rfl⟩)
        | (go_at_call 20; with_reducible refine (V4.out _).mono ?_; rintro e w' ⟨rfl, rfl⟩))
      all_goals
        go_wp2_with fail
        go_meet
        first | exact ⟨hS, hR', HK'.out⟩ | exact ⟨hS', hR'', HK''.out⟩
    case rest =>
      clear hA hR
      obtain ⟨hA, hR, hK⟩ := hcut
      have a0 := hA.cell 0 _ rfl
      have a1 := hA.cell 1 _ rfl
      have a2 := hA.cell 2 _ rfl
      have a3 := hA.cell 3 _ rfl
      have a4 := hA.cell 4 _ rfl
      have r0 := hR.cell 0 _ rfl
      have r1 := hR.cell 1 _ rfl
      have r2 := hR.cell 2 _ rfl
      have r3 := hR.cell 3 _ rfl
      have r4 := hR.cell 4 _ rfl
      have f0 := hR.free 0
      have f1 := hR.free 1
      have f2 := hR.free 2
      have f3 := hR.free 3
      have f4 := hR.free 4
      have HF : Hid (Blk (((((wc.setCell ⟨q + 1, 0, none⟩ (.int .i64 x1)).setCell ⟨q + 1, 1, none⟩ (.int .i64 x2)).setCell ⟨q + 1, 2, none⟩ (.int .i64 x3)).setCell ⟨q + 1, 3, none⟩ (.int .i64 x4)).setCell ⟨q + 1, 4, none⟩ (.bool lz)) (q + 1) #[.int .i64 x1, .int .i64 x2, .int .i64 x3, .int .i64 x4, .bool lz] 24) := ((((hR.set 0 (.int .i64 x1)).set 1 (.int .i64 x2)).set 2 (.int .i64 x3)).set 3 (.int .i64 x4)).set 4 (.bool lz)
      have HKF : Hid (Keep [] w (((((wc.setCell ⟨q + 1, 0, none⟩ (.int .i64 x1)).setCell ⟨q + 1, 1, none⟩ (.int .i64 x2)).setCell ⟨q + 1, 2, none⟩ (.int .i64 x3)).setCell ⟨q + 1, 3, none⟩ (.int .i64 x4)).setCell ⟨q + 1, 4, none⟩ (.bool lz))) := by
        have hq := HQ.out
        exact ((((hK.setCell (.inr (by simp; omega)) _).setCell (.inr (by simp; omega)) _).setCell (.inr (by simp; omega)) _).setCell (.inr (by simp; omega)) _).setCell (.inr (by simp; omega)) _
      clear hA hR hK
      go_wp2_with fail
      refine bodyPost_ret (results_cell_row rfl _ _ _ _ _ (0, 0) _ rfl HF.out Try.underlying24 rfl (by kernel_rfl)) rfl ?_
      exact ⟨by rw [HI.out], HKF.out⟩
end Go.Proofs.Ytgojekhcdcgonaa
