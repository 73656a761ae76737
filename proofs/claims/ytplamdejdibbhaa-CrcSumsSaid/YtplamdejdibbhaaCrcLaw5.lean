/- The walk of the law CrcSums: it returns true at every input. -/
import Derived.Test.YtplamdejdibbhaaCrcLives
import Derived.Test.YtplamdejdibbhaaCutB
import Derived.Test.YtplamdejdibbhaaOpen
import Derived.Test.YtplamdejdibbhaaKept
namespace Go.Proofs.Ytplamdejdibbhaa
set_option linter.unusedVariables false
set_option linter.unusedSimpArgs false
open Go.ChangeShapes Go.WideShapes Go.ChangeAt Go.RowKit

set_option maxRecDepth 100000 in
set_option maxHeartbeats 4000000 in
theorem sums_c2 (W : World) (tv : Value) (T : Nat → Nat) (ht : Tab tv T) (s : Nat) (hs : s < 4294967296) (v0 : Value) (l0 : List UInt8) (h0 : Bs W v0 l0) : Calls Try.prog 4 #[tv, .int .u32 s, v0] W fun e w' => e = .returned (.bool true) ∧ Keep [] W w' := by
  have hsz := (zero_of_info (P := Try.prog) arrInfo).2
  have HSz := Lib.hid hsz
  have HT := Lib.hid ht
  obtain ⟨cs, rfl, hcs, _⟩ := ht
  clear hsz
  have KA : Keep [] W (W.alloc (.cells cs 23)) := (Keep.refl [] W).alloc _
  have HB : Blk (W.alloc (.cells cs 23)) W.heap.size cs 23 := Blk.new W cs _
  go_enter Try.func4, Try.ntmps4
  go_wp2_with fail
  generalize W.alloc (.cells cs 23) = w0 at KA HB ⊢
  refine (cut_c w0 v0 l0 300 (by decide) (h0.keep KA (by simp))).mono ?_; rintro e w' ⟨vb, rfl, hb, hvb, rfl⟩
  have hl3 : (l0.take 300).length ≤ 300 := by rw [List.length_take]; omega
  generalize l0.take 300 = l at hb hl3
  clear h0
  go_wp2_with fail
  refine (copy_c w0 vb l (by omega) hb).mono ?_; rintro e w1 ⟨vm, rfl, hm, hk1, _⟩
  have K1 : Keep [] W w1 := KA.trans hk1 (by simp)
  have hb1 : Bs w1 vb l := hb.keep hk1 (by simp)
  have hm1 : Bs w1 vm l := hm.bs
  have hB1 : Blk w1 W.heap.size cs 23 := HB.keep hk1 (by simp)
  clear hb hm HB hk1
  have hL1 := fun (p : Kept w1) => (hB1.keep p.h (by simp)).load (P := Try.prog) _ Try.underlying23 rfl (by rw [hcs]; exact HSz.out)
  have HL1 := Lib.hid hL1
  have c1 := fun (ww : World) (kk : Keep [] w1 ww) => sum_c ww vm l (hm1.keep kk (by simp))
  have c2 : ∀ ww, Keep [] w1 ww → Calls Try.prog 14 #[.int .u32 0, vb] ww fun e w' => e = .returned (.int .u32 (crcSum 0 l)) ∧ Keep [] ww w' := fun (ww : World) (kk : Keep [] w1 ww) => kept_drewN (refsum_c ww 0 vb l (by decide) (hb1.keep kk (by simp)))
  have ct := fun (ww : World) => table_v ww
  have htt := tabOf_tab (csteps 8) (fun i hi => csteps_lt 8 i (by omega))
  have c3 := fun (ww : World) (kk : Keep [] w1 ww) => add_c ww _ _ s vm l htt hs (hm1.keep kk (by simp))
  have c4 := fun (ww : World) (kk : Keep [] w1 ww) => kept_drewN (refsum_c ww s vb l hs (hb1.keep kk (by simp)))
  have c5 := fun (ww : World) (kk : Keep [] w1 ww) => add_c ww (.agg cs) T s vm l HT.out hs (hm1.keep kk (by simp))
  have c6 := fun (ww : World) (kk : Keep [] w1 ww) => refwith_c ww (.agg cs) T s vb l HT.out hs (hb1.keep kk (by simp))
  have c7 := fun (ww : World) (kk : Keep [] w1 ww) => kept_drewN (same_c ww vm vb l l (hm1.keep kk (by simp)) (hb1.keep kk (by simp)))
  rw [crcWith_steps] at c3
  have hdec : decide (l = l) = true := by simp
  rw [hdec] at c7
  have C1 := Lib.hid c1; have C2 := Lib.hid c2; have CT := Lib.hid ct; have C3 := Lib.hid c3; have C4 := Lib.hid c4; have C5 := Lib.hid c5; have C6 := Lib.hid c6; have C7 := Lib.hid c7
  clear hL1 c1 c2 ct c3 c4 c5 c6 c7 hdec hb1 hm1 hB1 htt
  generalize crcSum 0 l = x1 at C1 C2
  generalize crcSum s l = x2 at C3 C4
  generalize crcWith T s l = x3 at C5 C6
  generalize tabOf (csteps 8) = tb at CT C3
  go_wp2_with fail
  refine wp_region_kept (by kernel_rfl) (by kernel_rfl) ?_
  repeat (quiet_step (first
    | (go_at_call 13; with_reducible exact kept_of (C1.out _ (Kept.h _)))
    | (go_at_call 14; (first | with_reducible exact kept_of (C2.out _ (Kept.h _)) | with_reducible exact kept_of (C4.out _ (Kept.h _))))
    | (go_at_call 8; with_reducible exact kept_of (CT.out _))
    | (go_at_call 15; (first | with_reducible exact kept_of (C3.out _ (Kept.h _)) | with_reducible exact kept_of (C5.out _ (Kept.h _))))
    | (go_at_call 16; with_reducible exact kept_of (C6.out _ (Kept.h _)))
    | (go_at_call 17; with_reducible exact kept_of (C7.out _ (Kept.h _)))
    | (go_at_call 10; with_reducible exact kept_of (lives_c _))))
  refine wpQuiet_loadA 23 (.tmp 3) rfl (by rfl) W.heap.size rfl cs HL1.out ?_
  repeat (quiet_step (first
    | (go_at_call 13; with_reducible exact kept_of (C1.out _ (Kept.h _)))
    | (go_at_call 14; (first | with_reducible exact kept_of (C2.out _ (Kept.h _)) | with_reducible exact kept_of (C4.out _ (Kept.h _))))
    | (go_at_call 8; with_reducible exact kept_of (CT.out _))
    | (go_at_call 15; (first | with_reducible exact kept_of (C3.out _ (Kept.h _)) | with_reducible exact kept_of (C5.out _ (Kept.h _))))
    | (go_at_call 16; with_reducible exact kept_of (C6.out _ (Kept.h _)))
    | (go_at_call 17; with_reducible exact kept_of (C7.out _ (Kept.h _)))
    | (go_at_call 10; with_reducible exact kept_of (lives_c _))))
  refine wpQuiet_loadA 23 (.tmp 3) rfl (by rfl) W.heap.size rfl cs HL1.out ?_
  repeat (quiet_step (first
    | (go_at_call 13; with_reducible exact kept_of (C1.out _ (Kept.h _)))
    | (go_at_call 14; (first | with_reducible exact kept_of (C2.out _ (Kept.h _)) | with_reducible exact kept_of (C4.out _ (Kept.h _))))
    | (go_at_call 8; with_reducible exact kept_of (CT.out _))
    | (go_at_call 15; (first | with_reducible exact kept_of (C3.out _ (Kept.h _)) | with_reducible exact kept_of (C5.out _ (Kept.h _))))
    | (go_at_call 16; with_reducible exact kept_of (C6.out _ (Kept.h _)))
    | (go_at_call 17; with_reducible exact kept_of (C7.out _ (Kept.h _)))
    | (go_at_call 10; with_reducible exact kept_of (lives_c _))))
  refine wpQuiet_nil ?_
  intro _ hw'
  obtain ⟨p, hw''⟩ := hw'
  subst hw''
  go_wp2
  go_ret
  exact ⟨rfl, K1.trans p.h (by simp)⟩
theorem sums_w (W : World) (tv : Value) (T : Nat → Nat) (ht : Tab tv T) (a1 : Int) (w1 : (Lit.int .u32 a1).wf = true) (v0 : Value) (l0 : List UInt8) (h0 : Bs W v0 l0) : Calls Try.prog 4 #[tv, .int .u32 a1, v0] W fun e w' => e = .returned (.bool true) ∧ Keep [] W w' := by
  have h : 0 ≤ a1 ∧ a1 ≤ 4294967295 := by simpa [Lit.wf, IntKind.min, IntKind.max, IntKind.bits, IntKind.signed] using w1
  obtain ⟨x, rfl⟩ := Int.eq_ofNat_of_zero_le h.1
  exact sums_c2 W tv T ht x (by omega) v0 l0 h0
end Go.Proofs.Ytplamdejdibbhaa
