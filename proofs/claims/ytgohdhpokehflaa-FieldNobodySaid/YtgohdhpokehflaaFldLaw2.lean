/- The walk of the law FieldNobody: it returns true at every input. -/
import Derived.Test.YtgohdhpokehflaaFldLives
namespace Go.Proofs.Ytgohdhpokehflaa
set_option linter.unusedVariables false
set_option linter.unusedSimpArgs false
open Go.ChangeShapes Go.WideShapes Go.ChangeAt Go.RowKit

def CSp : CS := ⟨[], 0, false, 0⟩
theorem csp_take (n : Int) : CSp.take n = ([], CSp) := by
  have h : CSp.E = 1 := rfl
  unfold CS.take; rw [if_pos (by rw [h]; decide)]
set_option maxRecDepth 100000 in
set_option maxHeartbeats 4000000 in
theorem nobody_c (W : World) (n : Int) (x : Nat) (hx : x < 4294967296) : Calls Try.prog 7 #[.int .i64 n, .int .u32 x] W fun e w' => e = .returned (.bool true) ∧ Keep [] W w' := by
  have HT := Lib.hid (csp_take)
  have hle : ((le [] : Nat) : Int) = 0 := rfl
  have HL := Lib.hid hle; clear hle
  go_enter Try.func7, Try.ntmps7
  go_wp2_with fail
  have hr : Cd (W.alloc (.cells #[.slice none 0 0, .int .i64 0, .bool false, .int .i64 0] 58)) W.heap.size (.slice none 0 0) CSp :=
    ⟨Blk.new _ _ _, OwnB.nil _, ⟨by decide, by decide, by decide⟩, fun b hb => by simp [Value.ownBlock] at hb⟩
  have hk := (Keep.refl [] W).alloc (.cells #[.slice none 0 0, .int .i64 0, .bool false, .int .i64 0] 58)
  generalize W.alloc (.cells #[.slice none 0 0, .int .i64 0, .bool false, .int .i64 0] 58) = w1 at hr hk ⊢
  obtain ⟨r, hrr⟩ : ∃ r, r = W.heap.size := ⟨_, rfl⟩
  rw [← hrr] at hr ⊢
  have hrW : W.heap.size ≤ r := by omega
  clear hrr
  refine (roU16_nil w1 n).mono ?_; rintro e w2 ⟨rfl, hk2⟩
  have hr2 := hr.keep hk2 (by simp) (by simp)
  have K2 := hk.trans hk2 (by simp)
  clear hr hk hk2
  go_wp2_with fail
  refine (roU32_nil w2 x hx).mono ?_; rintro e w3 ⟨rfl, hk3⟩
  have hr3 := hr2.keep hk3 (by simp) (by simp)
  have K3 := K2.trans hk3 (by simp)
  clear hr2 hk3 K2
  go_wp2_with fail
  refine (roPut_nil _ _).mono ?_; rintro e w4 ⟨rfl, rfl⟩
  have hr4 := hr3.keep ((Keep.refl [] w3).alloc (.cells #[.int .u8 1] 5)) (by simp) (by simp)
  have K4 := K3.alloc (.cells #[.int .u8 1] 5)
  generalize w3.alloc (.cells #[.int .u8 1] 5) = w4 at hr4 K4 ⊢
  clear hr3 K3
  go_wp2_with fail
  refine (roBytes_nil _).mono ?_; rintro e w' ⟨rfl, rfl⟩
  go_wp2_with fail
  refine (roErr_nil _).mono ?_; rintro e w' ⟨rfl, rfl⟩
  go_wp2_with fail
  refine (cu16_nil _).mono ?_; rintro e w5 ⟨rfl, m, rfl⟩
  have hr5 := hr4.drewN m
  have K5 := K4.drewN m
  generalize w4.drewN m = w5 at hr5 K5 ⊢
  clear hr4 K4
  go_wp2_with fail
  refine (cu16_c _ _ _ _ hr5).mono ?_; rintro e w6 ⟨rfl, hr6, hk6⟩
  rw [show CSp.take 2 = _ from HT.out 2] at hr6 ⊢
  rw [HL.out]
  have K6 : Keep [] W w6 := K5.trans hk6 (by simpa using hrW)
  clear hr5 K5 hk6
  go_wp2_with fail
  refine (cu32_nil _).mono ?_; rintro e w7 ⟨rfl, m, rfl⟩
  have hr7 := hr6.drewN m
  have K7 := K6.drewN m
  generalize w6.drewN m = w7 at hr7 K7 ⊢
  clear hr6 K6
  go_wp2_with fail
  refine (cu32_c _ _ _ _ hr7).mono ?_; rintro e w8 ⟨rfl, hr8, hk8⟩
  rw [show CSp.take 4 = _ from HT.out 4] at hr8 ⊢
  rw [HL.out]
  have K8 : Keep [] W w8 := K7.trans hk8 (by simpa using hrW)
  clear hr7 K7 hk8
  go_wp2_with fail
  refine (cuBytes_nil _ _).mono ?_; rintro e w' ⟨rfl, rfl⟩
  go_wp2_with fail
  refine (cuBytes_c _ _ _ _ n hr8).mono ?_; rintro e w9 ⟨v9, rfl, ho9, _, hr9, hk9⟩
  rw [HT.out] at ho9 hr9
  have K9 : Keep [] W w9 := K8.trans hk9 (by simpa using hrW)
  obtain ⟨a, c, rfl, _⟩ := ho9.bs.shape
  clear hr8 K8 hk9
  go_wp2_with fail
  refine (cuLeft_nil _).mono ?_; rintro e w' ⟨rfl, rfl⟩
  go_wp2_with fail
  refine (cuLeft_c _ _ _ _ hr9).mono ?_; rintro e w10 ⟨rfl, m, rfl⟩
  have hr10 := hr9.drewN m
  have K10 := K9.drewN m
  generalize w9.drewN m = w10 at hr10 K10 ⊢
  clear hr9 K9
  rw [show CSp.left = 0 from rfl]
  go_wp2_with fail
  refine (cuAt_nil _).mono ?_; rintro e w' ⟨rfl, rfl⟩
  go_wp2_with fail
  refine (cuAt_c _ _ _ _ hr10).mono ?_; rintro e w' ⟨rfl, rfl⟩
  rw [show CSp.pos = 0 from rfl]
  go_wp2_with fail
  refine (cuErr_nil _).mono ?_; rintro e w' ⟨rfl, rfl⟩
  go_wp2_with fail
  refine (cuErr_c _ _ _ _ hr10).mono ?_; rintro e w' ⟨rfl, rfl⟩
  rw [show CSp.E = 1 from rfl]
  go_wp2_with fail
  refine (cuEnd_nil _).mono ?_; rintro e w' ⟨rfl, rfl⟩
  go_wp2_with fail
  refine (cuEnd_c _ _ _ _ hr10).mono ?_; rintro e w11 ⟨rfl, m, rfl⟩
  have K11 := K10.drewN m
  generalize w10.drewN m = w11 at K11 ⊢
  rw [show CSp.fin = 1 from rfl]
  go_wp2_with (refine (lives_c _).mono ?_; rintro e w' ⟨rfl, hk⟩)
  go_ret
  exact ⟨rfl, K11.trans hk (by simp)⟩
theorem nobody_w (W : World) (a0 : Int) (w0 : (Lit.int .i64 a0).wf = true) (a1 : Int) (w1 : (Lit.int .u32 a1).wf = true) : Calls Try.prog 7 #[.int .i64 a0, .int .u32 a1] W fun e w' => e = .returned (.bool true) ∧ Keep [] W w' := by
  have h : 0 ≤ a1 ∧ a1 ≤ 4294967295 := by simpa [Lit.wf, IntKind.min, IntKind.max, IntKind.bits, IntKind.signed] using w1
  obtain ⟨x, rfl⟩ := Int.eq_ofNat_of_zero_le h.1
  exact nobody_c W a0 x (by omega)
end Go.Proofs.Ytgohdhpokehflaa
