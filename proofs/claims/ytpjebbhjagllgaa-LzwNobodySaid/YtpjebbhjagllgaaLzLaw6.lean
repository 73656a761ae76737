/- The walk of the law LzwNobody: it returns true at every input. -/
import Derived.Test.YtpjebbhjagllgaaLzLaw1
import Derived.Test.YtpjebbhjagllgaaLz7
import Derived.Laws.StructEq
namespace Go.Proofs.Ytpjebbhjagllgaa
set_option linter.unusedVariables false
set_option linter.unusedSimpArgs false
open Go.ChangeShapes Go.WideShapes Go.ChangeAt Go.RowKit

set_option maxRecDepth 100000 in
set_option maxHeartbeats 4000000 in
theorem lznobody_w (W : World) (code : Int) (hcode : (Lit.int .i64 code).wf = true) (a : Int) (ha : (Lit.int .u8 a).wf = true) : Calls Try.prog 7 #[.int .i64 code, .int .u8 a] W fun e w' => e = .returned (.bool true) ∧ Keep [] W w' := by
  have hu := u8_of_wf ha
  generalize UInt8.ofNat a.toNat = c at hu
  rw [← hu]
  clear hu ha hcode
  go_enter Try.func7, Try.ntmps7
  go_wp2_with fail
  go_loopw [5] (fun iv wr => ∃ i : Nat, i ≤ 2 ∧ iv = .int .i64 i ∧ Hid (Keep [] W wr)) (fun iv _ => 2 - (intOf iv).toNat)
  case atStart => exact ⟨0, by omega, rfl, Keep.refl _ _⟩
  case round =>
    obtain ⟨i, hi, rfl, HK⟩ := hrel
    by_cases hlt : i < 2
    · have hlt2 : (i : Int) < 2 := by omega
      by_cases h1 : i = 1
      · have h1z : ((i : Int) == 1) = true := by simp; omega
        clear h1
        have HN := Lib.hid (NoT.plain (ltz_plain _ _ (Blk.new wr #[.slice none 0 0, .slice none 0 0, .map none, .int .i64 0, .int .i64 0] 53)))
        have HK0 := HK
        have HK := Lib.hid (HK0.out.alloc (.cells #[.slice none 0 0, .slice none 0 0, .map none, .int .i64 0, .int .i64 0] 53))
        clear HK0
        go_wp2_with fail
        refine (nt_clear _ _ HN.out).mono ?_; rintro e w2 ⟨rfl, rfl⟩
        go_wp2_with fail
        refine (nt_text _ _ code HN.out).mono ?_; rintro e w2 ⟨rfl, rfl⟩
        go_wp2_with fail
        refine (nt_link _ _ code HN.out).mono ?_; rintro e w2 ⟨rfl, k2⟩
        have hX := Blk.new w2 #[.int .i64 0, .int .u8 0] 44
        have p0 := hX.cell 0 _ rfl
        have p1 := hX.cell 1 _ rfl
        have KX : Keep [] w2 (w2.alloc (.cells #[.int .i64 0, .int .u8 0] 44)) := (Keep.refl [] w2).alloc _
        have HK3 := Lib.hid ((HK.out.trans k2 (by simp)).trans KX (by simp))
        have HN3 := Lib.hid ((HN.out.keep k2).keep KX)
        clear HN HK k2 KX
        go_wp2_with fail
        refine (nt_next _ _ HN3.out).mono ?_; rintro e w4 ⟨rfl, rfl⟩
        go_wp2_with fail
        refine (nt_add _ _ code c HN3.out).mono ?_; rintro e w4 ⟨rfl, rfl⟩
        go_wp2_with fail
        refine (nt_child _ _ code c HN3.out).mono ?_; rintro e w4 ⟨rfl, rfl⟩
        go_wp2_with fail
        refine (nt_used _ _ HN3.out).mono ?_; rintro e w4 ⟨rfl, rfl⟩
        go_wp2_with fail
        go_roundw
        case rel => exact ⟨i + 1, by omega, by go_num, HK3.out⟩
        case measure => simp [intOf]; omega
      · have h1z : ((i : Int) == 1) = false := by simp; omega
        clear h1
        have HN := Lib.hid (NoT.nil wr)
        go_wp2_with fail
        refine (nt_clear _ _ HN.out).mono ?_; rintro e w2 ⟨rfl, rfl⟩
        go_wp2_with fail
        refine (nt_text _ _ code HN.out).mono ?_; rintro e w2 ⟨rfl, rfl⟩
        go_wp2_with fail
        refine (nt_link _ _ code HN.out).mono ?_; rintro e w2 ⟨rfl, k2⟩
        have hX := Blk.new w2 #[.int .i64 0, .int .u8 0] 44
        have p0 := hX.cell 0 _ rfl
        have p1 := hX.cell 1 _ rfl
        have KX : Keep [] w2 (w2.alloc (.cells #[.int .i64 0, .int .u8 0] 44)) := (Keep.refl [] w2).alloc _
        have HK3 := Lib.hid ((HK.out.trans k2 (by simp)).trans KX (by simp))
        have HN3 := Lib.hid ((HN.out.keep k2).keep KX)
        clear HN HK k2 KX
        go_wp2_with fail
        refine (nt_next _ _ HN3.out).mono ?_; rintro e w4 ⟨rfl, rfl⟩
        go_wp2_with fail
        refine (nt_add _ _ code c HN3.out).mono ?_; rintro e w4 ⟨rfl, rfl⟩
        go_wp2_with fail
        refine (nt_child _ _ code c HN3.out).mono ?_; rintro e w4 ⟨rfl, rfl⟩
        go_wp2_with fail
        refine (nt_used _ _ HN3.out).mono ?_; rintro e w4 ⟨rfl, rfl⟩
        go_wp2_with fail
        go_roundw
        case rel => exact ⟨i + 1, by omega, by go_num, HK3.out⟩
        case measure => simp [intOf]; omega
    · have hlt2 : ¬ (i : Int) < 2 := by omega
      go_wp2_with fail
      refine (lives10_c _).mono ?_; rintro e w8 ⟨rfl, k8⟩
      go_wp2_with fail
      go_ret
      exact ⟨rfl, HK.out.trans k8 (by simp)⟩
end Go.Proofs.Ytpjebbhjagllgaa
