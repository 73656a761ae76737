/- Contract of lives of package duffellaw03, and the walk of the law CrcTables: it returns true at every input. -/
import Derived.Test.YtplamdejdibbhaaCrc
import Derived.Test.YtplamdejdibbhaaPart
import Derived.Lib.SlBytesConst
namespace Go.Proofs.Ytplamdejdibbhaa
set_option linter.unusedVariables false
set_option linter.unusedSimpArgs false
open Go.ChangeShapes Go.WideShapes Go.ChangeAt Go.RowKit

theorem info32 : (Try.prog.info? 22).map (fun i => (i.zero, i.size, i.bytes)) = some (some (.int .u32 0), 1, 4) := by kernel_rfl
theorem check : ((crcSum 0 [49, 50, 51, 52, 53, 54, 55, 56, 57] : Nat) : Int) = 3421780262 := by decide +kernel
theorem lives_c (w : World) : Calls Try.prog 10 #[] w fun e w' => e = .returned (.bool true) ∧ Keep [] w w' := by
  have HC := Lib.hid check
  have hcv := fun C => Lib.run_convert_bytes_const (P := Try.prog) w 28 5 C 9 9 Try.underlying28 Try.underlying5
  have hb : Bs (w.alloc (.cells #[.int .u8 49, .int .u8 50, .int .u8 51, .int .u8 52, .int .u8 53, .int .u8 54, .int .u8 55, .int .u8 56, .int .u8 57] 5 (9, 9 + 1))) (.slice (some ⟨w.heap.size, 0, none⟩) 9 9) [49, 50, 51, 52, 53, 54, 55, 56, 57] := Bs.litF w _ _ 9 (9, 9 + 1) rfl rfl (by simp [maxLen])
  have hk : Keep [] w (w.alloc (.cells #[.int .u8 49, .int .u8 50, .int .u8 51, .int .u8 52, .int .u8 53, .int .u8 54, .int .u8 55, .int .u8 56, .int .u8 57] 5 (9, 9 + 1))) := (Keep.refl [] w).alloc _
  go_enter Try.func10, Try.ntmps10
  go_wp2_with fail
  refine (sum_c _ _ _ hb).mono ?_; rintro e w2 ⟨rfl, k2⟩
  rw [HC.out]
  go_wp2_with fail
  go_ret
  exact ⟨rfl, hk.trans k2 (by simp)⟩
theorem tables_c (w : World) (c : UInt8) : Calls Try.prog 3 #[.int .u8 c.toNat] w fun e w' => e = .returned (.bool true) ∧ Keep [] w w' := by
  have hc := c.toNat_lt
  obtain ⟨i0, hi0, _, hs, _⟩ := info_parts info32
  have ht := Lib.hid (table_c w.drew)
  go_enter Try.func3, Try.ntmps3
  go_wp2_with fail
  go_region_with (first
    | (go_at_call 8; (refine ht.out.mono ?_); (rintro e w1 ⟨tv, rfl, ht1, k1⟩); (obtain ⟨cs, rfl, hsz, hcs⟩ := ht1); (have hix := run_index_arr (P := Try.prog) w1 23 22 256 .u32 i0 cs .u8 c.toNat _ Try.underlying23 Try.underlying22 hi0 hs hc (hcs c.toNat hc).1); (clear hcs))
    | (go_at_call 9; (refine (refword_c _ c).mono ?_); (rintro e w' ⟨rfl, rfl⟩))
    | (go_at_call 10; (refine (lives_c _).mono ?_); (rintro e w2 ⟨rfl, k2⟩)))
  all_goals
    have K2 : Keep [] w w2 := ((Keep.refl [] w).drew.trans k1 (by simp)).trans k2 (by simp)
    go_wp2
    go_ret
    exact ⟨rfl, K2⟩
theorem tables_w (W : World) (a0 : Int) (w0 : (Lit.int .u8 a0).wf = true) : Calls Try.prog 3 #[.int .u8 a0] W fun e w' => e = .returned (.bool true) ∧ Keep [] W w' := by
  have h : 0 ≤ a0 ∧ a0 ≤ 255 := by simpa [Lit.wf, IntKind.min, IntKind.max, IntKind.bits, IntKind.signed] using w0
  obtain ⟨x, rfl⟩ := Int.eq_ofNat_of_zero_le h.1
  have e : ((UInt8.ofNat x).toNat) = x := by simp; omega
  have := tables_c W (UInt8.ofNat x)
  rw [e] at this
  exact this
end Go.Proofs.Ytplamdejdibbhaa
