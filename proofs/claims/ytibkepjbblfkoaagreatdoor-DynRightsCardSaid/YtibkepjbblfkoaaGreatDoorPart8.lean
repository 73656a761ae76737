/- Texts put together: DynLaw1 -/
import Derived.Test.YtibkepjbblfkoaaGreatDoorPart4
import Derived.Test.YtibkepjbblfkoaaGreatDoorPart7
namespace Go.Proofs.YtibkepjbblfkoaaGreatDoor
set_option linter.unusedVariables false
set_option linter.unusedSimpArgs false
set_option maxRecDepth 100000
open Go.ChangeShapes Go.WideShapes Go.ChangeAt Go.RowKit

theorem lives17_c (w : World) : Calls Tryz.prog 11 #[] w fun e w' => e = .returned (.bool true) ∧ Keep [] w w' := by
  have h := dyn_lcode w 11 false (by decide)
  have hv : lcOf 11 false = (265, 1, 0, true) := by decide +kernel
  rw [hv] at h
  have H := Lib.hid h
  clear h hv
  go_enter Tryz.func11, Tryz.ntmps11
  go_wp2_with fail
  refine H.out.mono ?_; rintro e w1 ⟨rfl, k1⟩
  go_wp2_with fail
  go_ret
  exact ⟨rfl, k1⟩
theorem lenOf_in (c : Nat) (large : Bool) (b e : Nat) (h : lenOf (c : Int) large = (b, e, true)) : c ≤ 285 ∧ b ≤ 258 ∧ e ≤ 16 := by
  by_cases hb : (c : Int) < 257 ∨ 285 < (c : Int)
  · unfold lenOf at h; rw [if_pos hb] at h; simp at h
  · obtain ⟨b', e', h2, h3, h4⟩ := len_ok (c - 257) large (by omega)
    rw [show 257 + (c - 257) = c by omega, h] at h2
    simp only [Prod.mk.injEq] at h2
    obtain ⟨rfl, rfl, -⟩ := h2
    exact ⟨by omega, h3, h4⟩
theorem dstOf_in (c : Nat) (large : Bool) (b e : Nat) (h : dstOf (c : Int) large = (b, e, true)) : c ≤ 31 ∧ b ≤ 49153 ∧ e ≤ 14 := by
  by_cases hb : (c : Int) < 0 ∨ 31 < (c : Int) ∨ (29 < (c : Int) ∧ large = false)
  · unfold dstOf at h; rw [if_pos hb] at h; simp at h
  · obtain ⟨b', e', o', h2, h3, h4⟩ := dst_le c large (by omega)
    rw [h] at h2
    simp only [Prod.mk.injEq] at h2
    obtain ⟨rfl, rfl, -⟩ := h2
    exact ⟨by omega, h3, h4⟩
theorem pow_shl (e : Nat) (he : e ≤ 16) : wrap64 ((2 : Int) ^ e) = ((2 ^ e : Nat) : Int) ∧ IntKind.i64.wrap ((2 : Int) ^ e) = ((2 ^ e : Nat) : Int) ∧ 2 ^ e ≤ 65536 := by
  have h : ∀ e : Fin 17, wrap64 ((2 : Int) ^ e.val) = ((2 ^ e.val : Nat) : Int) ∧ IntKind.i64.wrap ((2 : Int) ^ e.val) = ((2 ^ e.val : Nat) : Int) ∧ 2 ^ e.val ≤ 65536 := by decide +kernel
  exact h ⟨e, by omega⟩
end Go.Proofs.YtibkepjbblfkoaaGreatDoor
