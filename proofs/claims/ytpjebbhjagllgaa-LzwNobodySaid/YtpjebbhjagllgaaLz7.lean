/- The landed table of layer 10, where New made none. -/
import Derived.Test.YtpjebbhjagllgaaLz
namespace Go.Proofs.Ytpjebbhjagllgaa
set_option linter.unusedVariables false
set_option linter.unusedSimpArgs false
open Go.ChangeShapes Go.WideShapes Go.ChangeAt Go.RowKit

/-- v is no table that New made -/
def NoT (w : World) (v : Value) : Prop := ∀ w', Keep [] w w' → Calls Try.prog 31 #[v] w' fun e w'' => e = .returned (.bool false) ∧ w' = w''
theorem NoT.nil (w : World) : NoT w (.pointer none) := fun w' _ => lmade_none w'
theorem NoT.plain {w : World} {q : Nat} (h : LtPlain w q) : NoT w (.pointer (some ⟨q, 0, none⟩)) := fun w' k => lmade_plain w' q (h.keep k (by simp))
theorem NoT.keep {w w' : World} {v : Value} (h : NoT w v) (k : Keep [] w w') : NoT w' v := fun w2 k2 => h w2 (k.trans k2 (by simp))
theorem nt_next (w : World) (v : Value) (h : NoT w v) : Calls Try.prog 17 #[v] w fun e w' => e = .returned (.int .i64 (-1)) ∧ w = w' := by
  have HM := Lib.hid (h w (Keep.refl _ _))
  clear h
  go_enter Try.func17, Try.ntmps17
  go_wp2_with fail
  refine HM.out.mono ?_; rintro e w' ⟨rfl, rfl⟩
  go_wp2_with fail
  go_ret
  exact ⟨rfl, rfl⟩
theorem nt_used (w : World) (v : Value) (h : NoT w v) : Calls Try.prog 22 #[v] w fun e w' => e = .returned (.int .i64 0) ∧ w = w' := by
  have HM := Lib.hid (h w (Keep.refl _ _))
  clear h
  go_enter Try.func22, Try.ntmps22
  go_wp2_with fail
  refine HM.out.mono ?_; rintro e w' ⟨rfl, rfl⟩
  go_wp2_with fail
  go_ret
  exact ⟨rfl, rfl⟩
theorem nt_add (w : World) (v : Value) (p : Int) (c : UInt8) (h : NoT w v) : Calls Try.prog 10 #[v, .int .i64 p, .int .u8 c.toNat] w fun e w' => e = .returned (.int .i64 (-1)) ∧ w = w' := by
  have HM := Lib.hid (nt_next w v h)
  clear h
  go_enter Try.func10, Try.ntmps10
  go_wp2_with fail
  refine HM.out.mono ?_; rintro e w' ⟨rfl, rfl⟩
  go_wp2_with fail
  go_ret
  exact ⟨rfl, rfl⟩
theorem nt_clear (w : World) (v : Value) (h : NoT w v) : Calls Try.prog 13 #[v] w fun e w' => e = .returned (.tuple #[]) ∧ w = w' := by
  have HM := Lib.hid (h w (Keep.refl _ _))
  clear h
  go_enter Try.func13, Try.ntmps13
  go_wp2_with fail
  refine HM.out.mono ?_; rintro e w' ⟨rfl, rfl⟩
  go_wp2_with fail
  refine bodyPost_ret (results_none rfl _ _ _) rfl ?_
  exact ⟨rfl, rfl⟩
theorem nt_child (w : World) (v : Value) (p : Int) (c : UInt8) (h : NoT w v) : Calls Try.prog 24 #[v, .int .i64 p, .int .u8 c.toNat] w fun e w' => e = .returned (.int .i64 (-1)) ∧ w = w' := by
  have HM := Lib.hid (h w (Keep.refl _ _))
  clear h
  go_enter Try.func24, Try.ntmps24
  go_wp2_with fail
  refine HM.out.mono ?_; rintro e w' ⟨rfl, rfl⟩
  go_wp2_with fail
  go_ret
  exact ⟨rfl, rfl⟩
theorem nt_size (w : World) (v : Value) (p : Int) (h : NoT w v) : Calls Try.prog 33 #[v, .int .i64 p] w fun e w' => e = .returned (.int .i64 0) ∧ w = w' := by
  have HM := Lib.hid (h w (Keep.refl _ _))
  clear h
  go_enter Try.func33, Try.ntmps33
  go_wp2_with fail
  refine HM.out.mono ?_; rintro e w' ⟨rfl, rfl⟩
  go_wp2_with fail
  go_ret
  exact ⟨rfl, rfl⟩
theorem nt_text (w : World) (v : Value) (p : Int) (h : NoT w v) : Calls Try.prog 18 #[v, .int .i64 p] w fun e w' => e = .returned (.tuple #[.slice none 0 0, .bool false]) ∧ w = w' := by
  have HM := Lib.hid (nt_size w v p h)
  clear h
  go_enter Try.func18, Try.ntmps18
  go_wp2_with fail
  refine HM.out.mono ?_; rintro e w' ⟨rfl, rfl⟩
  go_wp2_with fail
  go_ret2
  exact ⟨rfl, rfl⟩
theorem nt_link (w : World) (v : Value) (p : Int) (h : NoT w v) : Calls Try.prog 21 #[v, .int .i64 p] w fun e w' => e = .returned (.tuple #[.agg #[.int .i64 0, .int .u8 0], .bool false]) ∧ Keep [] w w' := by
  have hX := Blk.new w #[.int .i64 0, .int .u8 0] 44
  have KX : Keep [] w (w.alloc (.cells #[.int .i64 0, .int .u8 0] 44)) := (Keep.refl [] w).alloc _
  have HM := Lib.hid (h _ KX)
  have p0 := hX.cell 0 _ rfl
  have p1 := hX.cell 1 _ rfl
  have g0 := hX.free 0
  have g1 := hX.free 1
  have HXX := Lib.hid hX
  have HKX := Lib.hid KX
  clear h hX KX
  go_enter Try.func21, Try.ntmps21
  go_wp2_with fail
  refine HM.out.mono ?_; rintro e w' ⟨rfl, rfl⟩
  go_wp2_with fail
  refine bodyPost_ret (results_cellS rfl _ rfl HXX.out _ Try.underlying44 rfl (by kernel_rfl)) rfl ?_
  exact ⟨rfl, HKX.out⟩
end Go.Proofs.Ytpjebbhjagllgaa
