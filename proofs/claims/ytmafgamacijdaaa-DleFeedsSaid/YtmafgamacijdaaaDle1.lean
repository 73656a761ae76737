/- Numbers of dle's code: a factor, the mask, the window; its machine made, its reads. -/
import Derived.Test.YtmafgamacijdaaaRefDle2
import Derived.Test.YtmafgamacijdaaaHst
import Derived.Laws.BitsLemmas
namespace Go.Proofs.Ytmafgamacijdaaa
set_option linter.unusedVariables false
set_option linter.unusedSimpArgs false
set_option maxRecDepth 100000
open Go.ChangeShapes Go.WideShapes Go.ChangeAt Go.RowKit

theorem four13 {P : Nat → Prop} (p1 : P 1) (p2 : P 2) (p3 : P 3) (p4 : P 4) (f : Nat) (h1 : 1 ≤ f) (h2 : f ≤ 4) : P f := by
  have h : f = 1 ∨ f = 2 ∨ f = 3 ∨ f = 4 := by omega
  rcases h with rfl | rfl | rfl | rfl <;> assumption
theorem wraps_i64_62 (n : Int) (h0 : 0 ≤ n) (h1 : n < 2 ^ 62) : IntKind.i64.wrap n = n := by rw [IntKind.wrap_i64]; omega
/-- a length's bits -/
theorem and13 (f k : Nat) (h1 : 1 ≤ f) (h2 : f ≤ 4) (hk : k < 256) : bits .and .i64 (k : Int) ((low13 f - 1 : Nat) : Int) = ((k % low13 f : Nat) : Int) := by
  have hp : 2 ^ (8 - f) ≤ 2 ^ 7 := Nat.pow_le_pow_right (by decide) (by omega)
  have hp2 : 0 < 2 ^ (8 - f) := Nat.two_pow_pos _
  have h := (bits_nat .i64 62 (by decide) wraps_i64_62 k (2 ^ (8 - f) - 1) (by omega) (by omega)).1
  unfold low13
  rw [h, Nat.and_two_pow_sub_one_eq_mod]
theorem right_bad (w : World) (f : Int) (h : f < 1 ∨ 4 < f) : Calls Try.prog 23 #[.int .i64 f] w fun e w' => e = .returned (.bool false) ∧ w = w' := by
  by_cases h1 : f < 1
  · have t1 : decide (1 ≤ f) = false := by simp; omega
    clear h h1
    go_enter Try.func23, Try.ntmps23
    go_wp2
    go_ret
    exact ⟨rfl, rfl⟩
  · have t1 : decide (1 ≤ f) = true := by simp; omega
    have t2 : decide (f ≤ 4) = false := by simp; omega
    clear h h1
    go_enter Try.func23, Try.ntmps23
    go_wp2
    go_ret
    exact ⟨rfl, rfl⟩
theorem right_c (w : World) (f : Nat) (h1 : 1 ≤ f) (h2 : f ≤ 4) : Calls Try.prog 23 #[.int .i64 (f : Int)] w fun e w' => e = .returned (.bool true) ∧ w = w' := by
  have t1 : decide ((1 : Int) ≤ (f : Int)) = true := by simp; omega
  have t2 : decide ((f : Int) ≤ 4) = true := by simp; omega
  have t3 : decide (1 ≤ f) = true := by simp; omega
  have t4 : decide (f ≤ 4) = true := by simp; omega
  go_enter Try.func23, Try.ntmps23
  go_wp2
  go_ret
  exact ⟨rfl, rfl⟩
theorem shift_c (w : World) (f : Nat) (h1 : 1 ≤ f) (h2 : f ≤ 4) : Calls Try.prog 40 #[.int .i64 (f : Int)] w fun e w' => e = .returned (.int .i64 ((8 - f : Nat) : Int)) ∧ w = w' := by
  revert f
  apply four13 <;>
  · go_enter Try.func40, Try.ntmps40
    go_wp2
    go_ret
    exact ⟨rfl, rfl⟩
theorem mask_c (w : World) (f : Nat) (h1 : 1 ≤ f) (h2 : f ≤ 4) : Calls Try.prog 41 #[.int .i64 (f : Int)] w fun e w' => e = .returned (.int .i64 ((low13 f - 1 : Nat) : Int)) ∧ w = w' := by
  revert f
  have H := Lib.hid (shift_c w)
  apply four13
  all_goals
    first
    | have H1 := Lib.hid (H.out 1 (by decide) (by decide)); have HE : low13 1 - 1 = 127 := rfl; rw [HE]; clear HE
    | have H1 := Lib.hid (H.out 2 (by decide) (by decide)); have HE : low13 2 - 1 = 63 := rfl; rw [HE]; clear HE
    | have H1 := Lib.hid (H.out 3 (by decide) (by decide)); have HE : low13 3 - 1 = 31 := rfl; rw [HE]; clear HE
    | have H1 := Lib.hid (H.out 4 (by decide) (by decide)); have HE : low13 4 - 1 = 15 := rfl; rw [HE]; clear HE
    clear H
    go_enter Try.func41, Try.ntmps41
    go_wp2_with fail
    refine H1.out.mono ?_; rintro e w1 ⟨rfl, rfl⟩
    go_wp2
    go_ret
    exact ⟨rfl, rfl⟩
theorem window_c (w : World) (f : Nat) (h1 : 1 ≤ f) (h2 : f ≤ 4) : Calls Try.prog 25 #[.int .i64 (f : Int)] w fun e w' => e = .returned (.int .i64 ((256 * 2 ^ f : Nat) : Int)) ∧ w = w' := by
  revert f
  apply four13 <;>
  · go_enter Try.func25, Try.ntmps25
    go_wp2
    go_ret
    exact ⟨rfl, rfl⟩
end Go.Proofs.Ytmafgamacijdaaa
