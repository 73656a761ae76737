/- Contract of math/bits.Len at numbers of up to five bits. No condition beyond each theorem's own premises. -/
import Derived.Test.YtlnknnmlepgjfaaMem
namespace Go.Proofs.Ytlnknnmlepgjfaa
set_option linter.unusedVariables false
set_option linter.unusedSimpArgs false
set_option maxRecDepth 100000
open Go.ChangeShapes Go.WideShapes Go.ChangeAt Go.RowKit

def bitLen : Nat → Nat
  | 0 => 0
  | k + 1 => if k + 1 < 2 then 1 else if k + 1 < 4 then 2 else if k + 1 < 8 then 3 else if k + 1 < 16 then 4 else 5
set_option maxHeartbeats 4000000 in
theorem bitslen64_c (w : World) (k : Nat) (hk : k < 32) : Calls Try.prog 40 #[.int .u64 k] w fun e w' => e = .returned (.int .i64 (bitLen k)) ∧ w' = w := by
  have h : k = 0 ∨ k = 1 ∨ k = 2 ∨ k = 3 ∨ k = 4 ∨ k = 5 ∨ k = 6 ∨ k = 7 ∨ k = 8 ∨ k = 9 ∨ k = 10 ∨ k = 11 ∨ k = 12 ∨ k = 13 ∨ k = 14 ∨ k = 15 ∨ k = 16 ∨ k = 17 ∨ k = 18 ∨ k = 19 ∨ k = 20 ∨ k = 21 ∨ k = 22 ∨ k = 23 ∨ k = 24 ∨ k = 25 ∨ k = 26 ∨ k = 27 ∨ k = 28 ∨ k = 29 ∨ k = 30 ∨ k = 31 := by omega
  rcases h with rfl | rfl | rfl | rfl | rfl | rfl | rfl | rfl | rfl | rfl | rfl | rfl | rfl | rfl | rfl | rfl | rfl | rfl | rfl | rfl | rfl | rfl | rfl | rfl | rfl | rfl | rfl | rfl | rfl | rfl | rfl | rfl
  all_goals (go_enter Try.func40, Try.ntmps40; go_wp2; go_ret; exact ⟨by kernel_rfl, rfl⟩)
theorem bitslen_c (w : World) (k : Nat) (hk : k < 32) : Calls Try.prog 32 #[.int .u64 k] w fun e w' => e = .returned (.int .i64 (bitLen k)) ∧ w' = w := by
  have H := Lib.hid (bitslen64_c w k hk)
  have r : IntKind.u64.wrap (k : Int) = k := by simp [IntKind.wrap, IntKind.bits, IntKind.signed]; omega
  go_enter Try.func32, Try.ntmps32
  go_wp2_with fail
  refine H.out.mono ?_; rintro e w' ⟨rfl, rfl⟩
  go_wp2_with fail
  go_ret
  exact ⟨rfl, rfl⟩
end Go.Proofs.Ytlnknnmlepgjfaa
