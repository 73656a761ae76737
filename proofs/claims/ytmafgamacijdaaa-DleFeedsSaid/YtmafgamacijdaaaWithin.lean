/- Contract of the helper Within of package duffelref01. -/
import Derived.Test.YtmafgamacijdaaaMem
namespace Go.Proofs.Ytmafgamacijdaaa
set_option linter.unusedVariables false
set_option linter.unusedSimpArgs false
open Go.ChangeShapes Go.WideShapes Go.ChangeAt Go.RowKit

theorem within_c (x lo hi : Int) (w : World) (h : lo ≤ hi) : Calls Try.prog 22 #[.int .i64 x, .int .i64 lo, .int .i64 hi] w fun e w' => e = .returned (.int .i64 (max lo (min x hi))) ∧ w = w' := by
  by_cases h1 : x < lo
  · have hf : max lo (min x hi) = lo := by omega
    have HF := Lib.hid hf; clear hf
    go_enter Try.func22, Try.ntmps22
    go_wp2
    go_ret
    exact ⟨by rw [HF.out]; rfl, rfl⟩
  · by_cases h2 : hi < x
    · have hf : max lo (min x hi) = hi := by omega
      have HF := Lib.hid hf; clear hf
      go_enter Try.func22, Try.ntmps22
      go_wp2
      go_ret
      exact ⟨by rw [HF.out]; rfl, rfl⟩
    · have hf : max lo (min x hi) = x := by omega
      have HF := Lib.hid hf; clear hf
      go_enter Try.func22, Try.ntmps22
      go_wp2
      go_ret
      exact ⟨by rw [HF.out]; rfl, rfl⟩
end Go.Proofs.Ytmafgamacijdaaa
