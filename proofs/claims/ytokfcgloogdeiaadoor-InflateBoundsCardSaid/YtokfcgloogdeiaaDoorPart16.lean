/- Texts put together: RefDyn1 -/
import Derived.Test.YtokfcgloogdeiaaDoorPart4
import Derived.Test.YtokfcgloogdeiaaDoorPart3
import Derived.Test.YtokfcgloogdeiaaDoorPart6
import Derived.Test.YtokfcgloogdeiaaDoorPart1
namespace Go.Proofs.YtokfcgloogdeiaaDoor
set_option linter.unusedVariables false
set_option linter.unusedSimpArgs false
set_option maxRecDepth 100000
open Go.ChangeShapes Go.WideShapes Go.ChangeAt Go.RowKit

theorem lex_le (c : Nat) (h : c ≤ 285) : lex c ≤ 6 := by unfold lex; split <;> omega
theorem dex_le (c : Nat) (h : c ≤ 31) : dex c ≤ 14 := by unfold dex; split <;> omega
theorem find_some {m : Nat} {p : Nat → Bool} {k : Nat} (hk : k < m) (hp : p k = true) (h : ∀ i, i < k → p i = false) : (List.range m).find? p = some k := by
  rw [List.find?_range_eq_some]
  exact ⟨hp, by simpa using hk, fun j hj => by rw [h j hj]; rfl⟩
theorem find_none {m : Nat} {p : Nat → Bool} (h : ∀ i, i < m → p i = false) : (List.range m).find? p = none := by
  rw [List.find?_eq_none]
  intro x hx
  rw [h x (by simpa using hx)]; simp
theorem len_ok (k : Nat) (large : Bool) (hk : k < 29) : ∃ b e, lenOf ((257 + k : Nat) : Int) large = (b, e, true) ∧ b ≤ 258 ∧ e ≤ 16 := by
  have h : ∀ (k : Fin 29), (lenOf ((257 + k.val : Nat) : Int) large).1 ≤ 258 ∧ (lenOf ((257 + k.val : Nat) : Int) large).2.1 ≤ 16 ∧ (lenOf ((257 + k.val : Nat) : Int) large).2.2 = true := by
    cases large <;> decide +kernel
  have := h ⟨k, hk⟩
  exact ⟨_, _, by rw [← this.2.2], this.1, this.2.1⟩
theorem dst_le (k : Nat) (large : Bool) (hk : k < 32) : ∃ b e ok, dstOf ((k : Nat) : Int) large = (b, e, ok) ∧ b ≤ 49153 ∧ e ≤ 14 := by
  have h : ∀ (k : Fin 32), (dstOf ((k.val : Nat) : Int) large).1 ≤ 49153 ∧ (dstOf ((k.val : Nat) : Int) large).2.1 ≤ 14 := by
    cases large <;> decide +kernel
  have := h ⟨k, hk⟩
  exact ⟨_, _, _, rfl, this.1, this.2⟩
end Go.Proofs.YtokfcgloogdeiaaDoor
