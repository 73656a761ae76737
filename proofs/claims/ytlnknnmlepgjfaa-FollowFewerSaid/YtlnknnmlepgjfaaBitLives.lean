/- Contracts of lives and Within, and the walk of the law BitioTurns: it returns true at every input. -/
import Derived.Test.YtlnknnmlepgjfaaBitBytes
import Derived.Test.YtlnknnmlepgjfaaBitTurn
import Derived.Test.YtlnknnmlepgjfaaWithin
import Derived.Test.YtlnknnmlepgjfaaClone
namespace Go.Proofs.Ytlnknnmlepgjfaa
set_option linter.unusedVariables false
set_option linter.unusedSimpArgs false
open Go.ChangeShapes Go.WideShapes Go.ChangeAt Go.RowKit

def RS5 : RS := ⟨[5], 0, true, 0⟩
theorem bits5 : RS5.bits 3 = (5, ⟨[5], 3, true, 0⟩) := rfl
theorem turn_turn (x : Nat) (n : Int) : turn (turn x n) n = x % 2 ^ (max 0 (min n 32)).toNat := by
  unfold turn
  generalize (max 0 (min n 32)).toNat = c
  apply Nat.eq_of_testBit_eq
  intro i
  rw [tr_bit, tr_bit, Nat.testBit_mod_two_pow]
  by_cases h : i < c
  · have : c - 1 - i < c := by omega
    simp [h, this]
    congr 1; omega
  · simp [h]
theorem turn_lt (x : Nat) (n : Int) : turn x n < 4294967296 := by
  unfold turn
  have h := tr_lt (max 0 (min n 32)).toNat x
  exact Nat.lt_of_lt_of_le h (Nat.pow_le_pow_right (n := 2) (j := 32) (by decide) (by omega))
theorem mask_low (x c : Nat) (hx : x < 4294967296) (hc : c ≤ 32) : Go.bits .and .u64 (x : Int) (IntKind.u64.wrap (IntKind.u64.wrap (2 ^ c) - 1)) = ((x % 2 ^ c : Nat) : Int) := by
  have h2 : 2 ^ c ≤ 2 ^ 32 := Nat.pow_le_pow_right (by decide) hc
  have h3 : 0 < 2 ^ c := Nat.two_pow_pos c
  have e1 : IntKind.u64.wrap (IntKind.u64.wrap (2 ^ c) - 1) = ((2 ^ c - 1 : Nat) : Int) := by
    rw [show ((2 : Int) ^ c) = ((2 ^ c : Nat) : Int) by simp, IntKind.wrap_u64, IntKind.wrap_u64]
    generalize 2 ^ c = q at h2 h3
    omega
  rw [e1, u64_and_nat _ _ (by omega) (by omega), Nat.and_two_pow_sub_one_eq_mod]
end Go.Proofs.Ytlnknnmlepgjfaa
