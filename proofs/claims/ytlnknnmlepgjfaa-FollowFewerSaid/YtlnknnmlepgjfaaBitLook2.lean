/- Contracts of Look, Bits, Bit of bitio.Reader, of Open. -/
import Derived.Test.YtlnknnmlepgjfaaBitLook
import Derived.Test.YtlnknnmlepgjfaaAppend
import Derived.Test.YtlnknnmlepgjfaaClone
namespace Go.Proofs.Ytlnknnmlepgjfaa
set_option linter.unusedVariables false
set_option linter.unusedSimpArgs false
open Go.ChangeShapes Go.WideShapes Go.ChangeAt Go.RowKit

theorem mask_u64 (x k n : Nat) (hx : x < 18446744073709551616) (hn : n ≤ 32) : Go.bits .and .u64 ((x : Int) / 2 ^ k) (IntKind.u64.wrap (IntKind.u64.wrap (2 ^ n) - 1)) % 4294967296 = ((x / 2 ^ k % 2 ^ n : Nat) : Int) := by
  have h2 : 2 ^ n ≤ 2 ^ 32 := Nat.pow_le_pow_right (by decide) hn
  have h3 : 0 < 2 ^ n := Nat.two_pow_pos n
  have e1 : IntKind.u64.wrap (IntKind.u64.wrap (2 ^ n) - 1) = ((2 ^ n - 1 : Nat) : Int) := by
    rw [show ((2 : Int) ^ n) = ((2 ^ n : Nat) : Int) by simp, IntKind.wrap_u64, IntKind.wrap_u64]
    generalize 2 ^ n = q at h2 h3
    omega
  have hd : x / 2 ^ k < 18446744073709551616 := Nat.lt_of_le_of_lt (Nat.div_le_self _ _) hx
  rw [e1, show ((x : Int) / 2 ^ k) = ((x / 2 ^ k : Nat) : Int) by simp, u64_and_nat _ _ hd (by omega), Nat.and_two_pow_sub_one_eq_mod]
  have h4 : x / 2 ^ k % 2 ^ n < 2 ^ n := Nat.mod_lt _ h3
  generalize x / 2 ^ k % 2 ^ n = z at h4
  omega
def okN (n : Int) : Prop := 0 ≤ n ∧ n ≤ 32
/-- what Bits(n) answers, and the state behind it -/
def RS.bits (s : RS) (n : Int) : Nat × RS :=
  if n < 0 ∨ 32 < n then (0, s.fail 2)
  else if s.E ≠ 0 then (0, if 0 < n then s.fail 3 else s)
  else if (s.left : Int) < n then (0, s.fail 3)
  else (num s.l s.pos n.toNat, { s with pos := s.pos + n.toNat })
theorem RS.fail_fail (s : RS) (e : Nat) (h : s.E ≠ 0) : s.fail e = s := by unfold RS.fail; rw [if_neg h]
end Go.Proofs.Ytlnknnmlepgjfaa
