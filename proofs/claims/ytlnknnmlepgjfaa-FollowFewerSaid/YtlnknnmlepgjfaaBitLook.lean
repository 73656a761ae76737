/- Contract of the method window of bitio.Reader. -/
import Derived.Test.YtlnknnmlepgjfaaBitRd
import Derived.Test.YtlnknnmlepgjfaaBitMath
namespace Go.Proofs.Ytlnknnmlepgjfaa
set_option linter.unusedVariables false
set_option linter.unusedSimpArgs false
open Go.ChangeShapes Go.WideShapes Go.ChangeAt Go.RowKit

theorem byteAt_get (l : List UInt8) (i : Nat) (hi : i < l.length) : (l[i].toNat) = byteAt l i := by
  unfold byteAt; rw [List.getD_eq_getElem?_getD, List.getElem?_eq_getElem hi]; rfl

theorem or_step (l : List UInt8) (p k : Nat) (hk : k < 8) (K : Int) (hK : K = 2 ^ (8 * k)) : Go.bits .or .u64 ((num l (8 * p) (8 * k) : Nat) : Int) ((byteAt l (p + k) : Nat) * K) = ((num l (8 * p) (8 * (k + 1)) : Nat) : Int) := by
  subst hK
  have h1 := num_lt l (8 * p) (8 * k)
  have hb := byteAt_lt l (p + k)
  have h3 : 2 ^ (8 * k) ≤ 2 ^ 56 := Nat.pow_le_pow_right (by decide) (by omega)
  have h4 : byteAt l (p + k) * 2 ^ (8 * k) < 18446744073709551616 := by
    have : byteAt l (p + k) * 2 ^ (8 * k) ≤ 255 * 2 ^ 56 := Nat.mul_le_mul (by omega) h3
    omega
  have h5 : num l (8 * p) (8 * k) < 18446744073709551616 := by omega
  rw [show ((byteAt l (p + k) : Nat) : Int) * 2 ^ (8 * k) = ((byteAt l (p + k) * 2 ^ (8 * k) : Nat) : Int) by simp]
  rw [u64_or_nat _ _ h5 h4, Nat.or_comm, nat_join (8 * k) _ _ (by simp) h1, num_bytes, Nat.mul_comm, Nat.add_comm]
theorem or_stepw (l : List UInt8) (p k n : Nat) (hk : k < 8) (hn : n = num l (8 * p) (8 * k)) : Go.bits .or .u64 (n : Int) (IntKind.u64.wrap ((byteAt l (p + k) : Nat) * 2 ^ (8 * k))) = ((num l (8 * p) (8 * (k + 1)) : Nat) : Int) := by
  have hb := byteAt_lt l (p + k)
  have h3 : 2 ^ (8 * k) ≤ 2 ^ 56 := Nat.pow_le_pow_right (by decide) (by omega)
  have h4 : byteAt l (p + k) * 2 ^ (8 * k) < 18446744073709551616 := by
    have : byteAt l (p + k) * 2 ^ (8 * k) ≤ 255 * 2 ^ 56 := Nat.mul_le_mul (by omega) h3
    omega
  have e : IntKind.u64.wrap (((byteAt l (p + k) : Nat) : Int) * 2 ^ (8 * k)) = ((byteAt l (p + k) : Nat) : Int) * 2 ^ (8 * k) := by
    rw [show ((byteAt l (p + k) : Nat) : Int) * 2 ^ (8 * k) = ((byteAt l (p + k) * 2 ^ (8 * k) : Nat) : Int) by simp]
    simp only [IntKind.wrap, IntKind.bits, IntKind.signed]
    generalize byteAt l (p + k) * 2 ^ (8 * k) = q at h4
    simp; omega
  rw [e, hn]
  exact or_step l p k hk _ rfl
theorem win8 (l : List UInt8) (p : Nat) : Go.bits .or .u64 (Go.bits .or .u64 (Go.bits .or .u64 (Go.bits .or .u64 (Go.bits .or .u64 (Go.bits .or .u64 (Go.bits .or .u64 (byteAt l p) ((byteAt l (p + 1)) * 256)) ((byteAt l (p + 2)) * 65536)) ((byteAt l (p + 3)) * 16777216))
    ((byteAt l (p + 4)) * 4294967296)) ((byteAt l (p + 5)) * 1099511627776)) ((byteAt l (p + 6)) * 281474976710656)) ((byteAt l (p + 7)) * 72057594037927936) = ((num l (8 * p) 64 : Nat) : Int) := by
  have h0 := num_byte l p
  have e := or_step l p 1 (by decide) 256 rfl
  rw [← h0, show (8 : Nat) = 8 * 1 from rfl, e, or_step l p 2 (by decide) 65536 rfl, or_step l p 3 (by decide) 16777216 rfl, or_step l p 4 (by decide) 4294967296 rfl, or_step l p 5 (by decide) 1099511627776 rfl,
    or_step l p 6 (by decide) 281474976710656 rfl, or_step l p 7 (by decide) 72057594037927936 rfl]

end Go.Proofs.Ytlnknnmlepgjfaa
