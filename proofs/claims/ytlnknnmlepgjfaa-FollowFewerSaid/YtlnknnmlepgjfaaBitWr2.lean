/- Contracts of Align, PutBytes, Bytes of bitio.Writer. -/
import Derived.Test.YtlnknnmlepgjfaaBitWr
namespace Go.Proofs.Ytlnknnmlepgjfaa
set_option linter.unusedVariables false
set_option linter.unusedSimpArgs false
set_option maxRecDepth 100000
open Go.ChangeShapes Go.WideShapes Go.ChangeAt Go.RowKit

theorem pad8_of (l : List UInt8) (x h : Nat) (h8 : h < 8) (h0 : 0 < h) : pad8 (toBits l ++ bitsOf x h) = (toBits l ++ bitsOf x h) ++ bitsOf 0 (cln (8 - h)) := by
  unfold pad8
  rw [bitsOf_zero]
  congr 2
  unfold cln
  simp only [List.length_append, toBits_length, bitsOf_length]
  omega
theorem Bs.addr_any {w : World} {a : Option Addr} {n cap : Nat} (h : Bs w (.slice a n cap) []) : n = 0 := by
  obtain ⟨_, _, h, _⟩ := h; simp only [Value.slice.injEq] at h; simpa using h.2.1
end Go.Proofs.Ytlnknnmlepgjfaa
