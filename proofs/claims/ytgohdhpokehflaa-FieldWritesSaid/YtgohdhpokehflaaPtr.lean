/- Lemmas: a pointer held against itself. No condition beyond each theorem's own premises. -/
import Derived.Test.YtgohdhpokehflaaMem
import Derived.ChangeKeysEq
namespace Go.Proofs.Ytgohdhpokehflaa
set_option linter.unusedVariables false
set_option linter.unusedSimpArgs false
open Go.ChangeShapes Go.WideShapes Go.ChangeAt Go.RowKit

theorem run_equalIn_same {P : Program} (d : Nat) (w : World) (t e : TypeId) (i : TypeInfo) (a : Addr) (hu : P.underlying t = some (.pointer e)) (hi : P.info? e = some i) : (Op.equalIn (d + 1) t (.pointer (some a)) (.pointer (some a))).run P w = .ok true w := by
  simp only [Op.equalIn, Sem.run_bind, run_underlying hu, Result.andThen_ok, run_sizeOf w hi]
  by_cases h : P.cellsOf e = 0
  · simp [h]
  · simp [h, sameAddr]
theorem run_equal_same {P : Program} (w : World) (t e : TypeId) (i : TypeInfo) (a : Addr) (hu : P.underlying t = some (.pointer e)) (hi : P.info? e = some i) : (Op.equal t (.pointer (some a)) (.pointer (some a))).run P w = .ok true w := run_equalIn_same 9999 w t e i a hu hi
theorem run_neq_same {P : Program} (w : World) (t e : TypeId) (i : TypeInfo) (a : Addr) (hu : P.underlying t = some (.pointer e)) (hi : P.info? e = some i) : (binOp .neq t (.pointer (some a)) (.pointer (some a))).run P w = .ok (.bool false) w := by
  simp only [binOp]
  simp [run_equal_same w t e i a hu hi]
theorem run_eql_same {P : Program} (w : World) (t e : TypeId) (i : TypeInfo) (a : Addr) (hu : P.underlying t = some (.pointer e)) (hi : P.info? e = some i) : (binOp .eql t (.pointer (some a)) (.pointer (some a))).run P w = .ok (.bool true) w := by
  simp only [binOp]
  simp [run_equal_same w t e i a hu hi]
end Go.Proofs.Ytgohdhpokehflaa
