/- A row of bytes that make made. No condition beyond each theorem's own premises. -/
import Derived.Test.YtmafgamacijdaaaMem
import Derived.Laws.MakeOwn
import Derived.Laws.OwnMore
namespace Go.Proofs.Ytmafgamacijdaaa
set_option linter.unusedVariables false
set_option linter.unusedSimpArgs false
open Go.ChangeShapes Go.WideShapes Go.ChangeAt Go.RowKit

theorem OwnB.madeN (w : World) (n : Nat) (hn : n ≤ maxLen) : OwnB (w.alloc (.cells (madeCells #[.int .u8 0] n) 5)) (.slice (some ⟨w.heap.size, 0, none⟩) n n) (List.replicate n 0) := by
  have h := World.ownsRow_lit (base := 0) (e := 5) (size := 1) w (madeCells #[.int .u8 0] n) n (Nat.zero_le _) hn (by simp [size_madeCells])
  rw [toList_madeCells_one] at h
  unfold OwnB
  rw [List.length_replicate]
  simpa [ints8] using h
theorem run_make_bytes (w : World) (n c : Nat) (hn : n ≤ c) (hc : c ≤ 140737488355328) : (Instr.makeSlice 22 (.int .i64 (n : Int)) (.int .i64 (c : Int))).run Try.prog w = .ok (.slice (some ⟨w.heap.size, 0, none⟩) n c) (w.alloc (.cells (madeCells #[.int .u8 0] c) 5)) := by
  obtain ⟨i, hi, hz⟩ := Option.map_eq_some_iff.1 info8
  simp only [Prod.mk.injEq] at hz
  have := run_make (P := Try.prog) (w := w) 22 5 i (.int .u8 0) Try.underlying22 hi hz.1 .i64 .i64 n c (by omega) (by omega) (by rw [hz.2.2]; omega) (by omega)
  rw [this, hz.2.1]
  simp [Value.cells]
/-- the first k bytes are c -/
def rep (n k : Nat) (c : UInt8) : List UInt8 := List.replicate k c ++ List.replicate (n - k) 0
theorem rep_len (n k : Nat) (c : UInt8) (h : k ≤ n) : (rep n k c).length = n := by simp [rep]; omega
theorem rep_set (n k : Nat) (c : UInt8) (h : k < n) : (rep n k c).set k c = rep n (k + 1) c := by
  unfold rep
  obtain ⟨m, hm⟩ : ∃ m, n - k = m + 1 := ⟨n - k - 1, by omega⟩
  rw [hm, show n - (k + 1) = m by omega, List.replicate_succ, List.set_append_right _ _ (by simp), List.length_replicate, Nat.sub_self, List.set_cons_zero, List.replicate_succ']
  simp
theorem rep_all (n : Nat) (c : UInt8) : rep n n c = List.replicate n c := by simp [rep]
/-- a literal of one byte, of the call's own -/
theorem OwnB.lit1 (w : World) (x : UInt8) : OwnB (w.alloc (.cells #[.int .u8 (x.toNat)] 5)) (.slice (some ⟨w.heap.size, 0, none⟩) 1 1) [x] :=
  World.ownsRow_lit (base := 0) (e := 5) (size := 1) w #[.int .u8 (x.toNat)] 1 (Nat.zero_le _) (by simp [maxLen]) (by simp)
end Go.Proofs.Ytmafgamacijdaaa
