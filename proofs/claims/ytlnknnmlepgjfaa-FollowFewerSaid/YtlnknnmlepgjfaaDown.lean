/- Numbers from the last one down, and cells that a range keeps. No condition beyond each theorem's own premises. -/
import Derived.Test.YtlnknnmlepgjfaaRange
namespace Go.Proofs.Ytlnknnmlepgjfaa
set_option linter.unusedVariables false
set_option linter.unusedSimpArgs false
open Go.ChangeShapes Go.WideShapes Go.ChangeAt Go.RowKit Go.Shelf

theorem KB.cell {S : List Nat} {n₀ : Nat} {A B : World} (h : KB S n₀ A B) {p : Addr} {v : Value} (hc : A.cell? p = some v) (hp : p.block < n₀) (hs : p.block ∉ S) : B.cell? p = some v :=
  (World.cell?_of_block (w := A) (h.block p.block hp hs)).trans hc
def down (L : Nat) : List Nat := (List.range L).reverse
theorem down_at (L k : Nat) (hk : k < L) : (down L)[k]? = some (L - 1 - k) := by
  unfold down
  rw [List.getElem?_reverse (by simpa using hk), List.length_range, List.getElem?_range (by omega)]
theorem down_get (L k x : Nat) (h : (down L)[k]? = some x) : k < L ∧ x = L - 1 - k := by
  have hk : k < L := by have := (List.getElem?_eq_some_iff.1 h).1; simpa [down] using this
  rw [down_at L k hk] at h
  exact ⟨hk, by simpa using h.symm⟩
theorem down_len (L : Nat) : (down L).length = L := by simp [down]
end Go.Proofs.Ytlnknnmlepgjfaa
