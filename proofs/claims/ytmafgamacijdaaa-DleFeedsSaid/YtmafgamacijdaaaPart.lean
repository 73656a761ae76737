/- Lemmas: pieces of a slice of bytes, literals. No condition beyond each theorem's own premises. -/
import Derived.Test.YtmafgamacijdaaaAppend
namespace Go.Proofs.Ytmafgamacijdaaa
set_option linter.unusedVariables false
set_option linter.unusedSimpArgs false
open Go.ChangeShapes Go.WideShapes Go.ChangeAt Go.RowKit

theorem Bs.part {w : World} {l : List UInt8} {g cap : Nat} (hc : l.length ≤ cap) (hm : cap ≤ maxLen) (hcell : ∀ i (hi : i < l.length), w.cell? ⟨g, i, none⟩ = some (.int .u8 (l[i].toNat))) (p n : Nat) (h : p + n ≤ l.length) (hp : p < cap) :
    Bs w (.slice (some ⟨g, p, none⟩) n (cap - p)) ((l.drop p).take n) := by
  have e : ((l.drop p).take n).length = n := by simp; omega
  refine ⟨some ⟨g, p, none⟩, cap - p, by rw [e], by omega, by omega, (fun h => nomatch h), fun x hx i hi => ?_⟩
  obtain rfl : (⟨g, p, none⟩ : Addr) = x := by simpa using hx
  rw [e] at hi
  rw [show (⟨g, p, none⟩ : Addr).add i = ⟨g, p + i, none⟩ by unfold Addr.add; split <;> simp_all, hcell (p + i) (by omega)]
  simp
/-- a piece whose capacity is its length -/
theorem Bs.part3 {w : World} {l : List UInt8} {g cap : Nat} (hc : l.length ≤ cap) (hm : cap ≤ maxLen) (hcell : ∀ i (hi : i < l.length), w.cell? ⟨g, i, none⟩ = some (.int .u8 (l[i].toNat))) (p n : Nat) (h : p + n ≤ l.length) :
    Bs w (.slice (some ⟨g, p, none⟩) n n) ((l.drop p).take n) := by
  have e : ((l.drop p).take n).length = n := by simp; omega
  refine ⟨some ⟨g, p, none⟩, n, by rw [e], by omega, by omega, (fun h => nomatch h), fun x hx i hi => ?_⟩
  obtain rfl : (⟨g, p, none⟩ : Addr) = x := by simpa using hx
  rw [e] at hi
  rw [show (⟨g, p, none⟩ : Addr).add i = ⟨g, p + i, none⟩ by unfold Addr.add; split <;> simp_all, hcell (p + i) (by omega)]
  simp
theorem Bs.none_of_len {w : World} (a : Option Addr) (h : a ≠ none) : Bs w (.slice a 0 0) [] :=
  ⟨a, 0, rfl, by simp, by simp, fun _ => rfl, fun _ _ i hi => by simp at hi⟩

theorem Bs.new1 (w : World) (c : UInt8) : Bs (w.alloc (.cells #[.int .u8 (c.toNat)] 5)) (.slice (some ⟨w.heap.size, 0, none⟩) 1 1) [c] := by
  refine ⟨some ⟨w.heap.size, 0, none⟩, 1, rfl, by simp, by simp [maxLen], (fun h => nomatch h), fun x hx i hi => ?_⟩
  obtain rfl : (⟨w.heap.size, 0, none⟩ : Addr) = x := by simpa using hx
  obtain rfl : i = 0 := by simpa using hi
  exact (Blk.new w #[.int .u8 (c.toNat)] 5).cell 0 _ rfl
/-- a literal of bytes -/
theorem Bs.lit (w : World) (l : List UInt8) (cs : Array Value) (n : Nat) (hc : cs.toList = ints8 l) (hn : l.length = n) (hl : n ≤ maxLen) : Bs (w.alloc (.cells cs 5)) (.slice (some ⟨w.heap.size, 0, none⟩) n n) l := by
  subst hn
  refine ⟨some ⟨w.heap.size, 0, none⟩, l.length, rfl, Nat.le_refl _, hl, (fun h => nomatch h), fun x hx i hi => ?_⟩
  obtain rfl : (⟨w.heap.size, 0, none⟩ : Addr) = x := by simpa using hx
  rw [show (⟨w.heap.size, 0, none⟩ : Addr).add i = ⟨w.heap.size, i, none⟩ by unfold Addr.add; split <;> simp_all]
  refine (Blk.new w cs 5).cell i _ ?_
  rw [← Array.getElem?_toList, hc]
  simp [ints8, hi]
/-- a text written out, as bytes -/
theorem Bs.litF (w : World) (l : List UInt8) (cs : Array Value) (n : Nat) (fr : Nat × Nat) (hc : cs.toList = ints8 l) (hn : l.length = n) (hl : n ≤ maxLen) : Bs (w.alloc (.cells cs 5 fr)) (.slice (some ⟨w.heap.size, 0, none⟩) n n) l := by
  subst hn
  refine ⟨some ⟨w.heap.size, 0, none⟩, l.length, rfl, Nat.le_refl _, hl, (fun h => nomatch h), fun x hx i hi => ?_⟩
  obtain rfl : (⟨w.heap.size, 0, none⟩ : Addr) = x := by simpa using hx
  rw [show (⟨w.heap.size, 0, none⟩ : Addr).add i = ⟨w.heap.size, i, none⟩ by unfold Addr.add; split <;> simp_all]
  rw [cell_of_row _ w.heap.size i cs _ fr (heap_alloc_new w _), ← Array.getElem?_toList, hc]
  simp [ints8, hi]
end Go.Proofs.Ytmafgamacijdaaa
