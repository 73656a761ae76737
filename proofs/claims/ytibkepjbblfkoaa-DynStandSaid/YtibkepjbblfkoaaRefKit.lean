/- Contracts of the helpers Cut, Copy and Same of package duffelref01. No condition beyond each theorem's own premises. -/
import Derived.Test.YtibkepjbblfkoaaAppend
/-! The document's small helpers: rows of bytes held against one another, copied, cut. -/
namespace Go.Proofs.Ytibkepjbblfkoaa
set_option linter.unusedVariables false
set_option linter.unusedSimpArgs false
open Go.ChangeShapes Go.WideShapes Go.ChangeAt Go.RowKit

theorem Bs.cases {w : World} {v : Value} {l : List UInt8} (h : Bs w v l) : (l = [] ∧ ∃ a cap, v = .slice a 0 cap ∧ cap ≤ maxLen ∧ (a = none → cap = 0)) ∨
    (0 < l.length ∧ ∃ b off cap, v = .slice (some ⟨b, off, none⟩) l.length cap ∧ l.length ≤ cap ∧ cap ≤ maxLen ∧ b < w.heap.size ∧ ∀ i (hi : i < l.length), w.cell? ⟨b, off + i, none⟩ = some (.int .u8 (l[i].toNat))) := by
  obtain ⟨a, cap, rfl, h1, h2, h3, h4⟩ := h
  by_cases hl : l.length = 0
  · left; exact ⟨List.eq_nil_of_length_eq_zero hl, a, cap, by rw [hl], h2, h3⟩
  · right
    cases a with
    | none => have := h3 rfl; omega
    | some x =>
      obtain ⟨b, off, spot⟩ := x
      have hc := h4 _ rfl 0 (by omega)
      have hspot : spot = none := by simpa [Addr.add] using World.cell?_spot hc
      subst hspot
      refine ⟨by omega, b, off, cap, rfl, h1, h2, World.block_lt_of_cell? w _ hc, fun i hi => ?_⟩
      rw [← h4 _ rfl i hi]
      unfold Addr.add; split <;> simp_all
theorem Bs.shape {w : World} {v : Value} {l : List UInt8} (h : Bs w v l) : ∃ a cap, v = .slice a l.length cap ∧ l.length ≤ cap ∧ cap ≤ maxLen := by
  obtain ⟨a, cap, hv, h1, h2, _⟩ := h; exact ⟨a, cap, hv, h1, h2⟩

theorem Bs.lt {w : World} {v : Value} {l : List UInt8} (h : Bs w v l) (hl : l ≠ []) : ∀ b, v.ownBlock = some b → b < w.heap.size := by
  intro b hb
  rcases h.cases with ⟨h, _⟩ | ⟨_, b2, off, cap, rfl, _, _, hlt, _⟩
  · exact absurd h hl
  · simp only [Value.ownBlock, Option.some.injEq] at hb; omega
theorem take_succ_eq {l l' : List UInt8} {k : Nat} (h : k < l.length) (h' : k < l'.length) : (l.take (k + 1) = l'.take (k + 1)) ↔ (l.take k = l'.take k ∧ l[k] = l'[k]) := by
  rw [List.take_succ_eq_append_getElem h, List.take_succ_eq_append_getElem h']
  constructor
  · intro e
    have := List.append_inj e (by simp; omega)
    exact ⟨this.1, by simpa using this.2⟩
  · rintro ⟨e1, e2⟩; rw [e1, e2]
theorem Bs.spot {w : World} {v : Value} {l : List UInt8} (h : Bs w v l) (i : Nat) (hi : i < l.length) : ∃ b off cap, v = .slice (some ⟨b, off, none⟩) l.length cap ∧ w.cell? ⟨b, off + i, none⟩ = some (.int .u8 (l[i].toNat)) := by
  rcases h.cases with ⟨rfl, _⟩ | ⟨hp, b, off, cap, rfl, h1, h2, hb, hc⟩
  · simp at hi
  · exact ⟨b, off, cap, rfl, hc i hi⟩
end Go.Proofs.Ytibkepjbblfkoaa
