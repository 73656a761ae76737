/- Lemmas: a writer of the program's and one of the document's side by side. -/
import Derived.Test.YtejbgoepaleakaaRefWr
import Derived.Test.YtejbgoepaleakaaBitLaw4
import Derived.Test.YtejbgoepaleakaaBitLaw1
namespace Go.Proofs.Ytejbgoepaleakaa
set_option linter.unusedVariables false
set_option linter.unusedSimpArgs false
open Go.ChangeShapes Go.WideShapes Go.ChangeAt Go.RowKit

/-- a writer of the program's and one of the document's, side by side -/
def BWv (W w : World) (r q : Nat) (v vx : Value) (b1 b2 : List Bool) : Prop := Wr w r v b1 ∧ Rw w q vx b2 ∧ Keep [] W w ∧ r ≠ q ∧ W.heap.size ≤ r ∧ W.heap.size ≤ q ∧
  (∀ b, v.ownBlock = some b → b ≠ q ∧ vx.ownBlock ≠ some b ∧ W.heap.size ≤ b ∧ b < w.heap.size) ∧ (∀ b, vx.ownBlock = some b → b ≠ r ∧ W.heap.size ≤ b ∧ b < w.heap.size)
def BW (W w : World) (r q : Nat) (b1 b2 : List Bool) : Prop := ∃ v vx, BWv W w r q v vx b1 b2
theorem Wr.own_lt {w : World} {r : Nat} {v : Value} {bs : List Bool} (h : Wr w r v bs) : r < w.heap.size ∧ ∀ b, v.ownBlock = some b → b < w.heap.size := by
  obtain ⟨l, x, n, h1, _⟩ := h; exact ⟨h1.1.lt, h1.2.1.lt⟩
theorem BWv.step1 {W w w' : World} {r q : Nat} {v vx v' : Value} {b1 b2 b1' : List Bool} (h : BWv W w r q v vx b1 b2) (hw : Wr w' r v' b1') (hk : Keep (r :: v.ownBlock.toList) w w') (hv : ∀ b, v'.ownBlock = some b → v.ownBlock = some b ∨ w.heap.size ≤ b) : BWv W w' r q v' vx b1' b2 := by
  obtain ⟨h1, h2, h3, h4, h5, h6, h7, h8⟩ := h
  have hlt := hw.own_lt
  refine ⟨hw, h2.keep hk ?_ ?_, h3.trans hk ?_, h4, h5, h6, fun b hb => ?_, fun b hb => ?_⟩
  · intro hm; simp at hm
    rcases hm with hm | hm
    · exact h4 hm.symm
    · exact (h7 q hm).1 rfl
  · intro b hb hm; simp at hm
    rcases hm with hm | hm
    · exact (h8 b hb).1 hm
    · exact (h7 b hm).2.1 hb
  · intro b hb; simp at hb; right
    rcases hb with rfl | hb
    · exact h5
    · exact (h7 b hb).2.2.1
  · have hlb := hlt.2 b hb
    rcases hv b hb with h | h
    · have := h7 b h; exact ⟨this.1, this.2.1, this.2.2.1, hlb⟩
    · have hq := h2.1.lt
      have := h3.size
      exact ⟨by omega, fun e => by have := (h8 b e).2.2; omega, by omega, hlb⟩
  · have := h8 b hb; have := hk.size; exact ⟨by omega, by omega, by omega⟩
theorem BWv.step2 {W w w' : World} {r q : Nat} {v vx : Value} {b1 b2 b2' : List Bool} (h : BWv W w r q v vx b1 b2) (hr : RwTo w w' q vx b2') : ∃ vx', BWv W w' r q v vx' b1 b2' ∧ Keep (q :: vx.ownBlock.toList) w w' ∧ ∀ b, vx'.ownBlock = some b → vx.ownBlock = some b ∨ w.heap.size ≤ b := by
  obtain ⟨h1, h2, h3, h4, h5, h6, h7, h8⟩ := h
  obtain ⟨vx', hx, hk, hv⟩ := hr
  have hlt := h1.own_lt
  have hxlt : ∀ b, vx'.ownBlock = some b → b < w'.heap.size := hx.2.1.lt
  refine ⟨vx', ⟨h1.keep hk ?_ ?_, hx, h3.trans hk ?_, h4, h5, h6, fun b hb => ?_, fun b hb => ?_⟩, hk, hv⟩
  · intro hm; simp at hm
    rcases hm with hm | hm
    · exact h4 hm
    · exact (h8 r hm).1 rfl
  · intro b hb hm; simp at hm
    rcases hm with hm | hm
    · exact (h7 b hb).1 hm
    · exact (h7 b hb).2.1 hm
  · intro b hb; simp at hb; right
    rcases hb with rfl | hb
    · exact h6
    · exact (h8 b hb).2.1
  · have h9 := h7 b hb; have := hk.size
    refine ⟨h9.1, fun e => ?_, h9.2.2.1, by omega⟩
    rcases hv b e with h | h
    · exact h9.2.1 h
    · omega
  · have := hxlt b hb
    rcases hv b hb with h | h
    · have := h8 b h; exact ⟨this.1, this.2.1, by omega⟩
    · have := h3.size; exact ⟨by omega, by omega, by omega⟩
theorem BWv.keep {W w w' : World} {r q : Nat} {v vx : Value} {b1 b2 : List Bool} (h : BWv W w r q v vx b1 b2) (hk : Keep [] w w') : BWv W w' r q v vx b1 b2 := by
  obtain ⟨h1, h2, h3, h4, h5, h6, h7, h8⟩ := h
  have := hk.size
  exact ⟨h1.keep hk (by simp) (by simp), h2.keep hk (by simp) (by simp), h3.trans hk (by simp), h4, h5, h6, fun b hb => by have := h7 b hb; exact ⟨this.1, this.2.1, this.2.2.1, by omega⟩, fun b hb => by have := h8 b hb; exact ⟨this.1, this.2.1, by omega⟩⟩
theorem BWv.keepB {W w w' : World} {r q g : Nat} {v vx : Value} {b1 b2 : List Bool} (h : BWv W w r q v vx b1 b2) (hk : Keep [g] w w') (hg : g ≠ r ∧ g ≠ q ∧ v.ownBlock ≠ some g ∧ vx.ownBlock ≠ some g ∧ W.heap.size ≤ g) : BWv W w' r q v vx b1 b2 := by
  obtain ⟨h1, h2, h3, h4, h5, h6, h7, h8⟩ := h
  have := hk.size
  exact ⟨h1.keep hk (by simpa using Ne.symm hg.1) (fun b hb hm => hg.2.2.1 (by simp at hm; rw [← hm]; exact hb)), h2.keep hk (by simpa using Ne.symm hg.2.1) (fun b hb hm => hg.2.2.2.1 (by simp at hm; rw [← hm]; exact hb)), h3.trans hk (by simpa using hg.2.2.2.2), h4, h5, h6,
    fun b hb => by have := h7 b hb; exact ⟨this.1, this.2.1, this.2.2.1, by omega⟩, fun b hb => by have := h8 b hb; exact ⟨this.1, this.2.1, by omega⟩⟩
end Go.Proofs.Ytejbgoepaleakaa
