/- Lemmas: rows of numbers of a call's own: their cells, stores into them, exchanges. No condition beyond each theorem's own premises. -/
import Derived.Test.YtblogjpoijfpbaaInts
import Derived.Laws.OwnMore
namespace Go.Proofs.Ytblogjpoijfpbaa
set_option linter.unusedVariables false
set_option linter.unusedSimpArgs false
open Go.ChangeShapes Go.WideShapes Go.ChangeAt Go.RowKit

theorem ints64_get (l : List Int) (j : Nat) (h : j < l.length) : (ints64 l)[j]? = some (.int .i64 (zn l j)) := by simp [ints64, zn, h]
section
variable {w : World} {g n cap : Nat} {l : List Int}
theorem OwnI.sl (h : OwnI w (.slice (some ⟨g, 0, none⟩) n cap) l) : n = l.length ∧ l.length ≤ cap ∧ cap ≤ 9223372036854775807 ∧ g < w.heap.size := by
  have hn : n = l.length := by
    rcases h.1.2 with ⟨h', _⟩ | ⟨g', cap', cur, h', _⟩
    · simp at h'
    · simp only [Value.slice.injEq] at h'; exact h'.2.1
  obtain ⟨a, c, hv, h1, h2, _⟩ := h.is
  simp only [Value.slice.injEq] at hv
  obtain ⟨_, _, rfl⟩ := hv
  unfold maxLen at h2
  exact ⟨hn, h1, by omega, h.lt g rfl⟩
theorem OwnI.cell (h : OwnI w (.slice (some ⟨g, 0, none⟩) n cap) l) (j : Nat) (hj : j < l.length) : w.cell? ⟨g, j, none⟩ = some (.int .i64 (zn l j)) := by
  have hn := h.sl.1
  subst hn
  rw [h.1.cellAt j (by omega), ints64_get l j hj]
theorem OwnI.free (h : OwnI w (.slice (some ⟨g, 0, none⟩) n cap) l) (j : Nat) : w.frozen? ⟨g, j, none⟩ = false := by
  have hn := h.sl.1
  subst hn
  exact h.1.frozenAt j
theorem OwnI.store (h : OwnI w (.slice (some ⟨g, 0, none⟩) n cap) l) (j : Nat) (x : Int) (hx : (Lit.int .i64 x).wf = true) : OwnI (w.setCell ⟨g, j, none⟩ (.int .i64 x)) (.slice (some ⟨g, 0, none⟩) n cap) (l.set j x) := by
  have hn := h.sl.1
  subst hn
  refine ⟨?_, fun z hz => ?_⟩
  · have := (h.1.stored j (.int .i64 x)).1
    rw [List.length_set]
    have e : ints64 (l.set j x) = (ints64 l).set j (.int .i64 x) := by simp [ints64, List.map_set]
    rw [e]; exact this
  · rcases List.mem_or_eq_of_mem_set hz with h1 | h1
    · exact h.2 z h1
    · rw [h1]; exact hx
theorem OwnI.drewN (h : OwnI w (.slice (some ⟨g, 0, none⟩) n cap) l) (m : Nat) : OwnI (w.drewN m) (.slice (some ⟨g, 0, none⟩) n cap) l := h
theorem zn_wf (h : OwnI w (.slice (some ⟨g, 0, none⟩) n cap) l) (j : Nat) : (Lit.int .i64 (zn l j)).wf = true := by
  unfold zn
  by_cases hj : j < l.length
  · rw [List.getD_eq_getElem?_getD, List.getElem?_eq_getElem hj]; exact h.2 _ (List.getElem_mem hj)
  · rw [List.getD_eq_getElem?_getD, List.getElem?_eq_none (by omega)]; decide
/-- a row of n zeros -/
theorem OwnI.made (w : World) (n : Nat) (hn : n ≤ 9223372036854775807) : OwnI (w.alloc (.cells (madeCells #[.int .i64 0] n) 3)) (.slice (some ⟨w.heap.size, 0, none⟩) n n) (List.replicate n 0) := by
  have h := World.ownsRow_lit (base := 0) (e := 3) (size := 1) w (madeCells #[.int .i64 0] n) n (Nat.zero_le _) (by unfold maxLen; omega) (by simp [size_madeCells])
  rw [toList_madeCells_one] at h
  refine ⟨by simpa [ints64] using h, fun z hz => ?_⟩
  rw [(List.mem_replicate.1 hz).2]; decide
theorem OwnI.made0 (w : World) (c : Nat) (hc : c ≤ 9223372036854775807) : OwnI (w.alloc (.cells (madeCells #[.int .i64 0] c) 3)) (.slice (some ⟨w.heap.size, 0, none⟩) 0 c) [] :=
  ⟨World.ownsRow_made w _ c (Nat.zero_le _) (by unfold maxLen; omega) (by simp [size_madeCells]), by simp⟩
theorem run_make_intsC (w : World) (n c : Nat) (hn : n ≤ c) (hc : c ≤ 35184372088832) : (Instr.makeSlice 22 (.int .i64 (n : Int)) (.int .i64 (c : Int))).run Try.prog w = .ok (.slice (some ⟨w.heap.size, 0, none⟩) n c) (w.alloc (.cells (madeCells #[.int .i64 0] c) 3)) := by
  obtain ⟨i, hi, hz0, hz1, hz2⟩ := info_parts info64
  have := run_make (P := Try.prog) (w := w) 22 3 i (.int .i64 0) Try.underlying22 hi hz0 .i64 .i64 n c (by omega) (by omega) (by rw [hz2]; omega) (by omega)
  rw [this, hz1]
  simp [Value.cells]
end
theorem zn_set (l : List Int) (j : Nat) (x : Int) (k : Nat) (hj : j < l.length) : zn (l.set j x) k = if k = j then x else zn l k := by
  unfold zn
  rw [List.getD_eq_getElem?_getD, List.getD_eq_getElem?_getD, List.getElem?_set]
  by_cases h : j = k
  · subst h; simp [hj]
  · rw [if_neg h, if_neg (fun e => h e.symm)]
/-- two numbers exchanged -/
def xch (l : List Int) (i j : Nat) : List Int := (l.set i (zn l j)).set j (zn l i)
theorem xch_len (l : List Int) (i j : Nat) : (xch l i j).length = l.length := by simp [xch]
theorem xch_at (l : List Int) (i j k : Nat) (hi : i < l.length) (hj : j < l.length) : zn (xch l i j) k = if k = j then zn l i else if k = i then zn l j else zn l k := by
  unfold xch
  rw [zn_set _ _ _ _ (by simpa using hj)]
  by_cases h : k = j
  · simp [h]
  · rw [if_neg h, if_neg h, zn_set _ _ _ _ hi]
theorem xch_perm (l : List Int) (i j : Nat) (hi : i < l.length) (hj : j < l.length) : (xch l i j).Perm l := by
  have h := (Array.swap_perm (xs := l.toArray) (i := i) (j := j) (by simpa using hi) (by simpa using hj)).toList
  have e : (l.toArray.swap i j (by simpa using hi) (by simpa using hj)).toList = xch l i j := by
    simp [Array.swap_def, xch, zn, hi, hj]
  rwa [e] at h
/-- from w0 on the row of block g alone has turned; it holds the numbers of z0 in some order, now zs -/
structure SS (w0 : World) (g n cap : Nat) (z0 : List Int) (w : World) (zs : List Int) : Prop where
  own : OwnI w (.slice (some ⟨g, 0, none⟩) n cap) zs
  keep : Keep [g] w0 w
  perm : zs.Perm z0
section
variable {w0 w : World} {g n cap : Nat} {z0 zs : List Int}
theorem SS.len (h : SS w0 g n cap z0 w zs) : zs.length = n := h.own.sl.1.symm
theorem SS.drewN (h : SS w0 g n cap z0 w zs) (m : Nat) : SS w0 g n cap z0 (w.drewN m) zs := ⟨h.own, h.keep.drewN m, h.perm⟩
theorem SS.drew (h : SS w0 g n cap z0 w zs) : SS w0 g n cap z0 w.drew zs := ⟨h.own, h.keep.drew, h.perm⟩
theorem SS.cell (h : SS w0 g n cap z0 w zs) (j : Nat) (hj : j < n) : w.cell? ⟨g, j, none⟩ = some (.int .i64 (zn zs j)) := h.own.cell j (by rw [h.len]; exact hj)
theorem SS.free (h : SS w0 g n cap z0 w zs) (j : Nat) : w.frozen? ⟨g, j, none⟩ = false := h.own.free j
theorem SS.xch (h : SS w0 g n cap z0 w zs) (i j : Nat) (hi : i < n) (hj : j < n) : SS w0 g n cap z0 ((w.setCell ⟨g, i, none⟩ (.int .i64 (zn zs j))).setCell ⟨g, j, none⟩ (.int .i64 (zn zs i))) (xch zs i j) := by
  have hl := h.len
  refine ⟨(h.own.store i _ (zn_wf h.own j)).store j _ (zn_wf h.own i), (h.keep.setCell (.inl (by simp)) _).setCell (.inl (by simp)) _, (xch_perm zs i j (by omega) (by omega)).trans h.perm⟩
/-- behind the first store of an exchange the second place still holds something -/
theorem SS.c2 (h : SS w0 g n cap z0 w zs) (i j : Nat) (hj : j < n) (hij : i ≠ j) (x : Value) : (w.setCell ⟨g, i, none⟩ x).cell? ⟨g, j, none⟩ = some (.int .i64 (zn zs j)) := by
  rw [World.cell?_setCell_other _ _ _ _ (by intro e; simp only [Addr.mk.injEq] at e; omega)]
  exact h.cell j hj
end
end Go.Proofs.Ytblogjpoijfpbaa
