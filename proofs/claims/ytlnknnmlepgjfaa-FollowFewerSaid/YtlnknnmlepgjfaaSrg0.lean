/- Rows of elements of two cells of a call's own: exchanges, and the state of a sort. No condition beyond each theorem's own premises. -/
import Derived.Test.YtlnknnmlepgjfaaSrgE
import Derived.BigRegion
namespace Go.Proofs.Ytlnknnmlepgjfaa
set_option linter.unusedVariables false
set_option linter.unusedSimpArgs false
open Go.ChangeShapes Go.WideShapes Go.ChangeAt Go.RowKit

def gn (l : List SEl) (k : Nat) : SEl := l.getD k default
theorem gn_eq (l : List SEl) (k : Nat) (h : k < l.length) : gn l k = l[k] := by simp [gn, h]
theorem gn_set (l : List SEl) (j : Nat) (x : SEl) (k : Nat) (hj : j < l.length) : gn (l.set j x) k = if k = j then x else gn l k := by
  unfold gn
  rw [List.getD_eq_getElem?_getD, List.getD_eq_getElem?_getD, List.getElem?_set]
  by_cases h : j = k
  · subst h; simp [hj]
  · rw [if_neg h, if_neg (fun e => h e.symm)]
/-- two elements exchanged -/
def gxc (l : List SEl) (i j : Nat) : List SEl := (l.set i (gn l j)).set j (gn l i)
theorem gxc_len (l : List SEl) (i j : Nat) : (gxc l i j).length = l.length := by simp [gxc]
theorem gxc_at (l : List SEl) (i j k : Nat) (hi : i < l.length) (hj : j < l.length) : gn (gxc l i j) k = if k = j then gn l i else if k = i then gn l j else gn l k := by
  unfold gxc
  rw [gn_set _ _ _ _ (by simpa using hj)]
  by_cases h : k = j
  · simp [h]
  · rw [if_neg h, if_neg h, gn_set _ _ _ _ hi]
theorem gxc_perm (l : List SEl) (i j : Nat) (hi : i < l.length) (hj : j < l.length) : (gxc l i j).Perm l := by
  have h := (Array.swap_perm (xs := l.toArray) (i := i) (j := j) (by simpa using hi) (by simpa using hj)).toList
  have e : (l.toArray.swap i j (by simpa using hi) (by simpa using hj)).toList = gxc l i j := by
    simp [Array.swap_def, gxc, gn, hi, hj]
  rwa [e] at h
/-- an element stored -/
def stE (w : World) (g j : Nat) (y : SEl) : World := (w.setCell ⟨g, j * 2, none⟩ (eA y)).setCell ⟨g, j * 2 + 1, none⟩ (eB y)
theorem OwnG.ln {w : World} {g n cap : Nat} {l : List SEl} (h : OwnG ESl w (.slice (some ⟨g, 0, none⟩) n cap) l) : n = l.length := by
  obtain ⟨_, _, e, _⟩ := h.gs
  simp only [Value.slice.injEq] at e; exact e.2.1
theorem OwnG.c0 {w : World} {g n cap : Nat} {l : List SEl} (h : OwnG ESl w (.slice (some ⟨g, 0, none⟩) n cap) l) (j : Nat) (hj : j < l.length) : w.cell? ⟨g, j * 2, none⟩ = some (eA (gn l j)) := by
  have := OwnG.cell ESlg h j 0 hj (by decide)
  rw [gn_eq l j hj]; exact this
theorem OwnG.c1 {w : World} {g n cap : Nat} {l : List SEl} (h : OwnG ESl w (.slice (some ⟨g, 0, none⟩) n cap) l) (j : Nat) (hj : j < l.length) : w.cell? ⟨g, j * 2 + 1, none⟩ = some (eB (gn l j)) := by
  have := OwnG.cell ESlg h j 1 hj (by decide)
  rw [gn_eq l j hj]; exact this
theorem OwnG.stE {w : World} {g n cap : Nat} {l : List SEl} (h : OwnG ESl w (.slice (some ⟨g, 0, none⟩) n cap) l) (j : Nat) (hj : j < l.length) (y : SEl) : OwnG ESl (Ytlnknnmlepgjfaa.stE w g j y) (.slice (some ⟨g, 0, none⟩) n cap) (l.set j y) := by
  have h1 := h.store ESlg j 0 hj (by decide) (y.1, l[j].2) (eA y) rfl
  have h2 := h1.store ESlg j 1 (by simpa using hj) (by decide) y (eB y) (by simp; rfl)
  rw [List.set_set] at h2
  exact h2
/-- from w0 on the row of block g alone has turned; it holds the elements of z0 in some order, now zs -/
structure SSg (w0 : World) (g n cap : Nat) (z0 : List SEl) (w : World) (zs : List SEl) : Prop where
  own : OwnG ESl w (.slice (some ⟨g, 0, none⟩) n cap) zs
  keep : Keep [g] w0 w
  perm : zs.Perm z0
section
variable {w0 w : World} {g n cap : Nat} {z0 zs : List SEl}
theorem SSg.len (h : SSg w0 g n cap z0 w zs) : zs.length = n := h.own.ln.symm
theorem SSg.to (h : SSg w0 g n cap z0 w zs) {w' : World} (k : Keep [] w w') : SSg w0 g n cap z0 w' zs := ⟨h.own.keep k (by simp), h.keep.trans k (by simp), h.perm⟩
theorem SSg.drew (h : SSg w0 g n cap z0 w zs) : SSg w0 g n cap z0 w.drew zs := h.to (Keep.refl _ _).drew
theorem SSg.c0 (h : SSg w0 g n cap z0 w zs) (j : Nat) (hj : j < n) : w.cell? ⟨g, j * 2, none⟩ = some (eA (gn zs j)) := h.own.c0 j (by rw [h.len]; exact hj)
theorem SSg.c1 (h : SSg w0 g n cap z0 w zs) (j : Nat) (hj : j < n) : w.cell? ⟨g, j * 2 + 1, none⟩ = some (eB (gn zs j)) := h.own.c1 j (by rw [h.len]; exact hj)
theorem SSg.free (h : SSg w0 g n cap z0 w zs) (j : Nat) : w.frozen? ⟨g, j, none⟩ = false := h.own.free j
theorem SSg.gxc (h : SSg w0 g n cap z0 w zs) (i j : Nat) (hi : i < n) (hj : j < n) : SSg w0 g n cap z0 (stE (stE w g i (gn zs j)) g j (gn zs i)) (gxc zs i j) := by
  have hl := h.len
  refine ⟨(h.own.stE i (by omega) _).stE j (by simp; omega) _, (((h.keep.setCell (.inl (by simp)) _).setCell (.inl (by simp)) _).setCell (.inl (by simp)) _).setCell (.inl (by simp)) _, (gxc_perm zs i j (by omega) (by omega)).trans h.perm⟩
/-- behind the first store of an exchange the second place still holds something -/
theorem SSg.d0 (h : SSg w0 g n cap z0 w zs) (i j : Nat) (hj : j < n) (hij : i ≠ j) (y : SEl) : (stE w g i y).cell? ⟨g, j * 2, none⟩ = some (eA (gn zs j)) := by
  unfold stE
  rw [World.cell?_setCell_other _ _ _ _ (by intro e; simp only [Addr.mk.injEq] at e; omega), World.cell?_setCell_other _ _ _ _ (by intro e; simp only [Addr.mk.injEq] at e; omega)]
  exact h.c0 j hj
theorem SSg.d1 (h : SSg w0 g n cap z0 w zs) (i j : Nat) (hj : j < n) (hij : i ≠ j) (y : SEl) : (stE w g i y).cell? ⟨g, j * 2 + 1, none⟩ = some (eB (gn zs j)) := by
  unfold stE
  rw [World.cell?_setCell_other _ _ _ _ (by intro e; simp only [Addr.mk.injEq] at e; omega), World.cell?_setCell_other _ _ _ _ (by intro e; simp only [Addr.mk.injEq] at e; omega)]
  exact h.c1 j hj
theorem SSg.e1 (h : SSg w0 g n cap z0 w zs) (i : Nat) (hi : i < n) (x : Value) : (w.setCell ⟨g, i * 2, none⟩ x).cell? ⟨g, i * 2 + 1, none⟩ = some (eB (gn zs i)) := by
  rw [World.cell?_setCell_other _ _ _ _ (by intro e; simp only [Addr.mk.injEq] at e; omega)]
  exact h.c1 i hi
theorem SSg.e2 (h : SSg w0 g n cap z0 w zs) (i j : Nat) (hj : j < n) (hij : i ≠ j) (y : SEl) (x : Value) : ((stE w g i y).setCell ⟨g, j * 2, none⟩ x).cell? ⟨g, j * 2 + 1, none⟩ = some (eB (gn zs j)) := by
  rw [World.cell?_setCell_other _ _ _ _ (by intro e; simp only [Addr.mk.injEq] at e; omega)]
  exact h.d1 i j hj hij y
end
theorem SSg.pd {Pd : SEl → Prop} {w0 w : World} {g n cap : Nat} {z0 zs : List SEl} (h : SSg w0 g n cap z0 w zs) (hP : ∀ z ∈ z0, Pd z) (i : Nat) (hi : i < n) : Pd (gn zs i) := by
  refine hP _ (h.perm.mem_iff.1 ?_)
  have hl := h.len
  unfold gn
  rw [List.getD_eq_getElem?_getD, List.getElem?_eq_getElem (by omega)]
  exact List.getElem_mem _
end Go.Proofs.Ytlnknnmlepgjfaa
