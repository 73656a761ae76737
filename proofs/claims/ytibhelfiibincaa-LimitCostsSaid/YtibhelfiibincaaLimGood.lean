/- What best lengths are, by symbols; and that package-merge's are such. -/
import Derived.Test.YtibhelfiibincaaPmBest
namespace Go.Proofs.Ytibhelfiibincaa
set_option linter.unusedVariables false
set_option linter.unusedSimpArgs false

def usedN (N : Nat) (F : Nat → Nat) : Nat := ct (fun i => decide (F i ≠ 0)) N
/-- the weight, in 2^-M -/
def wsum (N : Nat) (F o : Nat → Nat) (M : Nat) : Nat := sm (fun i => if F i = 0 then 0 else 2 ^ (M - o i)) N
def cost (N : Nat) (F o : Nat → Nat) : Nat := sm (fun i => F i * o i) N
/-- ord is a row of the symbols that come -/
def RowOf (N : Nat) (F : Nat → Nat) (ord : List Nat) : Prop := ord.Nodup ∧ ∀ i, i ∈ ord ↔ i < N ∧ F i ≠ 0
structure Good (N : Nat) (F : Nat → Nat) (most : Nat) (l : Nat → Nat) : Prop where
  zero : ∀ i, i < N → (l i = 0 ↔ F i = 0)
  le : ∀ i, i < N → l i ≤ most
  one : usedN N F = 1 → ∀ i, i < N → l i ≤ 1
  mono : ∀ i k, i < N → k < N → F k < F i → 0 < F k → l i ≤ l k
  full : 2 ≤ usedN N F → wsum N F l 16 = 65536
  best : ∀ o : Nat → Nat, (∀ i, i < N → F i ≠ 0 → 1 ≤ o i ∧ o i ≤ most) → wsum N F o 16 ≤ 65536 → cost N F l ≤ cost N F o
  row : ∃ ord, RowOf N F ord ∧ (∀ p q, p ≤ q → q < ord.length → F (ord.getD q 0) ≤ F (ord.getD p 0)) ∧ ∀ p q, p ≤ q → q < ord.length → l (ord.getD p 0) ≤ l (ord.getD q 0)
theorem lsum_getD (ord : List Nat) (g : Nat → Nat) : (ord.map g).sum = sm (fun r => g (ord.getD r 0)) ord.length := by
  have h : ∀ m, m ≤ ord.length → ((ord.take m).map g).sum = sm (fun r => g (ord.getD r 0)) m := by
    intro m
    induction m with
    | zero => intro _; simp [sm]
    | succ m ih =>
      intro hm
      rw [List.take_succ_eq_append_getElem (by omega), List.map_append, List.sum_append, ih (by omega), sm]
      simp [show m < ord.length by omega]
  have := h ord.length (Nat.le_refl _)
  rwa [List.take_length] at this
theorem sm_list (g : Nat → Nat) (N : Nat) : sm g N = ((List.range N).map g).sum := by
  induction N with
  | zero => rfl
  | succ N ih => rw [sm, ih, List.range_succ, List.map_append, List.sum_append]; simp
theorem sm_filter (g : Nat → Nat) (q : Nat → Bool) (N : Nat) (h : ∀ i, q i = false → g i = 0) : sm g N = (((List.range N).filter q).map g).sum := by
  induction N with
  | zero => rfl
  | succ N ih =>
    rw [sm, ih, List.range_succ, List.filter_append, List.map_append, List.sum_append]
    cases hq : q N with
    | true => simp [hq]
    | false => simp [hq, h N hq]
theorem RowOf.perm {N : Nat} {F : Nat → Nat} {ord : List Nat} (h : RowOf N F ord) : ord.Perm ((List.range N).filter fun i => decide (F i ≠ 0)) := by
  refine (List.perm_ext_iff_of_nodup h.1 (List.Nodup.sublist List.filter_sublist List.nodup_range)).2 (fun i => ?_)
  rw [h.2 i]; simp
/-- a sum over all symbols is one over the row -/
theorem RowOf.sum {N : Nat} {F : Nat → Nat} {ord : List Nat} (h : RowOf N F ord) (g : Nat → Nat) (hg : ∀ i, F i = 0 → g i = 0) : sm g N = sm (fun r => g (ord.getD r 0)) ord.length := by
  rw [sm_filter g (fun i => decide (F i ≠ 0)) N (fun i hi => hg i (by simpa using hi)), ← lsum_getD]
  exact ((h.perm.map g).sum_nat).symm
theorem RowOf.used {N : Nat} {F : Nat → Nat} {ord : List Nat} (h : RowOf N F ord) : usedN N F = ord.length := by
  unfold usedN ct
  rw [h.sum _ (fun i hi => by simp [hi])]
  rw [sm_congr _ (fun _ => 1) ord.length (fun r hr => ?_), sm_const, Nat.one_mul]
  have hm : ord.getD r 0 ∈ ord := by rw [List.getD_eq_getElem?_getD, List.getElem?_eq_getElem hr]; exact List.getElem_mem hr
  have := ((h.2 _).1 hm).2
  simp only [this, decide_true, ne_eq, not_false_eq_true, if_true]
theorem RowOf.mem {N : Nat} {F : Nat → Nat} {ord : List Nat} (h : RowOf N F ord) (r : Nat) (hr : r < ord.length) : ord.getD r 0 < N ∧ F (ord.getD r 0) ≠ 0 := by
  refine (h.2 _).1 ?_
  rw [List.getD_eq_getElem?_getD, List.getElem?_eq_getElem hr]; exact List.getElem_mem hr
theorem RowOf.find {N : Nat} {F : Nat → Nat} {ord : List Nat} (h : RowOf N F ord) (i : Nat) (hi : i < N) (hF : F i ≠ 0) : ∃ r, r < ord.length ∧ ord.getD r 0 = i := by
  obtain ⟨r, hr, e⟩ := List.getElem_of_mem ((h.2 i).2 ⟨hi, hF⟩)
  exact ⟨r, hr, by simp [hr, e]⟩
theorem RowOf.rev {N : Nat} {F : Nat → Nat} {ord : List Nat} (h : RowOf N F ord) : RowOf N F ord.reverse :=
  ⟨List.pairwise_reverse.2 (h.1.imp fun h => Ne.symm h), fun i => by rw [List.mem_reverse]; exact h.2 i⟩
theorem getD_reverse (ord : List Nat) (r : Nat) (h : r < ord.length) : ord.reverse.getD r 0 = ord.getD (ord.length - 1 - r) 0 := by
  rw [List.getD_eq_getElem?_getD, List.getD_eq_getElem?_getD, List.getElem?_reverse h]
/-- package-merge's lengths are best: ord rises by how often its symbols come -/
theorem Good.of_pm {N : Nat} {F : Nat → Nat} {most : Nat} {l : Nat → Nat} (ord : List Nat) (h : RowOf N F ord) (hm : most ≤ 16) (h2 : 2 ≤ ord.length) (hn : ord.length ≤ 2 ^ most)
    (W c : Nat → Nat → Nat) (tot K : Nat → Nat) (hl : Lvs (fun r => F (ord.getD r 0)) ord.length most W c tot) (hp : Pck ord.length most c K)
    (hz : ∀ i, i < N → F i = 0 → l i = 0) (hv : ∀ r, r < ord.length → l (ord.getD r 0) = pmLen c K most r) : Good N F most l := by
  have hcost : ∀ o, cost N F o = sm (fun r => F (ord.getD r 0) * o (ord.getD r 0)) ord.length := fun o => h.sum _ (fun i hi => by simp [hi])
  have e16 : (65536 : Nat) = 2 ^ (16 - most) * 2 ^ most := by rw [← Nat.pow_add, show 16 - most + most = 16 by omega]
  have hws : ∀ o : Nat → Nat, (∀ i, i < N → F i ≠ 0 → o i ≤ most) → wsum N F o 16 = 2 ^ (16 - most) * sm (fun r => 2 ^ (most - o (ord.getD r 0))) ord.length := by
    intro o ho
    unfold wsum
    rw [h.sum _ (fun i hi => by simp [hi]), ← sm_mul]
    refine sm_congr _ _ _ (fun r hr => ?_)
    obtain ⟨a, b⟩ := h.mem r hr
    rw [if_neg b, ← Nat.pow_add]
    congr 1
    have := ho _ a b
    omega
  have hle : ∀ i, i < N → l i ≤ most := by
    intro i hi
    by_cases hF : F i = 0
    · rw [hz i hi hF]; omega
    · obtain ⟨r, hr, rfl⟩ := h.find i hi hF
      rw [hv r hr]; exact pmLen_le r
  refine ⟨?_, hle, ?_, ?_, ?_, ?_, ?_⟩
  · intro i hi
    refine ⟨fun h0 => ?_, hz i hi⟩
    by_cases hF : F i = 0
    · exact hF
    · obtain ⟨r, hr, rfl⟩ := h.find i hi hF
      have := hp.pos hl hn h2 r hr
      rw [hv r hr] at h0; omega
  · intro h1; rw [h.used] at h1; omega
  · intro i k hi hk hlt hpos
    obtain ⟨r, hr, rfl⟩ := h.find i hi (by omega)
    obtain ⟨s, hs, rfl⟩ := h.find k hk (by omega)
    rw [hv r hr, hv s hs]
    refine pmLen_anti s r ?_
    rcases Nat.lt_or_ge r s with h3 | h3
    · have : F (ord.getD r 0) ≤ F (ord.getD s 0) := hl.asc r s (by omega) hs; omega
    · exact h3
  · intro _
    rw [hws l (fun i hi _ => hle i hi), e16]
    congr 1
    rw [← hp.kraft hl hn (by omega)]
    exact sm_congr _ _ _ (fun r hr => by rw [hv r hr])
  · intro o ho hw
    rw [hws o (fun i hi hF => (ho i hi hF).2), e16] at hw
    have hk := Nat.le_of_mul_le_mul_left hw (Nat.pow_pos (by decide))
    rw [hcost, hcost]
    have hb := hp.best hl hn (by omega) (fun r => o (ord.getD r 0)) (fun r hr => (ho _ (h.mem r hr).1 (h.mem r hr).2).2) hk
    refine Nat.le_trans (Nat.le_of_eq (sm_congr _ _ _ (fun r hr => ?_))) hb
    rw [hv r hr]
  · refine ⟨ord.reverse, h.rev, ?_, ?_⟩
    · intro p q hpq hq
      rw [List.length_reverse] at hq
      rw [getD_reverse _ _ hq, getD_reverse _ _ (by omega)]
      exact hl.asc _ _ (by omega) (by omega)
    · intro p q hpq hq
      rw [List.length_reverse] at hq
      rw [getD_reverse _ _ hq, getD_reverse _ _ (by omega), hv _ (by omega), hv _ (by omega)]
      exact pmLen_anti _ _ (by omega)
theorem RowOf.made (N : Nat) (F : Nat → Nat) : RowOf N F ((List.range N).filter fun i => decide (F i ≠ 0)) :=
  ⟨List.Nodup.sublist List.filter_sublist List.nodup_range, fun i => by simp⟩
/-- one symbol alone, or none -/
theorem Good.of_few {N : Nat} {F : Nat → Nat} {most : Nat} {l : Nat → Nat} (hm : 1 ≤ most) (hu : usedN N F ≤ 1) (hz : ∀ i, i < N → l i = if F i = 0 then 0 else 1) : Good N F most l := by
  have h := RowOf.made N F
  generalize (List.range N).filter (fun i => decide (F i ≠ 0)) = ord at h
  rw [h.used] at hu
  have huni : ∀ i k, i < N → k < N → F i ≠ 0 → F k ≠ 0 → i = k := by
    intro i k hi hk hFi hFk
    obtain ⟨r, hr, rfl⟩ := h.find i hi hFi
    obtain ⟨s, hs, rfl⟩ := h.find k hk hFk
    rw [show r = s by omega]
  refine ⟨?_, ?_, ?_, ?_, ?_, ?_, ⟨ord, h, ?_, ?_⟩⟩
  · intro i hi; rw [hz i hi]; split <;> simp_all
  · intro i hi; rw [hz i hi]; split <;> omega
  · intro _ i hi; rw [hz i hi]; split <;> omega
  · intro i k hi hk hlt hp
    have := huni i k hi hk (by omega) (by omega)
    subst this; omega
  · intro h2; rw [h.used] at h2; omega
  · intro o ho _
    unfold cost
    refine sm_le _ _ _ (fun i hi => Nat.mul_le_mul_left _ ?_)
    rw [hz i hi]
    by_cases hF : F i = 0
    · rw [if_pos hF]; omega
    · rw [if_neg hF]; exact (ho i hi hF).1
  · intro p q hpq hq
    rw [show p = q by omega]; exact Nat.le_refl _
  · intro p q hpq hq
    rw [show p = q by omega]; exact Nat.le_refl _
end Go.Proofs.Ytibhelfiibincaa
