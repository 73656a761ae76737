/- Numbers of layer 9: where nothing comes twice; a text of one byte. -/
import Derived.Test.YtmafgamacijdaaaFinMath
namespace Go.Proofs.Ytmafgamacijdaaa
set_option linter.unusedVariables false
set_option linter.unusedSimpArgs false

/-- min bytes come twice within the window -/
def tw (b : List UInt8) (s : Sh) : Prop := ∃ i k : Nat, i + s.min.toNat ≤ b.length ∧ k < i ∧ (i : Int) - k ≤ s.win ∧ ∀ j, j < s.min.toNat → b.getD (k + j) 0 = b.getD (i + j) 0
theorem sme_tw {b : List UInt8} {s : Sh} (h : ¬ tw b s) {i k : Nat} (hk : k < i) (hw : (i : Int) - k ≤ s.win) (hm : 0 < s.min.toNat) : sme b k i s.min.toNat < s.min.toNat := by
  refine Nat.lt_of_not_le fun hge => h ?_
  have hall := fun j hj => cntUp_all (sm1 b k i) s.min.toNat 0 j (Nat.zero_le _) hj
  have h1 : ∀ j, j < s.min.toNat → i + j < b.length ∧ b.getD (k + j) 0 = b.getD (i + j) 0 := fun j hj => by
    have := hall j (by show j < sme b k i s.min.toNat; omega)
    unfold sm1 at this
    simpa using this
  exact ⟨i, k, by have := (h1 (s.min.toNat - 1) (by omega)).1; omega, hk, hw, fun j hj => (h1 j hj).2⟩
theorem atF_none {b : List UInt8} {s : Sh} (h : ¬ tw b s ∨ s.chain = 0) (hm : 0 < s.min.toNat) (i k : Nat) (hk : k ≤ i) : atF b s i k 0 ⟨0, 0, 0⟩ = ⟨0, 0, 0⟩ := by
  induction k with
  | zero => rfl
  | succ k ih =>
    rw [atF]
    split
    · next h1 =>
      rcases h with h | h
      · rw [if_pos (sme_tw h (by omega) h1.1 hm)]; exact ih (by omega)
      · have := h1.2; omega
    · rfl
theorem atT_none {b : List UInt8} {s : Sh} (hs : s.ok) (h : ¬ tw b s ∨ s.chain = 0) (i : Nat) : atT b s i = ⟨0, 0, 0⟩ := atF_none h (by obtain ⟨_, _, h3, _⟩ := hs; omega) i i (Nat.le_refl _)
theorem fd_none {b : List UInt8} {s : Sh} (hs : s.ok) (h : ¬ tw b s ∨ s.chain = 0) (f i : Nat) (hi : i ≤ b.length) (hf : b.length ≤ i + f) : fdF b s f i = (b.drop i).map fun c => ⟨c, 0, 0⟩ := by
  induction f generalizing i with
  | zero => rw [fdF, List.drop_of_length_le (by omega)]; rfl
  | succ f ih =>
    rw [fdF]
    by_cases hlt : i < b.length
    · have e : stepT b s i = ⟨b.getD i 0, 0, 0⟩ := by unfold stepT; rw [if_pos (.inl (by rw [atT_none hs h]))]
      rw [if_pos hlt, e, List.drop_eq_getElem_cons hlt, List.map_cons]
      have e2 : sz1 ⟨b.getD i 0, 0, 0⟩ = 1 := rfl
      rw [e2, ih (i + 1) (by omega) (by omega)]
      simp [hlt]
    · rw [if_neg hlt, List.drop_of_length_le (by omega)]; rfl
theorem found_none {b : List UInt8} {s : Sh} (hs : s.ok) (h : ¬ tw b s ∨ s.chain = 0) : found b s = b.map fun c => ⟨c, 0, 0⟩ := by
  unfold found
  rw [fd_none hs h b.length 0 (Nat.zero_le _) (by omega)]; rfl
/-- in a text of one byte all that stands is the same -/
theorem sme_rep (n : Nat) (c : UInt8) (k i m : Nat) (hk : k < i) : sme (List.replicate n c) k i m = min m (n - i) := by
  have h : ∀ j, j < n - i → sm1 (List.replicate n c) k i j = true := fun j hj => by
    unfold sm1
    have e1 : (List.replicate n c).getD (k + j) 0 = c := by rw [List.getD_eq_getElem?_getD, List.getElem?_replicate, if_pos (by omega)]; rfl
    have e2 : (List.replicate n c).getD (i + j) 0 = c := by rw [List.getD_eq_getElem?_getD, List.getElem?_replicate, if_pos (by omega)]; rfl
    rw [e1, e2]; simp; omega
  have hge := cntUp_ge (sm1 (List.replicate n c) k i) m 0 (min m (n - i)) (Nat.zero_le _) (by omega) (fun j _ hj => h j (by omega))
  have hle := (cntUp_le (sm1 (List.replicate n c) k i) m 0).2
  have h3 : sme (List.replicate n c) k i m ≤ n - i := by
    refine Nat.le_of_not_lt fun hlt => ?_
    have := cntUp_all (sm1 (List.replicate n c) k i) m 0 (n - i) (Nat.zero_le _) hlt
    unfold sm1 at this
    simp at this
    omega
  have h4 : min m (n - i) ≤ sme (List.replicate n c) k i m := hge
  have h5 : sme (List.replicate n c) k i m ≤ 0 + m := hle
  omega
theorem atF_keep {n : Nat} {c : UInt8} {s : Sh} {i : Nat} (k looked : Nat) (hk : k ≤ i) (t : Tk) (ht : ((min s.max.toNat (n - i) : Nat) : Int) ≤ t.len) : atF (List.replicate n c) s i k looked t = t := by
  induction k generalizing looked with
  | zero => rfl
  | succ k ih =>
    rw [atF]
    split
    · split
      · exact ih _ (by omega)
      · rw [sme_rep n c k i _ (by omega), if_neg (by omega)]; exact ih _ (by omega)
    · rfl
theorem atF_few {n : Nat} {c : UInt8} {s : Sh} {i : Nat} (k : Nat) (hk : k ≤ i) (hr : n - i < s.min.toNat) : atF (List.replicate n c) s i k 0 ⟨0, 0, 0⟩ = ⟨0, 0, 0⟩ := by
  induction k with
  | zero => rfl
  | succ k ih =>
    rw [atF]
    split
    · rw [sme_rep n c k i _ (by omega), if_pos (by omega)]; exact ih (by omega)
    · rfl
theorem atT_rep {n : Nat} {c : UInt8} {s : Sh} (hs : s.ok) (hc : 1 ≤ s.chain) (i : Nat) (hi : 1 ≤ i) : atT (List.replicate n c) s i = if n - i < s.min.toNat then ⟨0, 0, 0⟩ else ⟨0, 1, ((min s.max.toNat (n - i) : Nat) : Int)⟩ := by
  obtain ⟨h1, h2, h3, h4, h5, h6, h7, h8⟩ := hs
  unfold atT
  split
  · next h => exact atF_few i (Nat.le_refl _) h
  · next h =>
    obtain ⟨k, rfl⟩ : ∃ k, i = k + 1 := ⟨i - 1, by omega⟩
    rw [atF, if_pos ⟨by omega, by omega⟩, sme_rep n c k (k + 1) _ (by omega), if_neg (by omega), sme_rep n c k (k + 1) _ (by omega), if_pos (by show (0 : Int) < _; omega)]
    rw [show ((k + 1 : Nat) : Int) - (k : Int) = 1 by omega]
    exact atF_keep k 1 (by omega) _ (Int.le_refl _)
theorem atT_zero (b : List UInt8) (s : Sh) : atT b s 0 = ⟨0, 0, 0⟩ := rfl
theorem stepT_rep {n : Nat} {c : UInt8} {s : Sh} (hs : s.ok) (hc : 1 ≤ s.chain) (i : Nat) (hi : 1 ≤ i) (hin : i < n) : sz1 (stepT (List.replicate n c) s i) = if n - i < s.min.toNat then 1 else min s.max.toNat (n - i) := by
  have ha := atT_rep (n := n) (c := c) hs hc i hi
  have hb := atT_rep (n := n) (c := c) hs hc (i + 1) (by omega)
  obtain ⟨h1, h2, h3, h4, h5, h6, h7, h8⟩ := hs
  unfold stepT
  by_cases h : n - i < s.min.toNat
  · rw [if_pos h] at ha
    rw [if_pos (.inl (by rw [ha])), if_pos h]; rfl
  · rw [if_neg h] at ha
    have hnw : ¬ ((atT (List.replicate n c) s i).len = 0 ∨ waits (List.replicate n c) s i) := by
      intro g
      rcases g with g | g
      · rw [ha] at g; simp only at g; omega
      · unfold waits at g
        obtain ⟨_, _, _, _, g5⟩ := g
        rw [ha, hb] at g5
        split at g5
        · simp only at g5; omega
        · simp only at g5; omega
    rw [if_neg hnw, ha, if_neg h]
    unfold sz1
    rw [if_neg (by simp only; omega)]
    simp
/-- how many tokens from i on -/
theorem fd_rep {n : Nat} {c : UInt8} {s : Sh} (hs : s.ok) (hc : 1 ≤ s.chain) (f i : Nat) (hi : 1 ≤ i) : (fdF (List.replicate n c) s f i).length ≤ (n - i + s.max.toNat - 1) / s.max.toNat + s.min.toNat ∧ (n - i < s.min.toNat → (fdF (List.replicate n c) s f i).length ≤ n - i) := by
  have hm : 2 ≤ s.max.toNat := by obtain ⟨_, _, h3, _, h5, _⟩ := hs; omega
  have hmm : s.min.toNat ≤ s.max.toNat := by obtain ⟨_, _, h3, _, h5, _⟩ := hs; omega
  have hm1 : 1 ≤ s.min.toNat := by obtain ⟨_, _, h3, _, h5, _⟩ := hs; omega
  induction f generalizing i with
  | zero => rw [fdF]; simp
  | succ f ih =>
    rw [fdF]
    by_cases hlt : i < n
    · rw [if_pos (by simpa using hlt), List.length_cons]
      have hz := stepT_rep (c := c) hs hc i hi hlt
      obtain ⟨g1, g2⟩ := ih (i + sz1 (stepT (List.replicate n c) s i)) (by omega)
      rw [hz] at g1 g2 ⊢
      by_cases h : n - i < s.min.toNat
      · rw [if_pos h] at g1 g2 ⊢
        have := g2 (by omega)
        refine ⟨?_, fun _ => by omega⟩
        have : 0 ≤ (n - i + s.max.toNat - 1) / s.max.toNat := Nat.zero_le _
        omega
      · rw [if_neg h] at g1 g2 ⊢
        refine ⟨?_, fun h' => absurd h' h⟩
        by_cases hb : n - i ≤ s.max.toNat
        · have e : n - (i + min s.max.toNat (n - i)) = 0 := by omega
          rw [e] at g2
          have h0 := g2 (by omega)
          have : 1 ≤ (n - i + s.max.toNat - 1) / s.max.toNat := (Nat.le_div_iff_mul_le (by omega)).2 (by omega)
          omega
        · have e : n - (i + min s.max.toNat (n - i)) + s.max.toNat - 1 = n - i - 1 := by omega
          rw [e] at g1
          have e2 : n - i + s.max.toNat - 1 = (n - i - 1) + s.max.toNat := by omega
          rw [e2, Nat.add_div_right _ (by omega)]
          omega
    · rw [if_neg (by simpa using hlt)]; simp
theorem found_rep {n : Nat} {c : UInt8} {s : Sh} (hs : s.ok) (hc : 1 ≤ s.chain) (hn : 0 < n) : (found (List.replicate n c) s).length ≤ 1 + (n - 1 + s.max.toNat - 1) / s.max.toNat + s.min.toNat := by
  unfold found
  rw [List.length_replicate]
  obtain ⟨m, rfl⟩ : ∃ m, n = m + 1 := ⟨n - 1, by omega⟩
  rw [fdF, if_pos (by simp)]
  have e : stepT (List.replicate (m + 1) c) s 0 = ⟨(List.replicate (m + 1) c).getD 0 0, 0, 0⟩ := by unfold stepT; rw [if_pos (.inl (by rw [atT_zero]))]
  rw [e, List.length_cons]
  have := (fd_rep (n := m + 1) (c := c) hs hc m (0 + sz1 ⟨(List.replicate (m + 1) c).getD 0 0, 0, 0⟩) (Nat.le_refl _)).1
  have e2 : sz1 ⟨(List.replicate (m + 1) c).getD 0 0, 0, 0⟩ = 1 := rfl
  rw [e2, Nat.zero_add] at this ⊢
  omega
end Go.Proofs.Ytmafgamacijdaaa
