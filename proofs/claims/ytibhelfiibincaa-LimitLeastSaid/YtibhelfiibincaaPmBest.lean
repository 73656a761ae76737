/- Package-merge: its lengths have a weight of just 1, and the least cost. -/
import Derived.Test.YtibhelfiibincaaPmMath
namespace Go.Proofs.Ytibhelfiibincaa
set_option linter.unusedVariables false
set_option linter.unusedSimpArgs false

theorem sm_pow2 (L : Nat) : sm (fun i => 2 ^ i) L + 1 = 2 ^ L := by
  induction L with
  | zero => rfl
  | succ L ih => rw [sm, Nat.pow_succ]; omega
theorem sm_ind (a : Nat → Nat) (v n : Nat) (h : v ≤ n) : sm (fun r => if decide (r < v) then a r else 0) n = sm a v := by
  induction n with
  | zero => obtain rfl : v = 0 := by omega
            rfl
  | succ n ih =>
    rw [sm]
    by_cases e : v = n + 1
    · subst e
      rw [if_pos (by simp), sm, sm_congr _ a n (fun t ht => by rw [if_pos (by simp; omega)])]
    · rw [ih (by omega), if_neg (by simp; omega)]; rfl
theorem ct_ge (m n : Nat) : ct (fun i => decide (m ≤ i)) n = n - m := by
  induction n with
  | zero => simp [ct, sm]
  | succ n ih => rw [ct_succ, ih]; by_cases h : m ≤ n <;> simp [h] <;> omega
/-- one symbol's part of the width -/
theorem one_wide (o L : Nat) (h : o ≤ L) : sm (fun i => if decide (L ≤ o + i) then 2 ^ i else 0) L + 2 ^ (L - o) = 2 ^ L := by
  have h1 := (geo (fun i => decide (L ≤ o + i)) L (fun i j a b c => by simp at *; omega)).1
  have h2 : ct (fun i => decide (L ≤ o + i)) L = o := by
    have : (fun i => decide (L ≤ o + i)) = fun i => decide (L - o ≤ i) := by
      funext i
      exact decide_eq_decide.2 ⟨fun h => by omega, fun h => by omega⟩
    rw [this, ct_ge]; omega
  rw [h2] at h1; exact h1
theorem one_cost (o L : Nat) (h : o ≤ L) : ct (fun i => decide (L ≤ o + i)) L = o := by
  have : (fun i => decide (L ≤ o + i)) = fun i => decide (L - o ≤ i) := by
    funext i
    exact decide_eq_decide.2 ⟨fun h => by omega, fun h => by omega⟩
  rw [this, ct_ge]; omega
section
variable {a K : Nat → Nat} {n L : Nat} {W c : Nat → Nat → Nat} {tot : Nat → Nat}
/-- how long the word of rank r is: on how many levels it is taken -/
def pmLen (c : Nat → Nat → Nat) (K : Nat → Nat) (L r : Nat) : Nat := ct (fun i => decide (r < c (i + 1) (K (i + 1)))) L
theorem pmLen_le (r : Nat) : pmLen c K L r ≤ L := ct_le _ _
theorem pmLen_anti (r r' : Nat) (h : r ≤ r') : pmLen c K L r' ≤ pmLen c K L r := by
  unfold pmLen ct
  refine sm_le _ _ _ (fun t ht => ?_)
  by_cases h1 : r' < c (t + 1) (K (t + 1))
  · rw [if_pos (by simpa using h1), if_pos (by simp; omega)]; exact Nat.le_refl _
  · rw [if_neg (by simpa using h1)]; exact Nat.zero_le _
theorem Pck.sumV (p : Pck n L c K) (h : Lvs a n L W c tot) (hn : n ≤ 2 ^ L) : sm (fun i => c (i + 1) (K (i + 1)) * 2 ^ i) L = 2 ^ L * (n - 1) := by
  have h1 := p.wide h hn L (Nat.le_refl _)
  rw [p.top, show 2 * n - 2 = 2 * (n - 1) by omega, Nat.mul_left_comm] at h1
  omega
theorem Pck.top_all (p : Pck n L c K) (h : Lvs a n L W c tot) (hn : n ≤ 2 ^ L) (h2 : 2 ≤ n) : 0 < L ∧ c L (K L) = n := by
  have hL : 0 < L := by
    rcases Nat.eq_zero_or_pos L with e | e
    · subst e; simp at hn; omega
    · exact e
  refine ⟨hL, ?_⟩
  obtain ⟨M, rfl⟩ : ∃ M, L = M + 1 := ⟨L - 1, by omega⟩
  have hv := (p.vn h hn M (by omega)).1
  rcases Nat.lt_or_ge (c (M + 1) (K (M + 1))) n with hlt | hge
  · exfalso
    have hs := p.sumV h hn
    have hle : sm (fun i => c (i + 1) (K (i + 1)) * 2 ^ i) (M + 1) ≤ sm (fun i => (n - 1) * 2 ^ i) (M + 1) :=
      sm_le _ _ _ (fun t ht => Nat.mul_le_mul_right _ (by have := p.mono h hn t M (by omega) (by omega); omega))
    have hm2 : sm (fun i => (n - 1) * 2 ^ i) (M + 1) = (n - 1) * sm (fun i => 2 ^ i) (M + 1) := sm_mul _ _ _
    rw [hm2, hs] at hle
    have hp := sm_pow2 (M + 1)
    have : (n - 1) * sm (fun i => 2 ^ i) (M + 1) + (n - 1) = (n - 1) * 2 ^ (M + 1) := by rw [← hp, Nat.mul_add, Nat.mul_one]
    rw [Nat.mul_comm (2 ^ (M + 1))] at hle
    omega
  · omega
theorem Pck.pos (p : Pck n L c K) (h : Lvs a n L W c tot) (hn : n ≤ 2 ^ L) (h2 : 2 ≤ n) (r : Nat) (hr : r < n) : 0 < pmLen c K L r := by
  obtain ⟨hL, hv⟩ := p.top_all h hn h2
  obtain ⟨M, rfl⟩ : ∃ M, L = M + 1 := ⟨L - 1, by omega⟩
  unfold pmLen
  rw [ct_succ, if_pos (by simp; omega)]
  omega
/-- the weight is just 1 -/
theorem Pck.kraft (p : Pck n L c K) (h : Lvs a n L W c tot) (hn : n ≤ 2 ^ L) (h1 : 1 ≤ n) : sm (fun r => 2 ^ (L - pmLen c K L r)) n = 2 ^ L := by
  have e1 : sm (fun r => sm (fun i => if decide (r < c (i + 1) (K (i + 1))) then 2 ^ i else 0) L + 2 ^ (L - pmLen c K L r)) n = 2 ^ L * n := by
    have hg : ∀ r, r < n → sm (fun i => if decide (r < c (i + 1) (K (i + 1))) then 2 ^ i else 0) L + 2 ^ (L - pmLen c K L r) = 2 ^ L := fun r _ =>
      (geo (fun i => decide (r < c (i + 1) (K (i + 1)))) L (fun i j hij hj hq => by
        have := p.mono h hn i j hij hj
        have hq2 : r < c (i + 1) (K (i + 1)) := by simpa using hq
        simp; omega)).1
    rw [sm_congr _ (fun _ => 2 ^ L) n hg, sm_const]
  rw [sm_add, sm_swap] at e1
  have e2 : sm (fun j => sm (fun r => if decide (r < c (j + 1) (K (j + 1))) then 2 ^ j else 0) n) L = 2 ^ L * (n - 1) := by
    rw [← p.sumV h hn]
    refine sm_congr _ _ _ (fun j hj => ?_)
    rw [sm_ind (fun _ => 2 ^ j) _ n (p.vn h hn j hj).1, sm_const, Nat.mul_comm]
  rw [e2] at e1
  have : 2 ^ L * n = 2 ^ L * (n - 1) + 2 ^ L := by
    obtain ⟨m, rfl⟩ : ∃ m, n = m + 1 := ⟨n - 1, by omega⟩
    rw [Nat.add_sub_cancel, Nat.mul_succ]
  omega
theorem Pck.pmCost (p : Pck n L c K) (h : Lvs a n L W c tot) (hn : n ≤ 2 ^ L) : sm (fun r => a r * pmLen c K L r) n = sm (W L) (2 * n - 2) := by
  have e := p.cost h hn L (Nat.le_refl _)
  rw [p.top] at e
  rw [e]
  unfold pmLen ct
  rw [sm_congr _ (fun r => sm (fun i => a r * if decide (r < c (i + 1) (K (i + 1))) then 1 else 0) L) n (fun r _ => (sm_mul _ _ _).symm), sm_swap]
  refine sm_congr _ _ _ (fun j hj => ?_)
  rw [← sm_ind a _ n (p.vn h hn j hj).1]
  refine sm_congr _ _ _ (fun r _ => ?_)
  split <;> simp
/-- no lengths up to L whose weight is 1 or less cost less -/
theorem Lvs.least (h : Lvs a n L W c tot) (h1 : 1 ≤ n) (o : Nat → Nat) (ho : ∀ r, r < n → o r ≤ L) (hk : sm (fun r => 2 ^ (L - o r)) n ≤ 2 ^ L) : sm (W L) (2 * n - 2) ≤ sm (fun r => a r * o r) n := by
  have hlow := h.lower (fun j => ct (fun r => decide (L ≤ o r + (j - 1))) n) (fun j => ct_le _ _) h1 (by
    have e1 : sm (fun r => sm (fun i => if decide (L ≤ o r + i) then 2 ^ i else 0) L + 2 ^ (L - o r)) n = 2 ^ L * n := by
      rw [sm_congr _ (fun _ => 2 ^ L) n (fun r hr => one_wide (o r) L (ho r hr)), sm_const]
    rw [sm_add, sm_swap] at e1
    have e2 : sm (fun i => ct (fun r => decide (L ≤ o r + (i + 1 - 1))) n * 2 ^ i) L = sm (fun j => sm (fun r => if decide (L ≤ o r + j) then 2 ^ j else 0) n) L := by
      refine sm_congr _ _ _ (fun j hj => ?_)
      rw [Nat.mul_comm, ct, ← sm_mul, Nat.add_sub_cancel]
      refine sm_congr _ _ _ (fun r hr => ?_)
      split <;> simp
    rw [e2]
    have : 2 ^ L * n = 2 ^ L * (n - 1) + 2 ^ L := by
      obtain ⟨m, rfl⟩ : ∃ m, n = m + 1 := ⟨n - 1, by omega⟩
      rw [Nat.add_sub_cancel, Nat.mul_succ]
    omega)
  refine Nat.le_trans hlow ?_
  have e3 : sm (fun r => a r * o r) n = sm (fun i => sm (fun r => if decide (L ≤ o r + i) then a r else 0) n) L := by
    rw [sm_swap (fun i r => if decide (L ≤ o r + i) then a r else 0)]
    refine sm_congr _ _ _ (fun r hr => ?_)
    have := one_cost (o r) L (ho r hr)
    conv => lhs; rw [← this, ct, ← sm_mul]
    refine sm_congr _ _ _ (fun i _ => ?_)
    split <;> simp
  rw [e3]
  refine sm_le _ _ _ (fun i hi => ?_)
  rw [Nat.add_sub_cancel]
  exact least_sum a n h.asc _
theorem Pck.best (p : Pck n L c K) (h : Lvs a n L W c tot) (hn : n ≤ 2 ^ L) (h1 : 1 ≤ n) (o : Nat → Nat) (ho : ∀ r, r < n → o r ≤ L) (hk : sm (fun r => 2 ^ (L - o r)) n ≤ 2 ^ L) : sm (fun r => a r * pmLen c K L r) n ≤ sm (fun r => a r * o r) n := by
  rw [p.pmCost h hn]; exact h.least h1 o ho hk
end
/-- 2^(L-l) lies over the line through m and m+1 -/
theorem chord (L m l : Nat) (hm : m + 1 ≤ L) (hl : l ≤ L) : (m + 2) * 2 ^ (L - m - 1) ≤ 2 ^ (L - l) + l * 2 ^ (L - m - 1) ∧ (2 ^ (L - l) + l * 2 ^ (L - m - 1) = (m + 2) * 2 ^ (L - m - 1) → l = m ∨ l = m + 1) := by
  have hD : 0 < 2 ^ (L - m - 1) := Nat.pow_pos (by decide)
  rcases Nat.lt_or_ge l (m + 1) with h | h
  · obtain ⟨k, rfl⟩ : ∃ k, m = l + k := ⟨m - l, by omega⟩
    have e : 2 ^ (L - l) = 2 ^ (k + 1) * 2 ^ (L - (l + k) - 1) := by rw [← Nat.pow_add]; congr 1; omega
    rw [e]
    generalize 2 ^ (L - (l + k) - 1) = D at *
    have hk : k + 2 ≤ 2 ^ (k + 1) ∧ (0 < k → k + 2 < 2 ^ (k + 1)) := by
      clear e hm hl h hD
      induction k with
      | zero => simp
      | succ k ih => rw [Nat.pow_succ]; omega
    rw [show l + k + 2 = (k + 2) + l by omega, Nat.add_mul]
    refine ⟨Nat.add_le_add_right (Nat.mul_le_mul_right _ hk.1) _, fun h0 => ?_⟩
    left
    rcases Nat.eq_zero_or_pos k with e0 | e0
    · omega
    · have := Nat.mul_lt_mul_of_pos_right (hk.2 e0) hD
      omega
  · obtain ⟨k, rfl⟩ : ∃ k, l = m + 1 + k := ⟨l - (m + 1), by omega⟩
    cases k with
    | zero =>
      have e : 2 ^ (L - (m + 1 + 0)) = 2 ^ (L - m - 1) := by congr 1
      rw [e, show m + 2 = 1 + (m + 1) by omega, Nat.add_mul, Nat.one_mul]
      exact ⟨Nat.le_refl _, fun _ => .inr rfl⟩
    | succ k =>
      have hp : 0 < 2 ^ (L - (m + 1 + (k + 1))) := Nat.pow_pos (by decide)
      generalize 2 ^ (L - m - 1) = D at *
      rw [show m + 1 + (k + 1) = (m + 2) + k by omega, Nat.add_mul (m + 2) k]
      rw [show m + 1 + (k + 1) = (m + 2) + k by omega] at hp
      generalize 2 ^ (L - (m + 2 + k)) = q at *
      generalize (m + 2) * D = x
      exact ⟨by omega, fun h0 => by omega⟩
/-- symbols that come equally often: the best lengths are m and m + 1 -/
theorem flat (n L m x : Nat) (l : Nat → Nat) (hx : 0 < x) (hm : m + 1 ≤ L) (h1 : 2 ^ m ≤ n) (h2 : n ≤ 2 ^ (m + 1)) (hl : ∀ r, r < n → l r ≤ L) (hk : sm (fun r => 2 ^ (L - l r)) n = 2 ^ L)
    (hb : ∀ o : Nat → Nat, (∀ r, r < n → o r = m ∨ o r = m + 1) → sm (fun r => 2 ^ (L - o r)) n ≤ 2 ^ L → sm (fun r => x * l r) n ≤ sm (fun r => x * o r) n) : ∀ r, r < n → l r = m ∨ l r = m + 1 := by
  have hD : 0 < 2 ^ (L - m - 1) := Nat.pow_pos (by decide)
  have eL : 2 ^ L = 2 ^ (m + 1) * 2 ^ (L - m - 1) := by rw [← Nat.pow_add]; congr 1; omega
  have eM : 2 ^ (L - m) = 2 * 2 ^ (L - m - 1) := by rw [← Nat.pow_succ']; congr 1; omega
  have eM1 : 2 ^ (L - (m + 1)) = 2 ^ (L - m - 1) := by congr 1
  -- the lengths held against
  have so : ∀ s t, sm (fun r => if decide (r < s) then t else t + 1) n + (if s ≤ n then s else n) = (t + 1) * n := by
    intro s t
    clear hb hk hl h1 h2
    induction n with
    | zero => simp [sm]
    | succ n ih =>
      rw [sm, Nat.mul_succ]
      by_cases h : n < s
      · rw [if_pos (by simpa using h)]
        by_cases h3 : s ≤ n + 1
        · rw [if_pos h3]; rw [if_neg (by omega)] at ih; omega
        · rw [if_neg h3]; rw [if_neg (by omega)] at ih; omega
      · rw [if_neg (by simpa using h), if_pos (by omega)]; rw [if_pos (by omega)] at ih; omega
  have hso := so (2 ^ (m + 1) - n) m
  have h2m : 2 ^ (m + 1) = 2 * 2 ^ m := by rw [Nat.pow_succ']
  rw [if_pos (by omega)] at hso
  have ko : sm (fun r => 2 ^ (L - (if decide (r < 2 ^ (m + 1) - n) then m else m + 1))) n = 2 ^ L := by
    have e : sm (fun r => 2 ^ (L - (if decide (r < 2 ^ (m + 1) - n) then m else m + 1))) n = sm (fun r => 2 ^ (L - m - 1) + if decide (r < 2 ^ (m + 1) - n) then 2 ^ (L - m - 1) else 0) n := by
      refine sm_congr _ _ _ (fun r _ => ?_)
      split
      · rw [eM]; omega
      · rw [eM1]; rfl
    rw [e, sm_add, sm_const, sm_ind (fun _ => 2 ^ (L - m - 1)) _ n (by omega), sm_const, ← Nat.mul_add, eL, Nat.mul_comm]
    congr 1; omega
  have hbb := hb (fun r => if decide (r < 2 ^ (m + 1) - n) then m else m + 1) (fun r _ => by split <;> simp) (by rw [ko]; exact Nat.le_refl _)
  rw [sm_mul, sm_mul] at hbb
  have hle := Nat.le_of_mul_le_mul_left hbb hx
  -- the sum of the line's gaps is nothing
  have hgap : sm (fun r => 2 ^ (L - l r) + l r * 2 ^ (L - m - 1)) n ≤ sm (fun _ => (m + 2) * 2 ^ (L - m - 1)) n := by
    rw [sm_add, hk, sm_const, eL]
    have e : sm (fun r => l r * 2 ^ (L - m - 1)) n = 2 ^ (L - m - 1) * sm l n := by
      rw [← sm_mul]; exact sm_congr _ _ _ (fun r _ => Nat.mul_comm _ _)
    rw [e, Nat.mul_comm (2 ^ (m + 1)), ← Nat.mul_add, Nat.mul_comm (m + 2), Nat.mul_assoc]
    refine Nat.mul_le_mul_left _ ?_
    rw [Nat.succ_mul]
    omega
  have hall : ∀ N, N ≤ n → sm (fun r => 2 ^ (L - l r) + l r * 2 ^ (L - m - 1)) N ≤ sm (fun _ => (m + 2) * 2 ^ (L - m - 1)) N := by
    intro N hN
    obtain ⟨d, rfl⟩ : ∃ d, n = N + d := ⟨n - N, by omega⟩
    clear hb hk so hso ko hbb hle h1 h2 hN
    induction d with
    | zero => exact hgap
    | succ d ih =>
      refine ih (fun r hr => hl r (by omega)) ?_
      rw [show N + (d + 1) = (N + d) + 1 by omega, sm, sm] at hgap
      have := (chord L m (l (N + d)) hm (hl _ (by omega))).1
      omega
  intro r hr
  refine (chord L m (l r) hm (hl r hr)).2 ?_
  have g1 := hall (r + 1) (by omega)
  rw [sm, sm] at g1
  have g2 : sm (fun _ => (m + 2) * 2 ^ (L - m - 1)) r ≤ sm (fun r => 2 ^ (L - l r) + l r * 2 ^ (L - m - 1)) r := sm_le _ _ _ (fun t ht => (chord L m (l t) hm (hl t (by omega))).1)
  have g3 := (chord L m (l r) hm (hl r hr)).1
  omega
end Go.Proofs.Ytibhelfiibincaa
