/- Package-merge, as numbers: what the least cost of words of bounded length is, and which lengths have it. -/
namespace Go.Proofs.Ytibkepjbblfkoaa
set_option linter.unusedVariables false
set_option linter.unusedSimpArgs false

/-- f 0 + .. + f (n-1) -/
def sm (f : Nat → Nat) : Nat → Nat
  | 0 => 0
  | n + 1 => sm f n + f n
theorem sm_mono (f : Nat → Nat) (a b : Nat) (h : a ≤ b) : sm f a ≤ sm f b := by
  induction b with
  | zero => obtain rfl : a = 0 := by omega
            exact Nat.le_refl _
  | succ b ih =>
    by_cases e : a = b + 1
    · subst e; exact Nat.le_refl _
    · have := ih (by omega); rw [sm]; omega
theorem sm_congr (f g : Nat → Nat) (n : Nat) (h : ∀ t, t < n → f t = g t) : sm f n = sm g n := by
  induction n with
  | zero => rfl
  | succ n ih => rw [sm, sm, ih (fun t ht => h t (by omega)), h n (by omega)]
theorem sm_add (f g : Nat → Nat) (n : Nat) : sm (fun t => f t + g t) n = sm f n + sm g n := by
  induction n with
  | zero => rfl
  | succ n ih => simp only [sm, ih]; omega
theorem sm_le (f g : Nat → Nat) (n : Nat) (h : ∀ t, t < n → f t ≤ g t) : sm f n ≤ sm g n := by
  induction n with
  | zero => exact Nat.le_refl _
  | succ n ih => have := ih (fun t ht => h t (by omega)); have := h n (by omega); simp only [sm]; omega
theorem sm_const (c n : Nat) : sm (fun _ => c) n = c * n := by
  induction n with
  | zero => rfl
  | succ n ih => rw [sm, ih, Nat.mul_succ]
theorem sm_zero (n : Nat) : sm (fun _ => 0) n = 0 := by rw [sm_const]; simp
theorem sm_mul (c : Nat) (f : Nat → Nat) (n : Nat) : sm (fun t => c * f t) n = c * sm f n := by
  induction n with
  | zero => rfl
  | succ n ih => rw [sm, sm, ih, Nat.mul_add]
theorem sm_swap (f : Nat → Nat → Nat) (n m : Nat) : sm (fun i => sm (fun j => f i j) m) n = sm (fun j => sm (fun i => f i j) n) m := by
  induction n with
  | zero => simp only [sm]; rw [sm_zero]
  | succ n ih => simp only [sm]; rw [ih, ← sm_add]
/-- how many t below n have q -/
def ct (q : Nat → Bool) (n : Nat) : Nat := sm (fun t => if q t then 1 else 0) n
theorem ct_succ (q : Nat → Bool) (n : Nat) : ct q (n + 1) = ct q n + if q n then 1 else 0 := rfl
theorem ct_le (q : Nat → Bool) (n : Nat) : ct q n ≤ n := by
  induction n with
  | zero => exact Nat.le_refl _
  | succ n ih => rw [ct_succ]; split <;> omega
/-- ascending -/
def Asc (a : Nat → Nat) (n : Nat) : Prop := ∀ i j, i ≤ j → j < n → a i ≤ a j
/-- any u of them cost at least as much as the u least -/
theorem least_sum (a : Nat → Nat) (n : Nat) (ha : Asc a n) (q : Nat → Bool) : sm a (ct q n) ≤ sm (fun t => if q t then a t else 0) n := by
  induction n with
  | zero => exact Nat.le_refl _
  | succ n ih =>
    have := ih (fun i j h1 h2 => ha i j h1 (by omega))
    rw [ct_succ, sm]
    by_cases h : q n
    · rw [if_pos h, if_pos h, sm]
      have := ha (ct q n) n (ct_le q n) (by omega)
      omega
    · rw [if_neg h, if_neg h]; exact this
/-- W is a and P, merged: c k of its first k are out of a -/
structure Mrg (a : Nat → Nat) (n : Nat) (P : Nat → Nat) (np : Nat) (W c : Nat → Nat) (tot : Nat) : Prop where
  zero : c 0 = 0
  step : ∀ k, k < tot → (c (k + 1) = c k + 1 ∧ c k < n ∧ W k = a (c k) ∧ (k - c k < np → a (c k) ≤ P (k - c k))) ∨
    (c (k + 1) = c k ∧ k - c k < np ∧ W k = P (k - c k) ∧ (c k < n → P (k - c k) ≤ a (c k)))
section
variable {a P W c : Nat → Nat} {n np tot : Nat}
theorem Mrg.bd (h : Mrg a n P np W c tot) (k : Nat) (hk : k ≤ tot) : c k ≤ k ∧ c k ≤ n ∧ k - c k ≤ np := by
  induction k with
  | zero => have := h.zero; omega
  | succ k ih =>
    have h1 := ih (by omega)
    rcases h.step k (by omega) with ⟨e, b, _, _⟩ | ⟨e, b, _, _⟩ <;> omega
/-- what has been taken is no more than what comes next -/
theorem Mrg.ord (h : Mrg a n P np W c tot) (ha : Asc a n) (hP : Asc P np) (k : Nat) (hk : k ≤ tot) :
    (∀ t, t < k - c k → c k < n → P t ≤ a (c k)) ∧ (∀ t, t < c k → k - c k < np → a t ≤ P (k - c k)) := by
  induction k with
  | zero => have := h.zero; exact ⟨fun t ht => by omega, fun t ht => by omega⟩
  | succ k ih =>
    obtain ⟨h1, h2⟩ := ih (by omega)
    have hb := h.bd k (by omega)
    rcases h.step k (by omega) with ⟨e, b, w, o⟩ | ⟨e, b, w, o⟩
    · rw [e, show k + 1 - (c k + 1) = k - c k by omega]
      refine ⟨fun t ht hn => Nat.le_trans (h1 t ht b) (ha _ _ (by omega) hn), fun t ht hn => ?_⟩
      by_cases e2 : t = c k
      · subst e2; exact o hn
      · exact h2 t (by omega) hn
    · rw [e, show k + 1 - c k = k - c k + 1 by omega]
      refine ⟨fun t ht hn => ?_, fun t ht hn => Nat.le_trans (h2 t ht b) (hP _ _ (by omega) hn)⟩
      by_cases e2 : t = k - c k
      · subst e2; exact o hn
      · exact h1 t (by omega) hn
theorem Mrg.asc1 (h : Mrg a n P np W c tot) (ha : Asc a n) (hP : Asc P np) (k : Nat) (hk : k + 1 < tot) : W k ≤ W (k + 1) := by
  have hb := h.bd k (by omega)
  rcases h.step k (by omega) with ⟨e, b, w, o⟩ | ⟨e, b, w, o⟩ <;> rcases h.step (k + 1) hk with ⟨e', b', w', o'⟩ | ⟨e', b', w', o'⟩
  · rw [w, w', e]; exact ha _ _ (by omega) (by omega)
  · rw [w, w', e, show k + 1 - (c k + 1) = k - c k by omega]; rw [e, show k + 1 - (c k + 1) = k - c k by omega] at b'; exact o b'
  · rw [w, w', e]; rw [e] at b'; exact o b'
  · rw [w, w', e]; rw [e] at b'; exact hP _ _ (by omega) b'
theorem asc_of_step (f : Nat → Nat) (m : Nat) (h : ∀ k, k + 1 < m → f k ≤ f (k + 1)) : Asc f m := by
  intro i j hij hj
  induction j with
  | zero => obtain rfl : i = 0 := by omega
            exact Nat.le_refl _
  | succ j ih =>
    by_cases e : i = j + 1
    · subst e; exact Nat.le_refl _
    · exact Nat.le_trans (ih (by omega) (by omega)) (h j hj)
theorem Mrg.asc (h : Mrg a n P np W c tot) (ha : Asc a n) (hP : Asc P np) : Asc W tot := asc_of_step _ _ (h.asc1 ha hP)
theorem Mrg.split (h : Mrg a n P np W c tot) (k : Nat) (hk : k ≤ tot) : sm W k = sm a (c k) + sm P (k - c k) := by
  induction k with
  | zero => rw [h.zero]; rfl
  | succ k ih =>
    have hb := h.bd k (by omega)
    rw [sm, ih (by omega)]
    rcases h.step k (by omega) with ⟨e, b, w, o⟩ | ⟨e, b, w, o⟩
    · rw [e, show k + 1 - (c k + 1) = k - c k by omega, sm, w]; omega
    · rw [e, show k + 1 - c k = k - c k + 1 by omega, sm, w]; omega
theorem sm_run_ge (f : Nat → Nat) (x i : Nat) : ∀ d, (∀ t, i ≤ t → t < i + d → x ≤ f t) → sm f i + x * d ≤ sm f (i + d) := by
  intro d
  induction d with
  | zero => intro _; simp
  | succ d ih =>
    intro h
    have := ih (fun t h1 h2 => h t h1 (by omega))
    have := h (i + d) (by omega) (by omega)
    rw [show i + (d + 1) = (i + d) + 1 by omega, sm, Nat.mul_succ]; omega
theorem sm_run_le (f : Nat → Nat) (x i : Nat) : ∀ d, (∀ t, i ≤ t → t < i + d → f t ≤ x) → sm f (i + d) ≤ sm f i + x * d := by
  intro d
  induction d with
  | zero => intro _; simp
  | succ d ih =>
    intro h
    have := ih (fun t h1 h2 => h t h1 (by omega))
    have := h (i + d) (by omega) (by omega)
    rw [show i + (d + 1) = (i + d) + 1 by omega, sm, Nat.mul_succ]; omega
/-- the first k of the merged row are the least that m of the one and p of the other cost -/
theorem Mrg.least (h : Mrg a n P np W c tot) (ha : Asc a n) (hP : Asc P np) (m p : Nat) (hm : m ≤ n) (hp : p ≤ np) (hk : m + p ≤ tot) : sm W (m + p) ≤ sm a m + sm P p := by
  have hb := h.bd (m + p) hk
  obtain ⟨o1, o2⟩ := h.ord ha hP (m + p) hk
  rw [h.split (m + p) hk]
  rcases Nat.lt_trichotomy m (c (m + p)) with hlt | heq | hgt
  · obtain ⟨d, hd⟩ : ∃ d, c (m + p) = m + d := ⟨c (m + p) - m, by omega⟩
    obtain ⟨e, he⟩ : ∃ e, p = (m + p - c (m + p)) + e := ⟨c (m + p) - m, by omega⟩
    have hde : d = e := by omega
    subst hde
    generalize m + p - c (m + p) = q at *
    generalize c (m + p) = cc at *
    subst hd
    have h1 := sm_run_le a (P q) m d (fun t h1 h2 => o2 t h2 (by omega))
    have h2 := sm_run_ge P (P q) q d (fun t h1 h2 => hP _ _ h1 (by omega))
    rw [← he] at h2
    omega
  · rw [← heq, show m + p - m = p by omega]; exact Nat.le_refl _
  · obtain ⟨d, hd⟩ : ∃ d, m = c (m + p) + d := ⟨m - c (m + p), by omega⟩
    obtain ⟨e, he⟩ : ∃ e, m + p - c (m + p) = p + e := ⟨m - c (m + p), by omega⟩
    have hde : d = e := by omega
    subst hde
    rw [he]
    rw [he] at o1
    generalize c (m + p) = cc at *
    subst hd
    have h1 := sm_run_ge a (a cc) cc d (fun t h1 h2 => ha _ _ h1 (by omega))
    have h2 := sm_run_le P (a cc) p d (fun t h1 h2 => o1 t h2 (by omega))
    omega
end
/-- the rows of L levels, the deepest first: each is a merged with the pairs of the one ahead -/
structure Lvs (a : Nat → Nat) (n L : Nat) (W c : Nat → Nat → Nat) (tot : Nat → Nat) : Prop where
  asc : Asc a n
  pos : ∀ r, r < n → 0 < a r
  tot0 : tot 0 = 0
  tots : ∀ j, j < L → tot (j + 1) = n + tot j / 2
  mrg : ∀ j, j < L → Mrg a n (fun t => W j (2 * t) + W j (2 * t + 1)) (tot j / 2) (W (j + 1)) (c (j + 1)) (tot (j + 1))
theorem sm_pairs (W : Nat → Nat) (p : Nat) : sm (fun t => W (2 * t) + W (2 * t + 1)) p = sm W (2 * p) := by
  induction p with
  | zero => rfl
  | succ p ih => rw [sm, ih, show 2 * (p + 1) = 2 * p + 1 + 1 by omega, sm, sm]; omega
theorem asc_pairs (W : Nat → Nat) (m : Nat) (h : Asc W m) : Asc (fun t => W (2 * t) + W (2 * t + 1)) (m / 2) := by
  intro i j hij hj
  exact Nat.add_le_add (h _ _ (by omega) (by omega)) (h _ _ (by omega) (by omega))
section
variable {a K : Nat → Nat} {n L : Nat} {W c : Nat → Nat → Nat} {tot : Nat → Nat}
theorem Lvs.ascW (h : Lvs a n L W c tot) (j : Nat) (hj : j ≤ L) : Asc (W j) (tot j) := by
  induction j with
  | zero => rw [h.tot0]; intro i j _ h2; omega
  | succ j ih => exact (h.mrg j (by omega)).asc h.asc (asc_pairs _ _ (ih (by omega)))
theorem Lvs.posW (h : Lvs a n L W c tot) (j : Nat) (hj : j ≤ L) : ∀ k, k < tot j → 0 < W j k := by
  induction j with
  | zero => rw [h.tot0]; intro k h2; omega
  | succ j ih =>
    intro k hk
    rcases (h.mrg j (by omega)).step k hk with ⟨_, b, w, _⟩ | ⟨_, b, w, _⟩
    · rw [w]; exact h.pos _ b
    · rw [w]; have := ih (by omega) (2 * (k - c (j + 1) k)) (by omega); omega
theorem Lvs.enough (h : Lvs a n L W c tot) (j : Nat) (hj : j ≤ L) : ∀ r, n ≤ 2 ^ j * r → 2 * n ≤ tot j + 2 * r := by
  induction j with
  | zero => intro r hr; rw [h.tot0]; simp at hr; omega
  | succ j ih =>
    intro r hr
    have := ih (by omega) (2 * r) (by rw [← Nat.mul_assoc, ← Nat.pow_succ]; exact hr)
    rw [h.tots j (by omega)]; omega
/-- how many are taken of each level, where u j leaves are taken of level j -/
def tk (u : Nat → Nat) : Nat → Nat
  | 0 => 0
  | j + 1 => u (j + 1) + tk u j / 2
theorem Lvs.tk_le (h : Lvs a n L W c tot) (u : Nat → Nat) (hu : ∀ j, u j ≤ n) (j : Nat) (hj : j ≤ L) : tk u j ≤ tot j := by
  induction j with
  | zero => exact Nat.zero_le _
  | succ j ih => have := ih (by omega); have := hu (j + 1); rw [tk, h.tots j (by omega)]; omega
theorem Lvs.tk_cost (h : Lvs a n L W c tot) (u : Nat → Nat) (hu : ∀ j, u j ≤ n) (j : Nat) (hj : j ≤ L) : sm (W j) (tk u j) ≤ sm (fun i => sm a (u (i + 1))) j := by
  induction j with
  | zero => exact Nat.le_refl _
  | succ j ih =>
    have h1 := ih (by omega)
    have h2 := h.tk_le u hu j (by omega)
    have h3 := (h.mrg j (by omega)).least h.asc (asc_pairs _ _ (h.ascW j (by omega))) (u (j + 1)) (tk u j / 2) (hu _) (by omega) (by rw [h.tots j (by omega)]; have := hu (j + 1); omega)
    rw [sm_pairs] at h3
    have h4 := sm_mono (W j) (2 * (tk u j / 2)) (tk u j) (by omega)
    rw [tk, sm]; omega
theorem tk_wide (u : Nat → Nat) (j : Nat) : 2 * sm (fun i => u (i + 1) * 2 ^ i) j < 2 ^ j * (tk u j + 1) := by
  induction j with
  | zero => simp [sm]
  | succ j ih =>
    rw [sm, tk, Nat.pow_succ]
    have h1 : 2 ^ j * (tk u j + 1) ≤ 2 ^ j * (2 * (tk u j / 2) + 2) := Nat.mul_le_mul_left _ (by omega)
    have e1 : 2 ^ j * 2 * (u (j + 1) + tk u j / 2 + 1) = 2 * (u (j + 1) * 2 ^ j) + 2 ^ j * (2 * (tk u j / 2) + 2) := by
      rw [show u (j + 1) + tk u j / 2 + 1 = u (j + 1) + (tk u j / 2 + 1) by omega, Nat.mul_add, show 2 * (tk u j / 2) + 2 = 2 * (tk u j / 2 + 1) by omega, Nat.mul_assoc, Nat.mul_assoc, Nat.mul_left_comm (2 ^ j) 2, Nat.mul_comm (2 ^ j) (u (j + 1)), Nat.mul_left_comm (2 ^ j) 2]
    omega
/-- nothing wide enough costs less than the first of the last level -/
theorem Lvs.lower (h : Lvs a n L W c tot) (u : Nat → Nat) (hu : ∀ j, u j ≤ n) (hn : 1 ≤ n) (hw : 2 ^ L * (n - 1) ≤ sm (fun i => u (i + 1) * 2 ^ i) L) : sm (W L) (2 * n - 2) ≤ sm (fun i => sm a (u (i + 1))) L := by
  have h1 := tk_wide u L
  have h2 : 2 ^ L * (2 * n - 2) < 2 ^ L * (tk u L + 1) := by
    have e : 2 ^ L * (2 * n - 2) = 2 * (2 ^ L * (n - 1)) := by rw [show 2 * n - 2 = 2 * (n - 1) by omega, Nat.mul_left_comm]
    omega
  have h3 := Nat.lt_of_mul_lt_mul_left h2
  exact Nat.le_trans (sm_mono _ _ _ (by omega)) (h.tk_cost u hu L (Nat.le_refl _))
/-- what is taken: of the last level 2n - 2, of each level beneath the pairs' halves -/
structure Pck (n L : Nat) (c : Nat → Nat → Nat) (K : Nat → Nat) : Prop where
  top : K L = 2 * n - 2
  down : ∀ j, j < L → K j = 2 * (K (j + 1) - c (j + 1) (K (j + 1)))
theorem Pck.le (p : Pck n L c K) (h : Lvs a n L W c tot) (hn : n ≤ 2 ^ L) : ∀ i j, i + j = L → K j ≤ tot j := by
  intro i
  induction i with
  | zero =>
    intro j hj
    obtain rfl : j = L := by omega
    have := h.enough j (Nat.le_refl _) 1 (by omega)
    rw [p.top]; omega
  | succ i ih =>
    intro j hj
    have h1 := ih (j + 1) (by omega)
    have h2 := (h.mrg j (by omega)).bd (K (j + 1)) h1
    rw [p.down j (by omega)]; omega
theorem Pck.le' (p : Pck n L c K) (h : Lvs a n L W c tot) (hn : n ≤ 2 ^ L) (j : Nat) (hj : j ≤ L) : K j ≤ tot j := p.le h hn (L - j) j (by omega)
theorem Pck.vn (p : Pck n L c K) (h : Lvs a n L W c tot) (hn : n ≤ 2 ^ L) (j : Nat) (hj : j < L) : c (j + 1) (K (j + 1)) ≤ n ∧ c (j + 1) (K (j + 1)) ≤ K (j + 1) := by
  have := (h.mrg j hj).bd (K (j + 1)) (p.le' h hn (j + 1) (by omega)); omega
theorem Pck.cost (p : Pck n L c K) (h : Lvs a n L W c tot) (hn : n ≤ 2 ^ L) (j : Nat) (hj : j ≤ L) : sm (W j) (K j) = sm (fun i => sm a (c (i + 1) (K (i + 1)))) j := by
  induction j with
  | zero =>
    have := p.le' h hn 0 (by omega)
    rw [h.tot0] at this
    rw [show K 0 = 0 by omega]; rfl
  | succ j ih =>
    rw [(h.mrg j (by omega)).split _ (p.le' h hn (j + 1) hj), sm_pairs, ← p.down j (by omega), ih (by omega), sm]
    omega
theorem Pck.wide (p : Pck n L c K) (h : Lvs a n L W c tot) (hn : n ≤ 2 ^ L) (j : Nat) (hj : j ≤ L) : 2 * sm (fun i => c (i + 1) (K (i + 1)) * 2 ^ i) j = 2 ^ j * K j := by
  induction j with
  | zero =>
    have := p.le' h hn 0 (by omega)
    rw [h.tot0] at this
    rw [show K 0 = 0 by omega]; rfl
  | succ j ih =>
    have h1 := (p.vn h hn j (by omega)).2
    have h2 := p.down j (by omega)
    rw [sm, Nat.mul_add, ih (by omega), h2, Nat.pow_succ]
    generalize c (j + 1) (K (j + 1)) = v at *
    obtain ⟨d, hd⟩ : ∃ d, K (j + 1) = v + d := ⟨K (j + 1) - v, by omega⟩
    rw [hd, Nat.add_sub_cancel_left, Nat.mul_add, Nat.mul_assoc, Nat.mul_assoc, Nat.mul_comm v (2 ^ j), Nat.mul_left_comm 2 (2 ^ j) v, Nat.add_comm]
theorem Mrg.last_ge {P W c : Nat → Nat} {np tot : Nat} (h : Mrg a n P np W c tot) (ha : Asc a n) (hP : Asc P np) (k t : Nat) (hk : k + 1 ≤ tot) (ht : t < c (k + 1)) : a t ≤ W k := by
  obtain ⟨o1, o2⟩ := h.ord ha hP k (by omega)
  rcases h.step k (by omega) with ⟨e, b, w, _⟩ | ⟨e, b, w, _⟩
  · rw [w]; exact ha _ _ (by omega) b
  · rw [w]; exact o2 t (by omega) b
/-- a level has no more leaves taken than the one behind it -/
theorem Pck.mono1 (p : Pck n L c K) (h : Lvs a n L W c tot) (hn : n ≤ 2 ^ L) (j : Nat) (hj : j + 1 < L) : c (j + 1) (K (j + 1)) ≤ c (j + 2) (K (j + 2)) := by
  rcases Nat.lt_or_ge (c (j + 2) (K (j + 2))) (c (j + 1) (K (j + 1))) with hlt | hge
  · exfalso
    have m1 := h.mrg j (by omega)
    have m2 : Mrg a n (fun t => W (j + 1) (2 * t) + W (j + 1) (2 * t + 1)) (tot (j + 1) / 2) (W (j + 2)) (c (j + 2)) (tot (j + 2)) := h.mrg (j + 1) hj
    have l1 := p.le' h hn (j + 1) (by omega)
    have l2 := p.le' h hn (j + 2) (by omega)
    have v1 := p.vn h hn j (by omega)
    have d : K (j + 1) = 2 * (K (j + 2) - c (j + 2) (K (j + 2))) := p.down (j + 1) hj
    have b2 := m2.bd _ l2
    have aP := asc_pairs _ _ (h.ascW (j + 1) (by omega))
    have o := (m2.ord h.asc aP (K (j + 2)) l2).1
    generalize c (j + 2) (K (j + 2)) = v at *
    obtain ⟨q, hq⟩ : ∃ q, K (j + 2) - v = q + 1 := ⟨K (j + 2) - v - 1, by omega⟩
    have h3 := o q (by omega) (by omega)
    rw [hq] at d
    have h4 := m1.last_ge h.asc (asc_pairs _ _ (h.ascW j (by omega))) (2 * q + 1) v (by omega) (by rw [show 2 * q + 1 + 1 = K (j + 1) by omega]; exact hlt)
    have h5 := h.posW (j + 1) (by omega) (2 * q) (by omega)
    omega
  · exact hge
theorem Pck.mono (p : Pck n L c K) (h : Lvs a n L W c tot) (hn : n ≤ 2 ^ L) (i j : Nat) (hij : i ≤ j) (hj : j < L) : c (i + 1) (K (i + 1)) ≤ c (j + 1) (K (j + 1)) :=
  asc_of_step (fun j => c (j + 1) (K (j + 1))) L (fun k hk => p.mono1 h hn k hk) i j hij hj
/-- an upper part of the levels, as widths -/
theorem geo (q : Nat → Bool) (L : Nat) (hq : ∀ i j, i ≤ j → j < L → q i = true → q j = true) : sm (fun i => if q i then 2 ^ i else 0) L + 2 ^ (L - ct q L) = 2 ^ L ∧ ct q L ≤ L := by
  refine ⟨?_, ct_le _ _⟩
  induction L with
  | zero => rfl
  | succ L ih =>
    have h1 := ih (fun i j a b => hq i j a (by omega))
    have h2 := ct_le q L
    rw [sm, ct_succ]
    by_cases h : q L = true
    · rw [if_pos h, if_pos h, show L + 1 - (ct q L + 1) = L - ct q L by omega, Nat.pow_succ]; omega
    · have h0 : ∀ i, i < L → q i = false := fun i hi => by
        cases hh : q i with
        | false => rfl
        | true => exact absurd (hq i L (by omega) (by omega) hh) h
      have e1 : sm (fun i => if q i then 2 ^ i else 0) L = 0 := by
        rw [sm_congr _ (fun _ => 0) L (fun t ht => by simp [h0 t ht]), sm_zero]
      have e2 : ct q L = 0 := by
        unfold ct; rw [sm_congr _ (fun _ => 0) L (fun t ht => by simp [h0 t ht]), sm_zero]
      rw [if_neg h, if_neg h, e1, e2]; simp
end
end Go.Proofs.Ytibkepjbblfkoaa
