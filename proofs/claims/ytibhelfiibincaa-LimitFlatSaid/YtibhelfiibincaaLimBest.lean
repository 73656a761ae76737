/- The document's search through all lengths, as a number: what it finds, and that it finds the least. -/
import Derived.Test.YtibhelfiibincaaLimGood
namespace Go.Proofs.Ytibhelfiibincaa
set_option linter.unusedVariables false
set_option linter.unusedSimpArgs false

def bstep (b x : Int) : Int := if 0 ≤ x ∧ (b < 0 ∨ x < b) then x else b
def bloop (f : Nat → Int) : Nat → Int
  | 0 => -1
  | n + 1 => bstep (bloop f n) (f n)
theorem bloop_or (f : Nat → Int) (k : Nat) : bloop f k = -1 ∨ ∃ n, n < k ∧ 0 ≤ f n ∧ bloop f k = f n := by
  induction k with
  | zero => exact .inl rfl
  | succ k ih =>
    rw [bloop, bstep]
    split
    · next h => exact .inr ⟨k, by omega, h.1, rfl⟩
    · rcases ih with h | ⟨n, a, b, c⟩
      · exact .inl h
      · exact .inr ⟨n, by omega, b, c⟩
theorem bloop_le (f : Nat → Int) (k n : Nat) (hn : n < k) (h : 0 ≤ f n) : 0 ≤ bloop f k ∧ bloop f k ≤ f n := by
  induction k with
  | zero => omega
  | succ k ih =>
    rw [bloop, bstep]
    by_cases e : n = k
    · subst e
      split
      · omega
      · next h2 => simp only [not_and, not_or] at h2; have := h2 h; omega
    · have := ih (by omega)
      split
      · next h2 => omega
      · omega
theorem sm_split (f : Nat → Nat) (n m : Nat) : sm f (n + m) = sm f n + sm (fun i => f (n + i)) m := by
  induction m with
  | zero => rfl
  | succ m ih => rw [← Nat.add_assoc, sm, ih, sm]; omega
/-- the search: d lengths are left, from len on; so many symbols as lie from p to N; room pieces of the length len -/
def bst (g : Nat → Nat) (N : Nat) : Nat → Nat → Nat → Nat → Nat → Int
  | 0, p, _, _, so => if p = N then so else -1
  | d + 1, p, room, len, so => if p = N then so else if room < N - p ∧ room * 2 ^ d < N - p then -1 else
      bloop (fun n => bst g N d (p + n) ((room - n) * 2) (len + 1) (so + len * sm (fun i => g (p + i)) n)) (min (N - p) room + 1)
/-- what the search finds is a cost of lengths -/
theorem bst_sound (g : Nat → Nat) (N d : Nat) : ∀ p room len so, p ≤ N → 0 ≤ bst g N d p room len so → ∃ o : Nat → Nat, (∀ i, i < N - p → len ≤ o i ∧ o i < len + d) ∧
    sm (fun i => 2 ^ (len + d - o i)) (N - p) ≤ room * 2 ^ d ∧ bst g N d p room len so = (so + sm (fun i => g (p + i) * o i) (N - p) : Nat) := by
  induction d with
  | zero =>
    intro p room len so hp h
    rw [bst] at h ⊢
    by_cases e : p = N
    · subst e; exact ⟨fun _ => 0, fun i hi => by omega, by simp [sm], by simp [sm]⟩
    · rw [if_neg e] at h; omega
  | succ d ih =>
    intro p room len so hp h
    rw [bst] at h ⊢
    by_cases e : p = N
    · subst e; exact ⟨fun _ => 0, fun i hi => by omega, by simp [sm], by simp [sm]⟩
    rw [if_neg e] at h ⊢
    by_cases e2 : room < N - p ∧ room * 2 ^ d < N - p
    · rw [if_pos e2] at h; omega
    rw [if_neg e2] at h ⊢
    rcases bloop_or _ _ with h1 | ⟨n, hn, h2, h3⟩
    · rw [h1] at h; omega
    rw [h3]
    obtain ⟨o, a, b, c⟩ := ih (p + n) _ _ _ (by omega) h2
    rw [c]
    obtain ⟨m, hm⟩ : ∃ m, N - p = n + m := ⟨N - p - n, by omega⟩
    have hm2 : N - (p + n) = m := by omega
    rw [hm2] at a b ⊢
    refine ⟨fun i => if i < n then len else o (i - n), ?_, ?_, ?_⟩
    · intro i hi
      by_cases h4 : i < n
      · simp only [if_pos h4]; omega
      · simp only [if_neg h4]
        have := a (i - n) (by omega)
        omega
    · rw [hm, sm_split, sm_congr _ (fun _ => 2 ^ (d + 1)) n (fun t ht => by simp only [if_pos ht]; congr 1; omega), sm_const,
        sm_congr _ (fun i => 2 ^ (len + 1 + d - o i)) m (fun t ht => by simp only [if_neg (show ¬ n + t < n by omega)]; rw [Nat.add_sub_cancel_left]; congr 1; omega)]
      have : room * 2 ^ (d + 1) = n * 2 ^ (d + 1) + (room - n) * 2 * 2 ^ d := by
        obtain ⟨r, hr⟩ : ∃ r, room = n + r := ⟨room - n, by omega⟩
        rw [hr, Nat.add_sub_cancel_left, Nat.add_mul, Nat.pow_succ, Nat.mul_assoc r 2, Nat.mul_comm 2]
      rw [this, Nat.mul_comm (2 ^ (d + 1))]
      omega
    · rw [hm, sm_split, sm_congr (fun i => g (p + i) * (if i < n then len else o (i - n))) (fun i => len * g (p + i)) n (fun t ht => by simp only [if_pos ht]; exact Nat.mul_comm _ _), sm_mul,
        sm_congr (fun i => g (p + (n + i)) * (if n + i < n then len else o (n + i - n))) (fun i => g (p + n + i) * o i) m (fun t ht => by simp only [if_neg (show ¬ n + t < n by omega)]; rw [Nat.add_sub_cancel_left, Nat.add_assoc])]
      congr 1; omega
theorem sm_pos (f : Nat → Nat) (n : Nat) (h : ∀ i, i < n → 0 < f i) : n ≤ sm f n := by
  have := sm_le (fun _ => 1) f n (fun t ht => h t ht)
  rwa [sm_const, Nat.one_mul] at this
/-- it finds no more than any rising lengths cost -/
theorem bst_least (g : Nat → Nat) (N d : Nat) : ∀ p room len so (o : Nat → Nat), p ≤ N → (∀ i j, i ≤ j → j < N - p → o i ≤ o j) → (∀ i, i < N - p → len ≤ o i ∧ o i < len + d) →
    sm (fun i => 2 ^ (len + d - o i)) (N - p) ≤ room * 2 ^ d → 0 ≤ bst g N d p room len so ∧ bst g N d p room len so ≤ (so + sm (fun i => g (p + i) * o i) (N - p) : Nat) := by
  induction d with
  | zero =>
    intro p room len so o hp ho hb hw
    rw [bst]
    by_cases e : p = N
    · subst e; simp [sm]
    · have := hb 0 (by omega); omega
  | succ d ih =>
    intro p room len so o hp ho hb hw
    rw [bst]
    by_cases e : p = N
    · subst e; simp [sm]
    rw [if_neg e]
    have hge : N - p ≤ room * 2 ^ d := by
      have h1 : sm (fun _ => 2) (N - p) ≤ sm (fun i => 2 ^ (len + (d + 1) - o i)) (N - p) := sm_le _ _ _ (fun t ht => by
        have := hb t ht
        exact Nat.le_trans (show 2 ≤ 2 ^ 1 by decide) (Nat.pow_le_pow_right (by decide) (by omega)))
      rw [sm_const] at h1
      rw [Nat.pow_succ, ← Nat.mul_assoc] at hw
      omega
    rw [if_neg (by omega)]
    -- how many have the length len
    have hn : ∃ n, n ≤ N - p ∧ (∀ i, i < n → o i = len) ∧ ∀ i, n ≤ i → i < N - p → len < o i := by
      have key : ∀ M, M ≤ N - p → ∃ n, n ≤ M ∧ (∀ i, i < n → o i = len) ∧ ∀ i, n ≤ i → i < M → len < o i := by
        intro M
        induction M with
        | zero => intro _; exact ⟨0, by omega, fun i hi => by omega, fun i _ hi => by omega⟩
        | succ M ihM =>
          intro hM
          obtain ⟨n, a, b, c⟩ := ihM (by omega)
          by_cases h1 : o M = len
          · refine ⟨M + 1, by omega, fun i hi => ?_, fun i h1 h2 => by omega⟩
            have h2 := ho i M (by omega) (by omega)
            have h3 := (hb i (by omega)).1
            omega
          · refine ⟨n, by omega, b, fun i h2 h3 => ?_⟩
            by_cases h4 : i = M
            · subst h4; have := (hb i (by omega)).1; omega
            · exact c i h2 (by omega)
      exact key _ (Nat.le_refl _)
    obtain ⟨n, hn1, hn2, hn3⟩ := hn
    obtain ⟨m, hm⟩ : ∃ m, N - p = n + m := ⟨N - p - n, by omega⟩
    have hm2 : N - (p + n) = m := by omega
    have hw2 := hw
    rw [hm, sm_split, sm_congr _ (fun _ => 2 ^ (d + 1)) n (fun t ht => by rw [hn2 t ht]; congr 1; omega), sm_const] at hw2
    have hroom : n ≤ room := by
      have : 2 ^ (d + 1) * n ≤ room * 2 ^ (d + 1) := by omega
      rw [Nat.mul_comm] at this
      exact Nat.le_of_mul_le_mul_right this (Nat.pow_pos (by decide))
    have hrw : room * 2 ^ (d + 1) = n * 2 ^ (d + 1) + (room - n) * 2 * 2 ^ d := by
      obtain ⟨r, hr⟩ : ∃ r, room = n + r := ⟨room - n, by omega⟩
      rw [hr, Nat.add_sub_cancel_left, Nat.add_mul, Nat.pow_succ, Nat.mul_assoc r 2, Nat.mul_comm 2]
    have hi := ih (p + n) ((room - n) * 2) (len + 1) (so + len * sm (fun i => g (p + i)) n) (fun i => o (n + i)) (by omega) (fun i j a b => ho _ _ (by omega) (by omega))
      (fun i a => by have := hn3 (n + i) (by omega) (by omega); have := (hb (n + i) (by omega)).2; omega)
      (by rw [hm2, sm_congr _ (fun i => 2 ^ (len + (d + 1) - o (n + i))) m (fun t ht => by congr 1; omega)]; rw [hrw, Nat.mul_comm (2 ^ (d + 1))] at hw2; omega)
    have hl := bloop_le (fun n => bst g N d (p + n) ((room - n) * 2) (len + 1) (so + len * sm (fun i => g (p + i)) n)) (min (N - p) room + 1) n (by omega) hi.1
    refine ⟨hl.1, Int.le_trans hl.2 (Int.le_trans hi.2 (Int.le_of_eq ?_))⟩
    rw [hm2, hm, sm_split, sm_congr (fun i => g (p + i) * o i) (fun i => len * g (p + i)) n (fun t ht => by rw [hn2 t ht]; exact Nat.mul_comm _ _), sm_mul]
    congr 1
    rw [Nat.add_assoc]
    congr 2
    exact sm_congr _ _ _ (fun t ht => by rw [Nat.add_assoc])
/-- the search finds just what best lengths cost: gs the frequencies that come, the greatest first -/
theorem Good.search {N : Nat} {F : Nat → Nat} {most : Nat} {l : Nat → Nat} (h : Good N F most l) (hm1 : 1 ≤ most) (hm : most ≤ 16) (hu : 2 ≤ usedN N F) (gs : List Nat)
    (hgs : ∀ ord, RowOf N F ord → (∀ p q, p ≤ q → q < ord.length → F (ord.getD q 0) ≤ F (ord.getD p 0)) → gs = ord.map F) :
    bst (fun i => gs.getD i 0) gs.length most 0 2 1 0 = cost N F l := by
  obtain ⟨ord, hr, hf, hll⟩ := h.row
  obtain rfl := hgs ord hr hf
  have hgd : ∀ i, i < ord.length → (ord.map F).getD i 0 = F (ord.getD i 0) := by
    intro i hi
    rw [List.getD_eq_getElem?_getD, List.getD_eq_getElem?_getD, List.getElem?_map, List.getElem?_eq_getElem hi]; rfl
  rw [List.length_map]
  have e16 : (65536 : Nat) = 2 ^ (16 - most) * 2 ^ most := by rw [← Nat.pow_add, show 16 - most + most = 16 by omega]
  have hws : ∀ o : Nat → Nat, (∀ r, r < ord.length → o (ord.getD r 0) ≤ most) → wsum N F o 16 = 2 ^ (16 - most) * sm (fun r => 2 ^ (most - o (ord.getD r 0))) ord.length := by
    intro o ho
    unfold wsum
    rw [hr.sum _ (fun i hi => by simp [hi]), ← sm_mul]
    refine sm_congr _ _ _ (fun r hr' => ?_)
    rw [if_neg (hr.mem r hr').2, ← Nat.pow_add]
    congr 1
    have := ho r hr'
    omega
  have hcost : ∀ o, cost N F o = sm (fun r => F (ord.getD r 0) * o (ord.getD r 0)) ord.length := fun o => hr.sum _ (fun i hi => by simp [hi])
  have h0 : ∀ i, i < ord.length → 1 ≤ l (ord.getD i 0) ∧ l (ord.getD i 0) ≤ most := by
    intro i hi
    obtain ⟨a, b⟩ := hr.mem i hi
    have h1 := (h.zero _ a)
    have h2 := h.le _ a
    exact ⟨by rcases Nat.eq_zero_or_pos (l (ord.getD i 0)) with e | e
              · exact absurd (h1.1 e) b
              · exact e, h2⟩
  have hk : sm (fun r => 2 ^ (most - l (ord.getD r 0))) ord.length = 2 ^ most := by
    have h1 := h.full hu
    rw [hws l (fun r hr' => (h0 r hr').2), e16] at h1
    exact Nat.eq_of_mul_eq_mul_left (Nat.pow_pos (by decide)) h1
  have hB := bst_least (fun i => (ord.map F).getD i 0) ord.length most 0 2 1 0 (fun i => l (ord.getD i 0)) (by omega) (fun i j a b => hll i j a (by omega)) (fun i hi => by have := h0 i (by omega); omega) (by
    rw [Nat.sub_zero, sm_congr _ (fun r => 2 * 2 ^ (most - l (ord.getD r 0))) ord.length (fun r hr' => by
      rw [← Nat.pow_succ']; congr 1; have := h0 r hr'; omega), sm_mul, hk]
    exact Nat.le_refl _)
  have hA := bst_sound (fun i => (ord.map F).getD i 0) ord.length most 0 2 1 0 (by omega) hB.1
  obtain ⟨o, a, b, c⟩ := hA
  have hc1 : sm (fun i => (ord.map F).getD (0 + i) 0 * l (ord.getD i 0)) (ord.length - 0) = cost N F l := by
    rw [hcost, Nat.sub_zero]; exact sm_congr _ _ _ (fun r hr' => by rw [Nat.zero_add, hgd r hr'])
  have hle : (cost N F l : Int) ≤ bst (fun i => (ord.map F).getD i 0) ord.length most 0 2 1 0 := by
    rw [c]
    let o' : Nat → Nat := fun i => o (ord.idxOf i)
    have hidx : ∀ r, r < ord.length → o' (ord.getD r 0) = o r := by
      intro r hr'
      show o (ord.idxOf (ord.getD r 0)) = o r
      rw [List.getD_eq_getElem?_getD, List.getElem?_eq_getElem hr', Option.getD_some]
      congr 1
      exact hr.1.idxOf_getElem r hr'
    have hb := h.best o' (fun i hi hF => by
      obtain ⟨r, hr', rfl⟩ := hr.find i hi hF
      rw [hidx r hr']; have := a r (by omega); omega) (by
      rw [hws o' (fun r hr' => by rw [hidx r hr']; have := a r (by omega); omega), e16]
      refine Nat.mul_le_mul_left _ ?_
      rw [sm_congr _ (fun r => 2 ^ (most - o r)) ord.length (fun r hr' => by rw [hidx r hr'])]
      rw [Nat.sub_zero, sm_congr _ (fun r => 2 * 2 ^ (most - o r)) ord.length (fun r hr' => by
        rw [← Nat.pow_succ']; congr 1; have := a r (by omega); omega), sm_mul] at b
      omega)
    refine Int.ofNat_le.2 (Nat.le_trans hb (Nat.le_of_eq ?_))
    rw [hcost, Nat.zero_add, Nat.sub_zero]
    exact sm_congr _ _ _ (fun r hr' => by rw [hidx r hr', Nat.zero_add, hgd r hr'])
  have h2 := hB.2
  rw [hc1] at h2
  omega
end Go.Proofs.Ytibhelfiibincaa
