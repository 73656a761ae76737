/- Numbers of prefix codes: weights, first words, words as parts of a row, which word stands where. -/
import Derived.Test.YtblogjpoijfpbaaBitTurn
namespace Go.Proofs.Ytblogjpoijfpbaa
set_option linter.unusedVariables false
set_option linter.unusedSimpArgs false

def len (L : List Nat) (i : Nat) : Nat := L.getD i 0
def wt1 (n : Nat) : Nat := if n = 0 then 0 else 2 ^ (16 - n)
def wt (L : List Nat) : Nat := (L.map wt1).sum
def acc (L : List Nat) : Nat → Nat
  | 0 => 0
  | n + 1 => acc L n + L.count (n + 1) * 2 ^ (16 - (n + 1))
theorem acc_nil (n : Nat) : acc [] n = 0 := by
  induction n with
  | zero => rfl
  | succ n ih => simp [acc, ih]
theorem acc_cons (x : Nat) (L : List Nat) (n : Nat) : acc (x :: L) n = acc L n + if 0 < x ∧ x ≤ n then 2 ^ (16 - x) else 0 := by
  induction n with
  | zero => simp [acc]; omega
  | succ n ih =>
    rw [acc, acc, ih, List.count_cons]
    by_cases h : x = n + 1
    · subst h
      rw [if_neg (by omega), if_pos (by simp), if_pos (by omega), Nat.add_mul]
      omega
    · rw [show (x == n + 1) = false by simpa using h]
      simp only [Bool.false_eq_true, if_false, Nat.add_zero]
      by_cases h2 : 0 < x ∧ x ≤ n
      · rw [if_pos h2, if_pos (by omega)]; omega
      · rw [if_neg h2, if_neg (by omega)]; omega
theorem acc16 (L : List Nat) (h : ∀ x ∈ L, x ≤ 16) : acc L 16 = wt L := by
  induction L with
  | nil => simp [acc_nil, wt]
  | cons x L ih =>
    rw [acc_cons, ih (fun y hy => h y (List.mem_cons_of_mem _ hy))]
    have hx := h x (List.mem_cons_self ..)
    simp only [wt, List.map_cons, List.sum_cons, wt1]
    by_cases h0 : x = 0
    · subst h0; simp
    · rw [if_pos (by omega), if_neg h0]; omega
theorem acc_mono (L : List Nat) (a b : Nat) (h : a ≤ b) : acc L a ≤ acc L b := by
  induction b with
  | zero => obtain rfl : a = 0 := by omega
            exact Nat.le_refl _
  | succ b ih =>
    by_cases e : a = b + 1
    · subst e; exact Nat.le_refl _
    · have := ih (by omega); rw [acc]; omega
def fst (L : List Nat) : Nat → Nat
  | 0 => 0
  | n + 1 => 2 * (fst L n + if n = 0 then 0 else L.count n)
theorem fst_acc (L : List Nat) (n : Nat) (h : n < 16) : fst L (n + 1) * 2 ^ (16 - (n + 1)) = acc L n := by
  induction n with
  | zero => simp [fst, acc]
  | succ n ih =>
    rw [fst, if_neg (by omega), acc, ← ih (by omega)]
    have e : 2 ^ (16 - (n + 1)) = 2 * 2 ^ (16 - (n + 1 + 1)) := by rw [← Nat.pow_succ']; congr 1; omega
    rw [e]; generalize 2 ^ (16 - (n + 1 + 1)) = q
    generalize fst L (n + 1) = f
    generalize L.count (n + 1) = c
    rw [Nat.mul_comm 2 (f + c), Nat.mul_assoc, Nat.add_mul]
def rk (L : List Nat) (i : Nat) : Nat := (L.take i).count (len L i)
def wd (L : List Nat) (i : Nat) : Nat := fst L (len L i) + rk L i
/-- the place of the word's beginning in the row of 65536 -/
def lo (L : List Nat) (i : Nat) : Nat := acc L (len L i - 1) + rk L i * 2 ^ (16 - len L i)
theorem lo_wd (L : List Nat) (i : Nat) (h : 0 < len L i) (h2 : len L i ≤ 16) : wd L i * 2 ^ (16 - len L i) = lo L i := by
  unfold wd lo
  have := fst_acc L (len L i - 1) (by omega)
  rw [show len L i - 1 + 1 = len L i by omega] at this
  rw [Nat.add_mul, this]
theorem len_get (L : List Nat) (i : Nat) (h : i < L.length) : len L i = L[i] := by simp [len, h]
theorem len_ge (L : List Nat) (i : Nat) (h : L.length ≤ i) : len L i = 0 := by simp [len, h]
theorem count_take_lt (L : List Nat) (i k n : Nat) (h : i < k) (hi : i < L.length) (e : len L i = n) : (L.take i).count n < (L.take k).count n := by
  have h1 : (L.take (i + 1)).count n = (L.take i).count n + 1 := by
    rw [List.take_succ_eq_append_getElem hi, List.count_append, ← len_get L i hi, e]; simp
  have h2 : (L.take (i + 1)).count n ≤ (L.take k).count n := List.Sublist.count_le _ (List.take_sublist_take_left (by omega))
  omega
theorem rk_lt (L : List Nat) (i : Nat) (hi : i < L.length) : rk L i < L.count (len L i) := by
  have := count_take_lt L i L.length (len L i) hi hi rfl
  rwa [List.take_length] at this
theorem lo_hi (L : List Nat) (i : Nat) (hi : i < L.length) (h : 0 < len L i) : lo L i + 2 ^ (16 - len L i) ≤ acc L (len L i) := by
  have h1 := rk_lt L i hi
  unfold lo
  obtain ⟨m, hm⟩ : ∃ m, len L i = m + 1 := ⟨len L i - 1, by omega⟩
  rw [hm] at h1 ⊢
  rw [acc, Nat.add_sub_cancel]
  have := Nat.mul_le_mul_right (2 ^ (16 - (m + 1))) h1
  rw [Nat.succ_mul] at this
  omega
theorem apart_lt (L : List Nat) (i k : Nat) (hi : i < L.length) (h : 0 < len L i) (hlt : len L i < len L k) : lo L i + 2 ^ (16 - len L i) ≤ lo L k := by
  have h1 := lo_hi L i hi h
  have h2 := acc_mono L (len L i) (len L k - 1) (by omega)
  have h3 : acc L (len L k - 1) ≤ lo L k := by unfold lo; omega
  omega
theorem apart_eq (L : List Nat) (i k : Nat) (hi : i < L.length) (hik : i < k) (e : len L i = len L k) : lo L i + 2 ^ (16 - len L i) ≤ lo L k := by
  unfold lo rk
  rw [← e]
  have := count_take_lt L i k (len L i) hik hi rfl
  have := Nat.mul_le_mul_right (2 ^ (16 - len L i)) this
  rw [Nat.succ_mul] at this
  omega
theorem apart (L : List Nat) (i k : Nat) (hi : i < L.length) (hk : k < L.length) (h : 0 < len L i) (h' : 0 < len L k) (hne : i ≠ k) :
    lo L i + 2 ^ (16 - len L i) ≤ lo L k ∨ lo L k + 2 ^ (16 - len L k) ≤ lo L i := by
  rcases Nat.lt_trichotomy (len L i) (len L k) with h1 | h1 | h1
  · exact .inl (apart_lt L i k hi h h1)
  · rcases Nat.lt_or_gt_of_ne hne with h2 | h2
    · exact .inl (apart_eq L i k hi h2 h1)
    · exact .inr (apart_eq L k i hk h2 h1.symm)
  · exact .inr (apart_lt L k i hk h' h1)
/-- the word of i is what y begins with -/
def hit (L : List Nat) (y i : Nat) : Prop := i < L.length ∧ 0 < len L i ∧ len L i ≤ 16 ∧ y / 2 ^ (16 - len L i) = wd L i
theorem hit_iff (L : List Nat) (y i : Nat) (h : 0 < len L i) (h2 : len L i ≤ 16) : y / 2 ^ (16 - len L i) = wd L i ↔ lo L i ≤ y ∧ y < lo L i + 2 ^ (16 - len L i) := by
  rw [← lo_wd L i h h2]
  have hp : 0 < 2 ^ (16 - len L i) := Nat.pow_pos (by decide)
  generalize 2 ^ (16 - len L i) = q at hp
  rw [Nat.div_eq_iff hp]
  generalize wd L i * q = t
  omega
theorem hit_unique (L : List Nat) (y i k : Nat) (h : hit L y i) (h' : hit L y k) : i = k := by
  obtain ⟨a1, a2, a3, a4⟩ := h
  obtain ⟨b1, b2, b3, b4⟩ := h'
  rw [hit_iff L y i a2 a3] at a4
  rw [hit_iff L y k b2 b3] at b4
  by_cases e : i = k
  · exact e
  · rcases apart L i k a1 b1 a2 b2 e with h | h <;> omega
theorem wd_lt (L : List Nat) (i : Nat) (hi : i < L.length) (hL : ∀ x ∈ L, x ≤ 16) (hw : wt L ≤ 65536) (h : 0 < len L i) : wd L i < 2 ^ len L i := by
  have h16 : len L i ≤ 16 := by rw [len_get L i hi]; exact hL _ (List.getElem_mem hi)
  have h1 := lo_hi L i hi h
  have h2 := acc_mono L (len L i) 16 h16
  rw [acc16 L hL] at h2
  rw [← lo_wd L i h h16] at h1
  have e : (65536 : Nat) = 2 ^ len L i * 2 ^ (16 - len L i) := by rw [← Nat.pow_add, show len L i + (16 - len L i) = 16 by omega]
  have hp : 0 < 2 ^ (16 - len L i) := Nat.pow_pos (by decide)
  generalize 2 ^ (16 - len L i) = q at *
  generalize 2 ^ len L i = t at *
  refine Nat.lt_of_mul_lt_mul_right (a := q) ?_
  omega
/-- of the words of n bits the one of number r -/
theorem snocInd {α : Type} {p : List α → Prop} (h0 : p []) (h1 : ∀ L x, p L → p (L ++ [x])) (L : List α) : p L := by
  have : ∀ M : List α, p M.reverse := by
    intro M
    induction M with
    | nil => exact h0
    | cons x M ih => rw [List.reverse_cons]; exact h1 _ _ ih
  have := this L.reverse
  rwa [List.reverse_reverse] at this
theorem sym_at (n r : Nat) : ∀ (L : List Nat), r < L.count n → ∃ i, i < L.length ∧ len L i = n ∧ rk L i = r := by
  intro L
  refine snocInd (p := fun L => r < L.count n → ∃ i, i < L.length ∧ len L i = n ∧ rk L i = r) (by simp) ?_ L
  · intro L x ih h
    have go : r < L.count n → ∃ i, i < (L ++ [x]).length ∧ len (L ++ [x]) i = n ∧ rk (L ++ [x]) i = r := by
      intro h2
      obtain ⟨i, hi, e1, e2⟩ := ih h2
      have hl : len (L ++ [x]) i = len L i := by simp [len, List.getD, List.getElem?_append_left hi]
      refine ⟨i, by simp; omega, by rw [hl, e1], ?_⟩
      unfold rk at e2 ⊢
      rw [hl, List.take_append_of_le_length (by omega), e2]
    by_cases hx : x = n
    · subst hx
      by_cases h2 : r < L.count x
      · exact go h2
      · refine ⟨L.length, by simp, by simp [len], ?_⟩
        have : r = L.count x := by simp [List.count_append] at h; omega
        subst this
        simp [rk, len]
    · rw [List.count_append] at h
      have : [x].count n = 0 := by simp [List.count_cons, hx]
      exact go (by omega)
theorem hit_of (L : List Nat) (y n : Nat) (h1 : 0 < n) (h2 : n ≤ 16) (hlo : acc L (n - 1) ≤ y) (hhi : y < acc L n) :
    (y - acc L (n - 1)) / 2 ^ (16 - n) < L.count n ∧ ∀ i, i < L.length → len L i = n → rk L i = (y - acc L (n - 1)) / 2 ^ (16 - n) → hit L y i := by
  have hp : 0 < 2 ^ (16 - n) := Nat.pow_pos (by decide)
  obtain ⟨m, rfl⟩ : ∃ m, n = m + 1 := ⟨n - 1, by omega⟩
  rw [Nat.add_sub_cancel] at *
  rw [acc] at hhi
  refine ⟨(Nat.div_lt_iff_lt_mul hp).2 (by omega), ?_⟩
  intro i hi e1 e2
  refine ⟨hi, by omega, by omega, ?_⟩
  rw [hit_iff L y i (by omega) (by omega)]
  unfold lo
  rw [e1, Nat.add_sub_cancel, e2]
  have hd := Nat.div_add_mod (y - acc L m) (2 ^ (16 - (m + 1)))
  have hm := Nat.mod_lt (y - acc L m) hp
  rw [Nat.mul_comm] at hd
  generalize (y - acc L m) / 2 ^ (16 - (m + 1)) * 2 ^ (16 - (m + 1)) = u at *
  omega
theorem acc_find (L : List Nat) (y : Nat) : ∀ n, y < acc L n → ∃ m, 0 < m ∧ m ≤ n ∧ acc L (m - 1) ≤ y ∧ y < acc L m := by
  intro n
  induction n with
  | zero => intro h; simp [acc] at h
  | succ n ih =>
    intro h
    by_cases h2 : y < acc L n
    · obtain ⟨m, a, b, c, d⟩ := ih h2
      exact ⟨m, a, by omega, c, d⟩
    · exact ⟨n + 1, by omega, by omega, by simpa using h2, h⟩
theorem hit_full (L : List Nat) (y : Nat) (hL : ∀ x ∈ L, x ≤ 16) (hw : wt L = 65536) (hy : y < 65536) : ∃ i, hit L y i := by
  obtain ⟨n, a, b, c, d⟩ := acc_find L y 16 (by rw [acc16 L hL, hw]; exact hy)
  obtain ⟨h1, h2⟩ := hit_of L y n a b c d
  obtain ⟨i, hi, e1, e2⟩ := sym_at n _ L h1
  exact ⟨i, h2 i hi e1 e2⟩
/-- a row's first n bits, as bits and as a number the other way round -/
theorem tr_top (x n : Nat) (hn : n ≤ 16) : tr 16 x 0 / 2 ^ (16 - n) = tr n x 0 := by
  refine Nat.eq_of_testBit_eq fun i => ?_
  rw [Nat.testBit_div_two_pow, tr_bit, tr_bit]
  by_cases h : i < n
  · rw [if_pos (by omega), if_pos h]; congr 1; omega
  · rw [if_neg (by omega), if_neg h]; simp
theorem tr_tr (n x : Nat) : tr n (tr n x 0) 0 = x % 2 ^ n := by
  refine Nat.eq_of_testBit_eq fun i => ?_
  rw [tr_bit, Nat.testBit_mod_two_pow]
  by_cases h : i < n
  · rw [if_pos h, tr_bit, if_pos (by omega)]; simp [h]; congr 1; omega
  · rw [if_neg h]; simp [h]
theorem tr_mod (n x : Nat) : tr n (x % 2 ^ n) 0 = tr n x 0 := by
  refine Nat.eq_of_testBit_eq fun i => ?_
  rw [tr_bit, tr_bit]
  by_cases h : i < n
  · rw [if_pos h, if_pos h, Nat.testBit_mod_two_pow]; simp; omega
  · rw [if_neg h, if_neg h]
theorem bits_word (x w n : Nat) (hn : n ≤ 16) (hw : w < 2 ^ n) : x % 2 ^ n = tr n w 0 ↔ tr 16 x 0 / 2 ^ (16 - n) = w := by
  rw [tr_top x n hn]
  constructor
  · intro h
    rw [← tr_mod, h, tr_tr, Nat.mod_eq_of_lt hw]
  · intro h
    rw [← h, tr_tr]
def code (L : List Nat) (i : Nat) : Nat := tr (len L i) (wd L i) 0
theorem code_lt (L : List Nat) (i : Nat) : code L i < 2 ^ len L i := tr_lt _ _
theorem tr16_lt (x : Nat) : tr 16 x 0 < 65536 := tr_lt 16 x
/-- the symbol whose word stands first, of at most h bits -/
def pick (L : List Nat) (y h : Nat) : Option Nat := (List.range L.length).find? fun i => decide (0 < len L i) && (decide (len L i ≤ h) && decide (y / 2 ^ (16 - len L i) = wd L i))
theorem pick_some (L : List Nat) (y h i : Nat) (hL : ∀ x ∈ L, x ≤ 16) : pick L y h = some i ↔ hit L y i ∧ len L i ≤ h := by
  have mk : ∀ k, pick L y h = some k → hit L y k ∧ len L k ≤ h := by
    intro k e
    have h1 := List.find?_some e
    have h2 := List.mem_of_find?_eq_some e
    simp only [Bool.and_eq_true, decide_eq_true_eq] at h1
    have hk : k < L.length := by simpa using h2
    exact ⟨⟨hk, h1.1, by rw [len_get L k hk]; exact hL _ (List.getElem_mem hk), h1.2.2⟩, h1.2.1⟩
  refine ⟨mk i, ?_⟩
  rintro ⟨⟨a, b, c, d⟩, e⟩
  rcases hp : pick L y h with _ | k
  · have := List.find?_eq_none.1 hp i (by simpa using a)
    simp [b, e, d] at this
  · rw [hit_unique L y k i (mk k hp).1 ⟨a, b, c, d⟩]
theorem pick_none (L : List Nat) (y h : Nat) (hL : ∀ x ∈ L, x ≤ 16) : pick L y h = none ↔ ∀ i, hit L y i → h < len L i := by
  constructor
  · intro e i hi
    rcases Nat.lt_or_ge h (len L i) with h1 | h1
    · exact h1
    · rw [(pick_some L y h i hL).2 ⟨hi, h1⟩] at e; simp at e
  · intro H
    rcases hp : pick L y h with _ | k
    · rfl
    · have := (pick_some L y h k hL).1 hp
      have := H k this.1
      omega
def longest : List Nat → Nat
  | [] => 0
  | x :: L => max x (longest L)
theorem longest_ge (L : List Nat) (i : Nat) : len L i ≤ longest L := by
  induction L generalizing i with
  | nil => simp [len]
  | cons x L ih =>
    cases i with
    | zero => simp [len, longest]; omega
    | succ i => have := ih i; simp only [len, longest, List.getD_cons_succ] at *; omega
theorem longest_le (L : List Nat) (n : Nat) (h : ∀ x ∈ L, x ≤ n) : longest L ≤ n := by
  induction L with
  | nil => simp [longest]
  | cons x L ih =>
    have h1 := h x (List.mem_cons_self ..)
    have h2 := ih (fun y hy => h y (List.mem_cons_of_mem _ hy))
    simp only [longest]; omega
theorem longest_snoc (L : List Nat) (x : Nat) : longest (L ++ [x]) = max (longest L) x := by
  induction L with
  | nil => simp [longest]
  | cons y L ih => simp only [List.cons_append, longest, ih]; omega
theorem wt_snoc (L : List Nat) (x : Nat) : wt (L ++ [x]) = wt L + wt1 x := by simp [wt]
theorem wt_zero (L : List Nat) (hL : ∀ x ∈ L, x ≤ 16) (h : wt L = 0) (i : Nat) : len L i = 0 := by
  rcases Nat.lt_or_ge i L.length with hi | hi
  · rw [len_get L i hi]
    induction L generalizing i with
    | nil => simp at hi
    | cons x L ih =>
      simp only [wt, List.map_cons, List.sum_cons] at h
      cases i with
      | zero =>
        simp only [List.getElem_cons_zero]
        by_cases h0 : x = 0
        · exact h0
        · have : 0 < wt1 x := by unfold wt1; rw [if_neg h0]; exact Nat.pow_pos (by decide)
          omega
      | succ i =>
        simp only [List.getElem_cons_succ]
        exact ih (fun y hy => hL y (List.mem_cons_of_mem _ hy)) (by simp only [wt]; omega) i (by simpa using hi)
  · exact len_ge L i hi
end Go.Proofs.Ytblogjpoijfpbaa
