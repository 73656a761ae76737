/- Numbers of prefix codes that are given out from the longest word on: places, words, which word stands where. -/
import Derived.Test.YtblogjpoijfpbaaCanMath
import Derived.Test.YtblogjpoijfpbaaPmMath
namespace Go.Proofs.Ytblogjpoijfpbaa
set_option linter.unusedVariables false
set_option linter.unusedSimpArgs false

def wd16 (L : List Nat) (k : Nat) : Nat := 2 ^ (16 - len L k)
/-- is k given out ahead of i? -/
def ahd (L : List Nat) (i k : Nat) : Bool := decide (len L i < len L k) || (decide (len L k = len L i) && decide (i < k))
theorem ahd_iff (L : List Nat) (i k : Nat) : ahd L i k = true ↔ len L i < len L k ∨ (len L k = len L i ∧ i < k) := by simp [ahd]
/-- the place of i's word -/
def ah (L : List Nat) (i : Nat) : Nat := sm (fun k => if ahd L i k then wd16 L k else 0) L.length
def tot16 (L : List Nat) : Nat := sm (wd16 L) L.length
def sw (L : List Nat) (i : Nat) : Nat := ah L i / wd16 L i
theorem wd16_pos (L : List Nat) (k : Nat) : 0 < wd16 L k := Nat.pow_pos (by decide)
theorem sm_one (n k x : Nat) (h : k < n) : sm (fun t => if t = k then x else 0) n = x := by
  induction n with
  | zero => omega
  | succ n ih =>
    rw [sm]
    by_cases e : k = n
    · subst e
      rw [if_pos rfl, sm_congr _ (fun _ => 0) k (fun t ht => by rw [if_neg (by omega)]), sm_zero]; omega
    · rw [ih (by omega), if_neg (by omega)]; rfl
/-- who is ahead has its whole part ahead -/
theorem ah_lt (L : List Nat) (i k : Nat) (hk : k < L.length) (h : ahd L i k = true) : ah L k + wd16 L k ≤ ah L i := by
  unfold ah
  have e : sm (fun t => if ahd L k t then wd16 L t else 0) L.length + wd16 L k = sm (fun t => (if ahd L k t then wd16 L t else 0) + if t = k then wd16 L k else 0) L.length := by
    rw [sm_add, sm_one _ _ _ hk]
  rw [e]
  refine sm_le _ _ _ (fun t ht => ?_)
  rw [ahd_iff] at h
  by_cases hkt : ahd L k t = true
  · have h2 := (ahd_iff L k t).1 hkt
    have h3 : ahd L i t = true := by rw [ahd_iff]; omega
    rw [if_pos hkt, if_pos h3, if_neg (fun e => by subst e; omega)]; omega
  · rw [if_neg hkt]
    by_cases e2 : t = k
    · subst e2
      rw [if_pos rfl, if_pos (by rw [ahd_iff]; exact h)]; omega
    · rw [if_neg e2]; omega
theorem ah_top (L : List Nat) (i : Nat) (hi : i < L.length) : ah L i + wd16 L i ≤ tot16 L := by
  unfold ah tot16
  have e : sm (fun t => if ahd L i t then wd16 L t else 0) L.length + wd16 L i = sm (fun t => (if ahd L i t then wd16 L t else 0) + if t = i then wd16 L i else 0) L.length := by
    rw [sm_add, sm_one _ _ _ hi]
  rw [e]
  refine sm_le _ _ _ (fun t ht => ?_)
  by_cases e2 : t = i
  · subst e2
    have : ahd L t t = false := by rw [Bool.eq_false_iff, ne_eq, ahd_iff]; omega
    rw [this, if_pos rfl]; simp
  · rw [if_neg e2]; split <;> omega
theorem ahd_total (L : List Nat) (i k : Nat) (h : i ≠ k) : ahd L i k = true ∨ ahd L k i = true := by
  rw [ahd_iff, ahd_iff]; omega
theorem sm_dvd (f : Nat → Nat) (d n : Nat) (h : ∀ t, t < n → d ∣ f t) : d ∣ sm f n := by
  induction n with
  | zero => exact Nat.dvd_zero d
  | succ n ih => rw [sm]; exact Nat.dvd_add (ih (fun t ht => h t (by omega))) (h n (by omega))
/-- of a full code nothing is cut off -/
theorem ah_dvd (L : List Nat) (i : Nat) (hi : i < L.length) (h16 : ∀ k, k < L.length → len L k ≤ 16) (hf : tot16 L = 65536) : wd16 L i ∣ ah L i := by
  have e : tot16 L = ah L i + sm (fun t => if ahd L i t then 0 else wd16 L t) L.length := by
    unfold tot16 ah
    rw [← sm_add]
    refine sm_congr _ _ _ (fun t _ => ?_)
    split <;> simp
  have d1 : wd16 L i ∣ sm (fun t => if ahd L i t then 0 else wd16 L t) L.length := by
    refine sm_dvd _ _ _ (fun t ht => ?_)
    by_cases h : ahd L i t = true
    · rw [if_pos h]; exact Nat.dvd_zero _
    · rw [if_neg h]
      rw [ahd_iff] at h
      exact Nat.pow_dvd_pow 2 (by omega)
  have d2 : wd16 L i ∣ 65536 := by
    have : (65536 : Nat) = 2 ^ 16 := by decide
    rw [this]; exact Nat.pow_dvd_pow 2 (by omega)
  rw [← hf, e] at d2
  exact (Nat.dvd_add_iff_left d1).2 d2
/-- the word of i is what y begins with -/
def shit (L : List Nat) (y i : Nat) : Prop := i < L.length ∧ y / wd16 L i = sw L i
theorem shit_iff (L : List Nat) (y i : Nat) (hi : i < L.length) (h16 : ∀ k, k < L.length → len L k ≤ 16) (hf : tot16 L = 65536) : y / wd16 L i = sw L i ↔ ah L i ≤ y ∧ y < ah L i + wd16 L i := by
  obtain ⟨c, hc⟩ := ah_dvd L i hi h16 hf
  have hp := wd16_pos L i
  unfold sw
  rw [hc]
  generalize wd16 L i = q at *
  rw [Nat.mul_div_cancel_left _ hp, Nat.div_eq_iff hp, Nat.mul_comm c q]
  generalize q * c = t
  omega
theorem shit_unique (L : List Nat) (y i k : Nat) (h16 : ∀ k, k < L.length → len L k ≤ 16) (hf : tot16 L = 65536) (h : shit L y i) (h' : shit L y k) : i = k := by
  obtain ⟨a1, a2⟩ := h
  obtain ⟨b1, b2⟩ := h'
  rw [shit_iff L y i a1 h16 hf] at a2
  rw [shit_iff L y k b1 h16 hf] at b2
  by_cases e : i = k
  · exact e
  · rcases ahd_total L i k e with h | h
    · have := ah_lt L i k b1 h; omega
    · have := ah_lt L k i a1 h; omega
theorem sm_range (a w m : Nat) (h : a + w ≤ m) : sm (fun x => if a ≤ x ∧ x < a + w then 1 else 0) m = w := by
  induction m with
  | zero => simp [sm]; omega
  | succ m ih =>
    rw [sm]
    by_cases e : a + w = m + 1
    · cases w with
      | zero =>
        rw [sm_congr _ (fun _ => 0) m (fun t ht => by rw [if_neg (by omega)]), sm_zero, if_neg (by omega)]
      | succ w =>
        rw [if_pos (by omega)]
        have : sm (fun x => if a ≤ x ∧ x < a + (w + 1) then 1 else 0) m = sm (fun x => if a ≤ x ∧ x < a + w then 1 else 0) m := by
          refine sm_congr _ _ _ (fun t ht => ?_)
          by_cases h1 : a ≤ t ∧ t < a + w
          · rw [if_pos h1, if_pos (by omega)]
          · rw [if_neg h1, if_neg (by omega)]
        rw [this]
        have h2 : a + w = m := by omega
        clear ih this
        subst h2
        have : ∀ w, sm (fun x => if a ≤ x ∧ x < a + w then 1 else 0) (a + w) = w := by
          intro w
          induction w with
          | zero => rw [sm_congr _ (fun _ => 0) (a + 0) (fun t ht => by rw [if_neg (by omega)]), sm_zero]
          | succ w ihw =>
            rw [← Nat.add_assoc, sm, if_pos (by omega), sm_congr _ (fun x => if a ≤ x ∧ x < a + w then 1 else 0) (a + w) (fun t ht => by
              by_cases h1 : a ≤ t
              · rw [if_pos (by omega), if_pos (by omega)]
              · rw [if_neg (by omega), if_neg (by omega)]), ihw]
        rw [this]
    · rw [ih (by omega), if_neg (by omega)]; rfl
theorem ct_le_one (q : Nat → Bool) (n : Nat) (h : ∀ i k, i < n → k < n → q i = true → q k = true → i = k) : ct q n ≤ 1 := by
  induction n with
  | zero => simp [ct, sm]
  | succ n ih =>
    rw [ct_succ]
    have h1 := ih (fun i k a b => h i k (by omega) (by omega))
    by_cases e : q n = true
    · rw [if_pos e]
      have : ct q n = 0 := by
        unfold ct
        rw [sm_congr _ (fun _ => 0) n (fun t ht => ?_), sm_zero]
        by_cases e2 : q t = true
        · have := h t n (by omega) (by omega) e2 e; omega
        · rw [if_neg e2]
      omega
    · rw [if_neg e]; omega
/-- every row of bits begins with a word -/
theorem shit_full (L : List Nat) (y : Nat) (h16 : ∀ k, k < L.length → len L k ≤ 16) (hf : tot16 L = 65536) (hy : y < 65536) : ∃ i, shit L y i := by
  by_cases hex : ∃ i, shit L y i
  · exact hex
  · exfalso
    have hno : ∀ i, i < L.length → ¬ (ah L i ≤ y ∧ y < ah L i + wd16 L i) := fun i hi h => hex ⟨i, hi, (shit_iff L y i hi h16 hf).2 h⟩
    have e1 : sm (fun i => sm (fun x => if ah L i ≤ x ∧ x < ah L i + wd16 L i then 1 else 0) 65536) L.length = 65536 := by
      rw [← hf]
      unfold tot16
      refine sm_congr _ _ _ (fun i hi => ?_)
      exact sm_range _ _ _ (ah_top L i hi)
    rw [sm_swap] at e1
    have e2 : sm (fun x => sm (fun i => if ah L i ≤ x ∧ x < ah L i + wd16 L i then 1 else 0) L.length) 65536 ≤ sm (fun x => if x = y then 0 else 1) 65536 := by
      refine sm_le _ _ _ (fun x hx => ?_)
      by_cases e : x = y
      · subst e
        rw [if_pos rfl, sm_congr _ (fun _ => 0) _ (fun i hi => by rw [if_neg (hno i hi)]), sm_zero]; exact Nat.le_refl _
      · rw [if_neg e]
        have := ct_le_one (fun i => decide (ah L i ≤ x ∧ x < ah L i + wd16 L i)) L.length (fun i k hi hk a b => by
          simp only [decide_eq_true_eq] at a b
          exact shit_unique L x i k h16 hf ⟨hi, (shit_iff L x i hi h16 hf).2 a⟩ ⟨hk, (shit_iff L x k hk h16 hf).2 b⟩)
        unfold ct at this
        simpa using this
    have e3 : sm (fun x => (if x = y then 0 else 1) + if x = y then 1 else 0) 65536 = 65536 := by
      rw [sm_congr _ (fun _ => 1) 65536 (fun t _ => by split <;> rfl), sm_const]
    rw [sm_add, sm_one _ _ _ hy] at e3
    omega
theorem sw_lt (L : List Nat) (i : Nat) (hi : i < L.length) (h16 : ∀ k, k < L.length → len L k ≤ 16) (hf : tot16 L = 65536) : sw L i < 2 ^ len L i := by
  have h := ah_top L i hi
  rw [hf] at h
  have hp := wd16_pos L i
  unfold sw
  rw [Nat.div_lt_iff_lt_mul hp]
  have e : (65536 : Nat) = 2 ^ len L i * wd16 L i := by
    unfold wd16; rw [← Nat.pow_add, show len L i + (16 - len L i) = 16 by have := h16 i hi; omega]
  omega
def scode (L : List Nat) (i : Nat) : Nat := tr (len L i) (sw L i) 0
theorem scode_lt (L : List Nat) (i : Nat) : scode L i < 2 ^ len L i := tr_lt _ _
/-- is it word k? as bits -/
theorem shit_bits (L : List Nat) (x k : Nat) (hk : k < L.length) (h16 : ∀ k, k < L.length → len L k ≤ 16) (hf : tot16 L = 65536) : x % 2 ^ len L k = scode L k ↔ shit L (tr 16 x 0) k := by
  unfold scode shit
  rw [bits_word x (sw L k) (len L k) (h16 k hk) (sw_lt L k hk h16 hf)]
  exact ⟨fun h => ⟨hk, h⟩, fun h => h.2⟩
end Go.Proofs.Ytblogjpoijfpbaa
