/- Numbers of layer 9: what is found of a text, and that it tells the text. -/
import Derived.Test.YtmafgamacijdaaaTokMath
namespace Go.Proofs.Ytmafgamacijdaaa
set_option linter.unusedVariables false
set_option linter.unusedSimpArgs false

/-- a shape -/
structure Sh where
  win : Int
  min : Int
  max : Int
  chain : Int
  lazy : Bool
def Sh.ok (s : Sh) : Prop := 1 ≤ s.win ∧ s.win ≤ 65536 ∧ 2 ≤ s.min ∧ s.min ≤ 3 ∧ s.min ≤ s.max ∧ s.max ≤ 65538 ∧ 0 ≤ s.chain ∧ s.chain ≤ 4096
instance (s : Sh) : Decidable s.ok := by unfold Sh.ok; infer_instance
/-- from n on as far as P holds, m more at most -/
def cntUp (P : Nat → Bool) : Nat → Nat → Nat
  | 0, n => n
  | m + 1, n => if P n then cntUp P m (n + 1) else n
theorem cntUp_le (P : Nat → Bool) (m n : Nat) : n ≤ cntUp P m n ∧ cntUp P m n ≤ n + m := by
  induction m generalizing n with
  | zero => simp [cntUp]
  | succ m ih =>
    rw [cntUp]
    split
    · have := ih (n + 1); omega
    · omega
theorem cntUp_all (P : Nat → Bool) (m n j : Nat) (h1 : n ≤ j) (h2 : j < cntUp P m n) : P j = true := by
  induction m generalizing n with
  | zero => simp [cntUp] at h2; omega
  | succ m ih =>
    rw [cntUp] at h2
    by_cases h : P n = true
    · rw [if_pos h] at h2
      by_cases e : n = j
      · rw [← e]; exact h
      · exact ih (n + 1) (by omega) h2
    · rw [if_neg h] at h2; omega
/-- all that can be is counted -/
theorem cntUp_ge (P : Nat → Bool) (m n k : Nat) (hk : n ≤ k) (hkm : k ≤ n + m) (h : ∀ j, n ≤ j → j < k → P j = true) : k ≤ cntUp P m n := by
  induction m generalizing n with
  | zero => rw [cntUp]; omega
  | succ m ih =>
    rw [cntUp]
    by_cases e : n = k
    · split
      · have := (cntUp_le P m (n + 1)).1; omega
      · omega
    · rw [if_pos (h n (Nat.le_refl _) (by omega))]
      exact ih (n + 1) (by omega) (by omega) (fun j h1 h2 => h j (by omega) h2)
/-- do the bytes n behind f and i stand, and are they the same -/
def sm1 (b : List UInt8) (f i n : Nat) : Bool := decide (i + n < b.length) && (b.getD (f + n) 0 == b.getD (i + n) 0)
/-- how many bytes are the same from f and i on, up to most -/
def sme (b : List UInt8) (f i most : Nat) : Nat := cntUp (sm1 b f i) most 0
/-- what is found at i among the places below k -/
def atF (b : List UInt8) (s : Sh) (i : Nat) : Nat → Nat → Tk → Tk
  | 0, _, best => best
  | k + 1, looked, best =>
    if (i : Int) - k ≤ s.win ∧ (looked : Int) < s.chain then
      if sme b k i s.min.toNat < s.min.toNat then atF b s i k looked best
      else atF b s i k (looked + 1) (if best.len < (sme b k i s.max.toNat : Int) then ⟨0, (i : Int) - k, sme b k i s.max.toNat⟩ else best)
    else best
def atT (b : List UInt8) (s : Sh) (i : Nat) : Tk := atF b s i i 0 ⟨0, 0, 0⟩
def waits (b : List UInt8) (s : Sh) (i : Nat) : Prop := s.lazy = true ∧ (atT b s i).len < s.max ∧ 0 < (atT b s i).len ∧ i + 1 < b.length ∧ (atT b s i).len < (atT b s (i + 1)).len
instance (b : List UInt8) (s : Sh) (i : Nat) : Decidable (waits b s i) := by unfold waits; infer_instance
/-- the token at i -/
def stepT (b : List UInt8) (s : Sh) (i : Nat) : Tk := if (atT b s i).len = 0 ∨ waits b s i then ⟨b.getD i 0, 0, 0⟩ else atT b s i
/-- the tokens from i on, f of them at most -/
def fdF (b : List UInt8) (s : Sh) : Nat → Nat → List Tk
  | 0, _ => []
  | f + 1, i => if i < b.length then stepT b s i :: fdF b s f (i + sz1 (stepT b s i)) else []
def found (b : List UInt8) (s : Sh) : List Tk := fdF b s b.length 0
/-- a copy that is right at i -/
structure Hit (b : List UInt8) (s : Sh) (i : Nat) (t : Tk) : Prop where
  lit : t.lit = 0
  ex : ∃ d n : Nat, t.dist = (d : Int) ∧ t.len = (n : Int) ∧ 1 ≤ d ∧ d ≤ i ∧ (d : Int) ≤ s.win ∧ s.min ≤ (n : Int) ∧ (n : Int) ≤ s.max ∧ i + n ≤ b.length ∧ ∀ j, j < n → b.getD (i - d + j) 0 = b.getD (i + j) 0
theorem sme_hit {b : List UInt8} {s : Sh} (hs : s.ok) {i k : Nat} (hk : k < i) (hw : (i : Int) - k ≤ s.win) (hm : ¬ sme b k i s.min.toNat < s.min.toNat) (hi : i ≤ b.length) : Hit b s i ⟨0, (i : Int) - k, sme b k i s.max.toNat⟩ := by
  obtain ⟨_, _, h3, h4, h5, h6, _⟩ := hs
  have hall := fun j hj => cntUp_all (sm1 b k i) s.max.toNat 0 j (Nat.zero_le _) hj
  have hle := (cntUp_le (sm1 b k i) s.max.toNat 0).2
  have hmin := (cntUp_le (sm1 b k i) s.min.toNat 0).2
  have hmall := fun j hj => cntUp_all (sm1 b k i) s.min.toNat 0 j (Nat.zero_le _) hj
  have hge := cntUp_ge (sm1 b k i) s.max.toNat 0 s.min.toNat (Nat.zero_le _) (by omega) (fun j _ hj => hmall j (by show j < sme b k i s.min.toNat; omega))
  refine ⟨rfl, i - k, sme b k i s.max.toNat, by show (i : Int) - k = _; omega, rfl, by omega, by omega, by omega, ?_, ?_, ?_, fun j hj => ?_⟩
  · have : s.min.toNat ≤ sme b k i s.max.toNat := hge; omega
  · have : sme b k i s.max.toNat ≤ 0 + s.max.toNat := hle; omega
  · rcases Nat.eq_zero_or_pos (sme b k i s.max.toNat) with h0 | h0
    · rw [h0]; exact hi
    · have := hall (sme b k i s.max.toNat - 1) (by show _ < sme b k i s.max.toNat; omega)
      unfold sm1 at this
      simp only [Bool.and_eq_true, decide_eq_true_eq] at this
      omega
  · have := hall j hj
    unfold sm1 at this
    simp only [Bool.and_eq_true, beq_iff_eq] at this
    rw [show i - (i - k) + j = k + j by omega]
    exact this.2
theorem atF_hit {b : List UInt8} {s : Sh} (hs : s.ok) {i : Nat} (hi : i ≤ b.length) (k looked : Nat) (best : Tk) (hk : k ≤ i) (hb : best = ⟨0, 0, 0⟩ ∨ Hit b s i best) : atF b s i k looked best = ⟨0, 0, 0⟩ ∨ Hit b s i (atF b s i k looked best) := by
  induction k generalizing looked best with
  | zero => exact hb
  | succ k ih =>
    rw [atF]
    split
    · next h1 =>
      split
      · exact ih _ _ (by omega) hb
      · next h2 =>
        refine ih _ _ (by omega) ?_
        split
        · exact .inr (sme_hit hs (by omega) h1.1 h2 hi)
        · exact hb
    · exact hb
theorem atT_hit {b : List UInt8} {s : Sh} (hs : s.ok) {i : Nat} (hi : i ≤ b.length) : atT b s i = ⟨0, 0, 0⟩ ∨ Hit b s i (atT b s i) := atF_hit hs hi i 0 _ (Nat.le_refl _) (.inl rfl)
theorem stepT_cases {b : List UInt8} {s : Sh} (hs : s.ok) {i : Nat} (hi : i < b.length) : stepT b s i = ⟨b.getD i 0, 0, 0⟩ ∨ Hit b s i (stepT b s i) := by
  unfold stepT
  split
  · exact .inl rfl
  · next h =>
    rcases atT_hit hs (Nat.le_of_lt hi) with h1 | h1
    · exact absurd (.inl (by rw [h1])) h
    · exact .inr h1
theorem Hit.sz {b : List UInt8} {s : Sh} {i : Nat} {t : Tk} (hs : s.ok) (h : Hit b s i t) : t.len ≠ 0 ∧ 2 ≤ sz1 t ∧ i + sz1 t ≤ b.length := by
  obtain ⟨d, n, h1, h2, h3, h4, h5, h6, h7, h8, h9⟩ := h.ex
  obtain ⟨_, _, g3, _⟩ := hs
  have hz : sz1 t = n := by unfold sz1; rw [if_neg (by omega), h2]; simp
  rw [hz]; omega
theorem stepT_sz {b : List UInt8} {s : Sh} (hs : s.ok) {i : Nat} (hi : i < b.length) : 1 ≤ sz1 (stepT b s i) ∧ i + sz1 (stepT b s i) ≤ b.length := by
  rcases stepT_cases hs hi with h | h
  · rw [h]; exact ⟨Nat.le_refl _, hi⟩
  · have := h.sz hs; omega
/-- a copy of bytes that are the same as those behind -/
theorem cpy_same (b : List UInt8) (i d n : Nat) (hd : 1 ≤ d) (hdi : d ≤ i) (hn : i + n ≤ b.length) (h : ∀ j, j < n → b.getD (i - d + j) 0 = b.getD (i + j) 0) : cpy (b.take i) d n = b.take (i + n) := by
  induction n with
  | zero => rfl
  | succ n ih =>
    have hi := ih (by omega) (fun j hj => h j (by omega))
    rw [cpy, hi, show i + (n + 1) = (i + n) + 1 by omega, take_snoc b (i + n) (by omega)]
    congr 1
    have hl : (b.take (i + n)).length = i + n := by rw [List.length_take]; omega
    unfold back1
    rw [if_pos (by omega), hl, ← h n (by omega)]
    simp only [List.getD_eq_getElem?_getD]
    rw [List.getElem?_take_of_lt (by omega), show i + n - d = i - d + n by omega]
theorem fd_tell {b : List UInt8} {s : Sh} (hs : s.ok) (f i : Nat) (hi : i ≤ b.length) (hf : b.length ≤ i + f) : tellT ⟨s.win.toNat, b.length, false, b.take i⟩ (fdF b s f i) = (0, ⟨s.win.toNat, b.length, false, b⟩) := by
  induction f generalizing i with
  | zero =>
    rw [fdF, tellT, List.take_of_length_le (by omega)]
  | succ f ih =>
    rw [fdF]
    by_cases hlt : i < b.length
    · rw [if_pos hlt, tellT]
      obtain ⟨z1, z2⟩ := stepT_sz hs hlt
      have hl : (b.take i).length = i := by rw [List.length_take]; omega
      have key : (⟨s.win.toNat, b.length, false, b.take i⟩ : HS).tk (stepT b s i) = (0, ⟨s.win.toNat, b.length, false, b.take (i + sz1 (stepT b s i))⟩) := by
        rcases stepT_cases hs hlt with h | h
        · rw [h]
          unfold HS.tk HS.lit
          rw [if_pos rfl, if_neg (by simp only [hl]; omega)]
          show (0, (⟨s.win.toNat, b.length, false, b.take i ++ [b.getD i 0]⟩ : HS)) = _
          rw [← take_snoc b i hlt]; rfl
        · obtain ⟨g1, _, g3⟩ := h.sz hs
          obtain ⟨d, n, h1, h2, h3, h4, h5, h6, h7, h8, h9⟩ := h.ex
          have hz : sz1 (stepT b s i) = n := by unfold sz1; rw [if_neg g1, h2]; simp
          obtain ⟨q1, _⟩ := hs
          unfold HS.tk HS.copy
          rw [if_neg g1, h1, h2, if_neg (by omega), if_neg (by
            intro g
            rcases g with g | g
            · simp only at g; omega
            · have := g.1; simp only [hl] at this; omega), if_neg (by simp only [hl]; omega)]
          show (0, (⟨s.win.toNat, b.length, false, cpy (b.take i) (d : Int).toNat (n : Int).toNat⟩ : HS)) = _
          rw [Int.toNat_natCast, Int.toNat_natCast, cpy_same b i d n h3 h4 h8 h9, hz]
      rw [key]
      simp only [if_true]
      exact ih (i + sz1 (stepT b s i)) z2 (by omega)
    · rw [if_neg hlt, tellT, List.take_of_length_le (by omega)]
theorem found_tell {b : List UInt8} {s : Sh} (hs : s.ok) : expT (found b s) s.win b.length false = (0, b) := by
  have h := fd_tell (b := b) hs b.length 0 (Nat.zero_le _) (by omega)
  unfold expT found
  rw [if_neg (by obtain ⟨h1, h2, _⟩ := hs; unfold winBad; omega)]
  rw [List.take_zero] at h
  rw [Int.toNat_natCast, h]; rfl
theorem found_sum {b : List UInt8} {s : Sh} (hs : s.ok) : sumT (found b s) = b.length := by
  have h := fd_tell (b := b) hs b.length 0 (Nat.zero_le _) (by omega)
  have h2 := tellT_size (s := ⟨s.win.toNat, b.length, false, b.take 0⟩) (ts := found b s) (by unfold found; rw [h])
  unfold found at h2 ⊢
  rw [h] at h2
  simpa using h2.symm
theorem fd_len {b : List UInt8} {s : Sh} (hs : s.ok) (f i : Nat) : (fdF b s f i).length ≤ b.length - i := by
  induction f generalizing i with
  | zero => rw [fdF]; simp
  | succ f ih =>
    rw [fdF]
    split
    · next h =>
      have h1 := ih (i + sz1 (stepT b s i))
      have h2 := (stepT_sz hs h).1
      rw [List.length_cons]; omega
    · simp
/-- are tokens of a shape -/
def fits1 (s : Sh) (t : Tk) : Prop := (t.len = 0 ∧ t.dist = 0) ∨ (t.len ≠ 0 ∧ s.min ≤ t.len ∧ t.len ≤ s.max ∧ 1 ≤ t.dist ∧ t.dist ≤ s.win)
instance (s : Sh) (t : Tk) : Decidable (fits1 s t) := by unfold fits1; infer_instance
def fitsT (ts : List Tk) (s : Sh) : Bool := ts.all fun t => decide (fits1 s t)
theorem fd_fits {b : List UInt8} {s : Sh} (hs : s.ok) (f i : Nat) : fitsT (fdF b s f i) s = true := by
  induction f generalizing i with
  | zero => rfl
  | succ f ih =>
    rw [fdF]
    split
    · next h =>
      have e : ∀ t l, fitsT (t :: l) s = (decide (fits1 s t) && fitsT l s) := fun t l => rfl
      rw [e, ih, Bool.and_true, decide_eq_true_eq]
      rcases stepT_cases hs h with h1 | h1
      · rw [h1]; exact .inl ⟨rfl, rfl⟩
      · obtain ⟨g1, _, _⟩ := h1.sz hs
        obtain ⟨d, n, q1, q2, q3, q4, q5, q6, q7, _⟩ := h1.ex
        exact .inr ⟨g1, by omega, by omega, by omega, by omega⟩
    · rfl
end Go.Proofs.Ytmafgamacijdaaa
