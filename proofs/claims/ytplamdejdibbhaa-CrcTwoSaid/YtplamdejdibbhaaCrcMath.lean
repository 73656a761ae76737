/- Lemmas on the steps of a CRC of 32 bits, as natural numbers. No condition beyond each theorem's own premises. -/
import Derived.Test.YtplamdejdibbhaaLe
namespace Go.Proofs.Ytplamdejdibbhaa
set_option linter.unusedVariables false
set_option linter.unusedSimpArgs false

/-- one step -/
def cstep (x : Nat) : Nat := (x / 2) ^^^ (if x % 2 = 1 then 3988292384 else 0)
def csteps : Nat → Nat → Nat
  | 0, x => x
  | n + 1, x => csteps n (cstep x)
theorem cstep_xor (x y : Nat) : cstep (x ^^^ y) = cstep x ^^^ cstep y := by
  have h : (x ^^^ y) % 2 = (x + y) % 2 := by
    have h1 := Nat.xor_mod_two_eq_one (a := x) (b := y)
    have h2 := Nat.mod_two_eq_zero_or_one (x ^^^ y)
    by_cases hx : x % 2 = 1 <;> by_cases hy : y % 2 = 1 <;> simp only [hx, hy, iff_true, iff_false, not_true_eq_false, not_false_eq_true] at h1 <;> omega
  unfold cstep
  rw [Nat.xor_div_two, h]
  rcases Nat.mod_two_eq_zero_or_one x with hx | hx <;> rcases Nat.mod_two_eq_zero_or_one y with hy | hy
  · rw [if_neg (by omega), if_neg (by omega), if_neg (by omega)]; simp
  · rw [if_pos (by omega), if_neg (by omega), if_pos (by omega)]; simp [Nat.xor_assoc]
  · rw [if_pos (by omega), if_pos (by omega), if_neg (by omega)]
    simp only [Nat.xor_zero, Nat.xor_assoc]; congr 1; rw [Nat.xor_comm]
  · rw [if_neg (by omega), if_pos (by omega), if_pos (by omega)]
    rw [Nat.xor_assoc, Nat.xor_assoc, ← Nat.xor_assoc 3988292384, Nat.xor_comm 3988292384 (y / 2), Nat.xor_assoc (y / 2), Nat.xor_self]
theorem csteps_xor : ∀ (n x y : Nat), csteps n (x ^^^ y) = csteps n x ^^^ csteps n y
  | 0, _, _ => rfl
  | n + 1, x, y => by rw [csteps, csteps, csteps, cstep_xor, csteps_xor n]
theorem cstep_lt (x : Nat) (h : x < 4294967296) : cstep x < 4294967296 := by
  unfold cstep
  have : x / 2 < 2 ^ 32 := by omega
  split
  · exact Nat.xor_lt_two_pow (n := 32) this (by decide)
  · simpa using this
theorem csteps_lt : ∀ (n x : Nat), x < 4294967296 → csteps n x < 4294967296
  | 0, _, h => h
  | n + 1, x, h => csteps_lt n _ (cstep_lt x h)
theorem cstep_ne (x : Nat) (h : x < 4294967296) (h0 : x ≠ 0) : cstep x ≠ 0 := by
  unfold cstep
  by_cases h1 : x % 2 = 1
  · rw [if_pos h1]
    intro e
    have := congrArg (fun z => z.testBit 31) e
    simp only [Nat.testBit_xor, Nat.zero_testBit] at this
    rw [Nat.testBit_lt_two_pow (show x / 2 < 2 ^ 31 by omega)] at this
    exact absurd this (by decide)
  · rw [if_neg h1]; simp; omega
theorem csteps_ne : ∀ (n x : Nat), x < 4294967296 → x ≠ 0 → csteps n x ≠ 0
  | 0, _, _, h => h
  | n + 1, x, h, h0 => csteps_ne n _ (cstep_lt x h) (cstep_ne x h h0)
theorem csteps_zero : ∀ n, csteps n 0 = 0
  | 0 => rfl
  | n + 1 => by rw [csteps]; exact csteps_zero n
theorem csteps_add : ∀ (n m x : Nat), csteps (n + m) x = csteps m (csteps n x)
  | 0, m, x => by rw [Nat.zero_add]; rfl
  | n + 1, m, x => by rw [show n + 1 + m = (n + m) + 1 by omega, csteps, csteps, csteps_add n m]
theorem cstep_double (v : Nat) : cstep (2 * v) = v := by
  unfold cstep
  rw [if_neg (by omega)]; simp
theorem csteps_pow : ∀ (n v : Nat), csteps n (2 ^ n * v) = v
  | 0, v => by simp [csteps]
  | n + 1, v => by rw [csteps, show 2 ^ (n + 1) * v = 2 * (2 ^ n * v) by rw [Nat.pow_succ, Nat.mul_comm (2 ^ n) 2, Nat.mul_assoc], cstep_double, csteps_pow n]
/-- a number apart into its low bits and the others -/
theorem xor_split (x k : Nat) : x = (2 ^ k * (x / 2 ^ k)) ^^^ (x % 2 ^ k) := by
  apply Nat.eq_of_testBit_eq
  intro i
  rw [Nat.testBit_xor, Nat.testBit_two_pow_mul, Nat.testBit_mod_two_pow, Nat.testBit_div_two_pow]
  by_cases h : k ≤ i
  · simp [h, show ¬ i < k by omega, show i - k + k = i by omega]
  · simp [h, show i < k by omega]
/-- eight steps by the low eight bits alone -/
theorem csteps8 (x : Nat) : csteps 8 x = csteps 8 (x % 256) ^^^ (x / 256) := by
  conv => lhs; rw [xor_split x 8]
  rw [csteps_xor, csteps_pow, Nat.xor_comm]
def cbyte (x : Nat) (b : UInt8) : Nat := csteps 8 (x ^^^ b.toNat)
def cfold (x : Nat) (l : List UInt8) : Nat := l.foldl cbyte x
theorem cfold_append (x : Nat) (l m : List UInt8) : cfold x (l ++ m) = cfold (cfold x l) m := by unfold cfold; rw [List.foldl_append]
theorem cfold_snoc (x : Nat) (l : List UInt8) (b : UInt8) : cfold x (l ++ [b]) = cbyte (cfold x l) b := by rw [cfold_append]; rfl
theorem u8_lt32 (b : UInt8) : b.toNat < 4294967296 := by have := b.toNat_lt; omega
theorem cbyte_lt (x : Nat) (b : UInt8) (h : x < 4294967296) : cbyte x b < 4294967296 := csteps_lt 8 _ (Nat.xor_lt_two_pow (n := 32) h (u8_lt32 b))
theorem cfold_lt : ∀ (l : List UInt8) (x : Nat), x < 4294967296 → cfold x l < 4294967296
  | [], _, h => h
  | b :: l, x, h => cfold_lt l (cbyte x b) (cbyte_lt x b h)
/-- by any table -/
def wbyte (t : Nat → Nat) (x : Nat) (b : UInt8) : Nat := t (x % 256 ^^^ b.toNat) ^^^ (x / 256)
def wfold (t : Nat → Nat) (x : Nat) (l : List UInt8) : Nat := l.foldl (wbyte t) x
theorem wfold_snoc (t : Nat → Nat) (x : Nat) (l : List UInt8) (b : UInt8) : wfold t x (l ++ [b]) = wbyte t (wfold t x l) b := by unfold wfold; rw [List.foldl_append]; rfl
theorem xor_mod256 (x : Nat) (b : UInt8) : (x ^^^ b.toNat) % 256 = x % 256 ^^^ b.toNat := by
  have h := Nat.xor_mod_two_pow (a := x) (b := b.toNat) (n := 8)
  rw [show (2 : Nat) ^ 8 = 256 from rfl, Nat.mod_eq_of_lt (show b.toNat < 256 from b.toNat_lt)] at h
  exact h
theorem xor_div256 (x : Nat) (b : UInt8) : (x ^^^ b.toNat) / 256 = x / 256 := by
  have h := Nat.xor_div_two_pow (a := x) (b := b.toNat) (n := 8)
  rw [show (2 : Nat) ^ 8 = 256 from rfl, Nat.div_eq_of_lt (show b.toNat < 256 from b.toNat_lt), Nat.xor_zero] at h
  exact h
theorem wbyte_steps (x : Nat) (b : UInt8) : wbyte (csteps 8) x b = cbyte x b := by
  unfold wbyte cbyte
  rw [csteps8 (x ^^^ b.toNat), xor_mod256, xor_div256]
theorem wfold_steps : ∀ (l : List UInt8) (x : Nat), wfold (csteps 8) x l = cfold x l
  | [], _ => rfl
  | b :: l, x => by
    show wfold (csteps 8) (wbyte (csteps 8) x b) l = cfold (cbyte x b) l
    rw [wbyte_steps, wfold_steps l]
def xorL (a b : List UInt8) : List UInt8 := List.zipWith (fun x y => x ^^^ y) a b
theorem cfold_xor : ∀ (a b : List UInt8) (x y : Nat), a.length = b.length → cfold (x ^^^ y) (xorL a b) = cfold x a ^^^ cfold y b
  | [], [], _, _, _ => rfl
  | c :: a, d :: b, x, y, h => by
    show cfold (cbyte (x ^^^ y) (c ^^^ d)) (xorL a b) = cfold (cbyte x c) a ^^^ cfold (cbyte y d) b
    rw [← cfold_xor a b _ _ (by simpa using h)]
    congr 1
    unfold cbyte
    rw [← csteps_xor, UInt8.toNat_xor]
    congr 1
    rw [Nat.xor_assoc, Nat.xor_assoc, ← Nat.xor_assoc y, ← Nat.xor_assoc c.toNat, Nat.xor_comm y c.toNat]
  | [], _ :: _, _, _, h => by simp at h
  | _ :: _, [], _, _, h => by simp at h
theorem pow_mul_xor (k x y : Nat) : 2 ^ k * (x ^^^ y) = (2 ^ k * x) ^^^ (2 ^ k * y) := by
  apply Nat.eq_of_testBit_eq
  intro i
  rw [Nat.testBit_xor, Nat.testBit_two_pow_mul, Nat.testBit_two_pow_mul, Nat.testBit_two_pow_mul, Nat.testBit_xor]
  by_cases h : k ≤ i <;> simp [h]
theorem le_cons_xor (b : UInt8) (l : List UInt8) : le (b :: l) = b.toNat ^^^ (2 ^ 8 * le l) := by
  have h := xor_split (le (b :: l)) 8
  have hb := b.toNat_lt
  have e1 : le (b :: l) / 2 ^ 8 = le l := by simp only [le]; omega
  have e2 : le (b :: l) % 2 ^ 8 = b.toNat := by simp only [le]; omega
  rw [e1, e2, Nat.xor_comm] at h
  exact h
/-- the fold is so many steps of the whole text as a number -/
theorem cfold_le : ∀ (l : List UInt8) (x : Nat), cfold x l = csteps (8 * l.length) (x ^^^ le l)
  | [], x => by simp [cfold, le, csteps]
  | b :: l, x => by
    show cfold (cbyte x b) l = _
    rw [cfold_le l, le_cons_xor, List.length_cons, show 8 * (l.length + 1) = 8 + 8 * l.length by omega, csteps_add]
    congr 1
    rw [← Nat.xor_assoc, csteps_xor 8, csteps_pow]
    rfl
/-- a bit of a text turned -/
theorem le_turn : ∀ (l : List UInt8) (j : Nat) (h : j < l.length) (u : UInt8), le (l.set j (l[j] ^^^ u)) = le l ^^^ (2 ^ (8 * j) * u.toNat)
  | [], j, h, _ => by simp at h
  | b :: l, 0, _, u => by
    simp only [List.set_cons_zero, List.getElem_cons_zero]
    rw [le_cons_xor, le_cons_xor, UInt8.toNat_xor, Nat.xor_assoc, Nat.xor_assoc, Nat.xor_comm u.toNat]
    simp
  | b :: l, j + 1, h, u => by
    simp only [List.set_cons_succ, List.getElem_cons_succ]
    rw [le_cons_xor, le_cons_xor, le_turn l j (by simpa using h) u, pow_mul_xor, Nat.xor_assoc, show 8 * (j + 1) = 8 + 8 * j by omega, Nat.pow_add, Nat.mul_assoc]
theorem turned_lt (p k : Nat) (h : p < 2 ^ k) : p ^^^ 2 ^ k < 2 ^ (k + 1) :=
  Nat.xor_lt_two_pow (Nat.lt_of_lt_of_le h (Nat.pow_le_pow_right (by decide) (by omega))) (by rw [Nat.pow_succ]; have := Nat.two_pow_pos k; omega)
theorem turned_ne (p k : Nat) (h : p < 2 ^ k) : p ^^^ 2 ^ k ≠ 0 := by
  intro e
  have := congrArg (fun z => z.testBit k) e
  simp only [Nat.testBit_xor, Nat.zero_testBit, Nat.testBit_two_pow_self, Nat.testBit_lt_two_pow h] at this
  exact absurd this (by decide)
/-- P3.3: a burst is seen -/
theorem burst (b c : List UInt8) (x at_ p : Nat) (hl : c.length = b.length) (ha : at_ ≤ 8 * b.length) (hp : p < 4294967296) (h0 : p ≠ 0) (hc : le c = le b ^^^ (2 ^ at_ * p)) : cfold x c ≠ cfold x b := by
  intro e
  have h1 : cfold x c ^^^ cfold x b = 0 := by rw [e, Nat.xor_self]
  rw [cfold_le, cfold_le, hl, ← csteps_xor] at h1
  have h2 : (x ^^^ le c) ^^^ (x ^^^ le b) = 2 ^ at_ * p := by
    rw [hc]
    apply Nat.eq_of_testBit_eq
    intro i
    simp only [Nat.testBit_xor]
    cases x.testBit i <;> cases (le b).testBit i <;> simp
  rw [h2, show 8 * b.length = at_ + (8 * b.length - at_) by omega, csteps_add, csteps_pow] at h1
  exact csteps_ne _ _ hp h0 h1
end Go.Proofs.Ytplamdejdibbhaa
