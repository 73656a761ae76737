/- Texts put together: BitTurn -/
import Derived.Test.YteahcpkaagjkkaaRows
import Derived.WalkKit
import Derived.ProofKit
import Derived.Below
import Derived.Deep.DeepCutAuto
import Derived.Lib.Hide
namespace Go.Proofs.Yteahcpkaagjkkaa
set_option linter.unusedVariables false
set_option linter.unusedSimpArgs false
open Go.ChangeShapes Go.WideShapes Go.ChangeAt Go.RowKit

theorem clamp_c (n : Int) (w : World) : Calls Try.prog 92 #[.int .i64 n] w fun e w' => e = .returned (.int .i64 (max 0 (min n 32))) ∧ w = w' := by
  by_cases h1 : n ≤ 0
  · have e : max 0 (min n 32) = 0 := by omega
    rw [e]
    have h2 : ¬ 32 < n := by omega
    go_enter Try.func92, Try.ntmps92
    go_wp2
    go_ret; exact ⟨rfl, rfl⟩
  · by_cases h2 : 32 < n
    · have e : max 0 (min n 32) = 32 := by omega
      rw [e]
      go_enter Try.func92, Try.ntmps92
      go_wp2
      go_ret; exact ⟨rfl, rfl⟩
    · have e : max 0 (min n 32) = n := by omega
      rw [e]
      go_enter Try.func92, Try.ntmps92
      go_wp2
      go_ret; exact ⟨rfl, rfl⟩

/-- one exchange of neighbours -/
def st (m : Nat) (k : Nat) (x : Nat) : Nat := ((x / 2 ^ k) &&& m) ||| (((x &&& m) * 2 ^ k) % 4294967296)
theorem st_lt (m k x : Nat) (hm : m < 4294967296) : st m k x < 4294967296 := by
  unfold st
  exact Nat.or_lt_two_pow (n := 32) (Nat.lt_of_le_of_lt Nat.and_le_right hm) (Nat.mod_lt _ (by decide))
theorem st_int (m k x : Nat) (hm : m < 4294967296) (hx : x < 4294967296) (M : Int) (hM : M = m) (K : Int) (hK : K = 2 ^ k) :
    Go.bits .or .u32 (Go.bits .and .u32 (x / K) M) (Go.bits .and .u32 x M * K % 4294967296) = st m k x := by
  subst hM; subst hK
  have hd : x / 2 ^ k < 4294967296 := Nat.lt_of_le_of_lt (Nat.div_le_self _ _) hx
  have e1 : ((x : Int) / 2 ^ k) = ((x / 2 ^ k : Nat) : Int) := by simp
  rw [e1, u32_and_nat _ _ hd hm, u32_and_nat _ _ hx hm]
  have e2 : (((x &&& m : Nat) : Int) * 2 ^ k % 4294967296) = (((x &&& m) * 2 ^ k % 4294967296 : Nat) : Int) := by simp
  rw [e2, u32_or_nat _ _ (Nat.lt_of_le_of_lt Nat.and_le_right hm) (Nat.mod_lt _ (by decide))]
  rfl

def revb (x : Nat) : Nat := (st 16711935 8 x / 65536) ||| (st 16711935 8 x * 65536 % 4294967296)
def rev (x : Nat) : Nat := revb (st 252645135 4 (st 858993459 2 (st 1431655765 1 x)))
theorem rev_lt (x : Nat) : rev x < 4294967296 := by
  unfold rev revb
  have h := st_lt 16711935 8 (st 252645135 4 (st 858993459 2 (st 1431655765 1 x))) (by decide)
  exact Nat.or_lt_two_pow (n := 32) (by omega) (by omega)

/-! the plain side -/
theorem st_bit (m k x i : Nat) (hi : i < 32) : (st m k x).testBit i = ((x.testBit (i + k) && m.testBit i) || (decide (k ≤ i) && (x.testBit (i - k) && m.testBit (i - k)))) := by
  unfold st
  rw [Nat.testBit_or, Nat.testBit_and, Nat.testBit_div_two_pow, show (4294967296 : Nat) = 2 ^ 32 from rfl, Nat.testBit_mod_two_pow, Nat.testBit_mul_two_pow, Nat.testBit_and]
  by_cases h : k ≤ i <;> simp [h, hi]


def gx (k i : Nat) : Nat := if i / k % 2 = 0 then i + k else i - k
theorem st_gx (m k x i : Nat) (hk : 0 < k) (hm : ∀ j, j < 32 → m.testBit j = decide (j / k % 2 = 0)) (hi : i < 32) : (st m k x).testBit i = x.testBit (gx k i) := by
  rw [st_bit m k x i hi, hm i hi]
  unfold gx
  by_cases h : i / k % 2 = 0
  · rw [if_pos h]
    by_cases hki : k ≤ i
    · have e : (i - k) / k = i / k - 1 := by rw [Nat.div_eq_sub_div hk hki]; simp
      have h1 : 1 ≤ i / k := by rw [Nat.le_div_iff_mul_le hk]; omega
      rw [hm (i - k) (by omega), e]
      have : ¬ (i / k - 1) % 2 = 0 := by omega
      simp [h, this]
    · simp [h, hki]
  · rw [if_neg h]
    have hki : k ≤ i := by
      rcases Nat.lt_or_ge i k with h2 | h2
      · rw [Nat.div_eq_of_lt h2] at h; simp at h
      · exact h2
    have e : (i - k) / k = i / k - 1 := by rw [Nat.div_eq_sub_div hk hki]; simp
    have h1 : 1 ≤ i / k := by rw [Nat.le_div_iff_mul_le hk]; omega
    rw [hm (i - k) (by omega), e]
    have : (i / k - 1) % 2 = 0 := by omega
    simp [h, this, hki]
theorem mask1 : ∀ j, j < 32 → (1431655765 : Nat).testBit j = decide (j / 1 % 2 = 0) := by decide
theorem mask2 : ∀ j, j < 32 → (858993459 : Nat).testBit j = decide (j / 2 % 2 = 0) := by decide
theorem mask4 : ∀ j, j < 32 → (252645135 : Nat).testBit j = decide (j / 4 % 2 = 0) := by decide
theorem mask8 : ∀ j, j < 32 → (16711935 : Nat).testBit j = decide (j / 8 % 2 = 0) := by decide
theorem gx_lt : ∀ i, i < 32 → gx 16 i < 32 ∧ gx 8 (gx 16 i) < 32 ∧ gx 4 (gx 8 (gx 16 i)) < 32 ∧ gx 2 (gx 4 (gx 8 (gx 16 i))) < 32 ∧ gx 1 (gx 2 (gx 4 (gx 8 (gx 16 i)))) = 31 - i := by decide

theorem hi_bit (x j : Nat) (hx : x < 4294967296) (hj : 32 ≤ j) : x.testBit j = false :=
  Nat.testBit_lt_two_pow (Nat.lt_of_lt_of_le hx (Nat.pow_le_pow_right (n := 2) (i := 32) (by decide) hj))
theorem rev_bit (x i : Nat) : (rev x).testBit i = (decide (i < 32) && x.testBit (31 - i)) := by
  by_cases hi : i < 32
  · have h16 : (rev x).testBit i = (st 16711935 8 (st 252645135 4 (st 858993459 2 (st 1431655765 1 x)))).testBit (gx 16 i) := by
      unfold rev revb
      generalize hc : st 16711935 8 (st 252645135 4 (st 858993459 2 (st 1431655765 1 x))) = c
      have hlt : c < 4294967296 := by rw [← hc]; exact st_lt _ _ _ (by decide)
      rw [Nat.testBit_or, show (65536 : Nat) = 2 ^ 16 from rfl, Nat.testBit_div_two_pow, show (4294967296 : Nat) = 2 ^ 32 from rfl, Nat.testBit_mod_two_pow, Nat.testBit_mul_two_pow]
      unfold gx
      by_cases h : i < 16
      · have : i / 16 % 2 = 0 := by omega
        have h2 : ¬ 16 ≤ i := by omega
        simp [this, h2]
      · have : ¬ i / 16 % 2 = 0 := by omega
        have h2 : 16 ≤ i := by omega
        simp [this, h2, hi, hi_bit c (i + 16) hlt (by omega)]
    obtain ⟨g1, g2, g3, g4, g5⟩ := gx_lt i hi
    rw [h16, st_gx _ 8 _ _ (by decide) mask8 g1, st_gx _ 4 _ _ (by decide) mask4 g2, st_gx _ 2 _ _ (by decide) mask2 g3, st_gx _ 1 _ _ (by decide) mask1 g4, g5]
    simp [hi]
  · rw [hi_bit (rev x) i (rev_lt x) (by omega)]; simp [hi]

/-- the lowest c bits in the other order, onto y -/
def tr : Nat → Nat → Nat → Nat
  | 0, _, y => y
  | c + 1, x, y => tr c (x / 2) (y * 2 + x % 2)
theorem tr_bit (c x y i : Nat) : (tr c x y).testBit i = if i < c then x.testBit (c - 1 - i) else y.testBit (i - c) := by
  induction c generalizing x y with
  | zero => simp [tr]
  | succ c ih =>
    rw [tr, ih]
    by_cases h : i < c
    · have h1 : i < c + 1 := by omega
      rw [if_pos h, if_pos h1, Nat.testBit_div_two]
      congr 1; omega
    · rw [if_neg h]
      by_cases h2 : i = c
      · subst h2
        simp
      · have h3 : ¬ i < c + 1 := by omega
        rw [if_neg h3]
        obtain ⟨j, hj⟩ : ∃ j, i - c = j + 1 := ⟨i - c - 1, by omega⟩
        rw [hj, Nat.testBit_succ, show i - (c + 1) = j by omega]
        congr 1; omega
theorem tr_rev (c x : Nat) (hc : c ≤ 32) : tr c x 0 = rev x / 2 ^ (32 - c) := by
  apply Nat.eq_of_testBit_eq
  intro i
  rw [tr_bit, Nat.testBit_div_two_pow, rev_bit]
  by_cases h : i < c
  · rw [if_pos h]
    have : i + (32 - c) < 32 := by omega
    simp only [this, decide_true, Bool.true_and]
    congr 1; omega
  · rw [if_neg h]
    have : ¬ i + (32 - c) < 32 := by omega
    simp [this]
theorem tr_succ (k x y : Nat) : tr (k + 1) x y = tr k x y * 2 + x / 2 ^ k % 2 := by
  induction k generalizing x y with
  | zero => simp [tr]
  | succ k ih => rw [tr, ih, tr, Nat.div_div_eq_div_mul, Nat.pow_succ, Nat.mul_comm 2]
theorem tr_lt (k x : Nat) : tr k x 0 < 2 ^ k := by
  apply Nat.lt_pow_two_of_testBit
  intro i hi
  rw [tr_bit]
  have : ¬ i < k := by omega
  simp [this]

/-- the lowest bits of x, so many as n says, in the other order -/
def turn (x : Nat) (n : Int) : Nat := tr (max 0 (min n 32)).toNat x 0
end Go.Proofs.Yteahcpkaagjkkaa
