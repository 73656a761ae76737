/- Texts put together: BitTurn CanMath SfMath -/
import Derived.Test.YtokfcgloogdeiaaGreatDoorRows
import Derived.WalkKit
import Derived.ProofKit
import Derived.Below
import Derived.Deep.DeepCutAuto
import Derived.Lib.Hide
import Derived.Test.YtokfcgloogdeiaaGreatDoorPart4
namespace Go.Proofs.YtokfcgloogdeiaaGreatDoor
set_option linter.unusedVariables false
set_option linter.unusedSimpArgs false
open Go.ChangeShapes Go.WideShapes Go.ChangeAt Go.RowKit

theorem clamp_c (n : Int) (w : World) : Calls Tryz.prog 115 #[.int .i64 n] w fun e w' => e = .returned (.int .i64 (max 0 (min n 32))) ∧ w = w' := by
  by_cases h1 : n ≤ 0
  · have e : max 0 (min n 32) = 0 := by omega
    rw [e]
    have h2 : ¬ 32 < n := by omega
    go_enter Tryz.func115, Tryz.ntmps115
    go_wp2
    go_ret; exact ⟨rfl, rfl⟩
  · by_cases h2 : 32 < n
    · have e : max 0 (min n 32) = 32 := by omega
      rw [e]
      go_enter Tryz.func115, Tryz.ntmps115
      go_wp2
      go_ret; exact ⟨rfl, rfl⟩
    · have e : max 0 (min n 32) = n := by omega
      rw [e]
      go_enter Tryz.func115, Tryz.ntmps115
      go_wp2
      go_ret; exact ⟨rfl, rfl⟩

/-- one exchange of neighbours -/
def st (m : Nat) (k : Nat) (x : Nat) : Nat := ((x / 2 ^ k) &&& m) ||| (((x &&& m) * 2 ^ k) % 4294967296)
theorem st_lt (m k x : Nat) (hm : m < 4294967296) : st m k x < 4294967296 := by
  unfold st
  exact Nat.or_lt_two_pow (n := 32) (Nat.lt_of_le_of_lt Nat.and_le_right hm) (Nat.mod_lt _ (by decide))
theorem st_int (m k x : Nat) (hm : m < 4294967296) (hx : x < 4294967296) (M : Int) (hM : M = m) (K : Int) (hK : K = 2 ^ k) :
    Go.bits .or .u32 (Go.bits .and .u32 (x / K) M) (Go.bits .and .u32 x M * K % 4294967296) = st m k x := by
  subst hM; subst hK
  have hd : x / 2 ^ k < 4294967296 := Nat.lt_of_le_of_lt (Nat.div_le_self _ _) hx
  have e1 : ((x : Int) / 2 ^ k) = ((x / 2 ^ k : Nat) : Int) := by simp
  rw [e1, u32_and_nat _ _ hd hm, u32_and_nat _ _ hx hm]
  have e2 : (((x &&& m : Nat) : Int) * 2 ^ k % 4294967296) = (((x &&& m) * 2 ^ k % 4294967296 : Nat) : Int) := by simp
  rw [e2, u32_or_nat _ _ (Nat.lt_of_le_of_lt Nat.and_le_right hm) (Nat.mod_lt _ (by decide))]
  rfl

def revb (x : Nat) : Nat := (st 16711935 8 x / 65536) ||| (st 16711935 8 x * 65536 % 4294967296)
theorem revbytes_c (x : Nat) (w : World) (hx : x < 4294967296) : Calls Tryz.prog 121 #[.int .u32 x] w fun e w' => e = .returned (.int .u32 (revb x)) ∧ w = w' := by
  go_enter Tryz.func121, Tryz.ntmps121
  go_upto_region 2 with fail
  rw [st_int 16711935 8 x (by decide) hx 16711935 rfl 256 rfl]
  have h1 := st_lt 16711935 8 x (by decide)
  have hr : Go.bits .or .u32 ((st 16711935 8 x : Nat) / 65536) ((st 16711935 8 x : Nat) * 65536 % 4294967296) = revb x := by
    have e1 : (((st 16711935 8 x : Nat) : Int) / 65536) = ((st 16711935 8 x / 65536 : Nat) : Int) := by simp
    have e2 : (((st 16711935 8 x : Nat) : Int) * 65536 % 4294967296) = ((st 16711935 8 x * 65536 % 4294967296 : Nat) : Int) := by simp
    rw [e1, e2, u32_or_nat _ _ (by omega) (by omega)]; rfl
  have HR := Lib.hid hr; clear hr
  generalize hy : st 16711935 8 x = y at *
  clear hy
  go_wp2
  go_ret
  exact ⟨by rw [HR.out]; rfl, rfl⟩

def rev (x : Nat) : Nat := revb (st 252645135 4 (st 858993459 2 (st 1431655765 1 x)))
theorem rev_c (x : Nat) (w : World) (hx : x < 4294967296) : Calls Tryz.prog 114 #[.int .u32 x] w fun e w' => e = .returned (.int .u32 (rev x)) ∧ w = w' := by
  go_enter Tryz.func114, Tryz.ntmps114
  go_upto_region 2 with fail
  rw [st_int 1431655765 1 x (by decide) hx 1431655765 rfl 2 rfl]
  have h1 := st_lt 1431655765 1 x (by decide)
  go_upto_region 3 with fail
  rw [st_int 858993459 2 _ (by decide) h1 858993459 rfl 4 rfl]
  have h2 := st_lt 858993459 2 (st 1431655765 1 x) (by decide)
  go_upto_region 4 with fail
  rw [st_int 252645135 4 _ (by decide) h2 252645135 rfl 16 rfl]
  have h3 := st_lt 252645135 4 (st 858993459 2 (st 1431655765 1 x)) (by decide)
  go_wp2_with (refine (revbytes_c _ _ h3).mono ?_; rintro e w' ⟨rfl, rfl⟩)
  go_ret
  exact ⟨rfl, rfl⟩

theorem rev_lt (x : Nat) : rev x < 4294967296 := by
  unfold rev revb
  have h := st_lt 16711935 8 (st 252645135 4 (st 858993459 2 (st 1431655765 1 x))) (by decide)
  exact Nat.or_lt_two_pow (n := 32) (by omega) (by omega)

/-! the plain side -/
theorem st_bit (m k x i : Nat) (hi : i < 32) : (st m k x).testBit i = ((x.testBit (i + k) && m.testBit i) || (decide (k ≤ i) && (x.testBit (i - k) && m.testBit (i - k)))) := by
  unfold st
  rw [Nat.testBit_or, Nat.testBit_and, Nat.testBit_div_two_pow, show (4294967296 : Nat) = 2 ^ 32 from rfl, Nat.testBit_mod_two_pow, Nat.testBit_mul_two_pow, Nat.testBit_and]
  by_cases h : k ≤ i <;> simp [h, hi]


def gx (k i : Nat) : Nat := if i / k % 2 = 0 then i + k else i - k
theorem st_gx (m k x i : Nat) (hk : 0 < k) (hm : ∀ j, j < 32 → m.testBit j = decide (j / k % 2 = 0)) (hi : i < 32) : (st m k x).testBit i = x.testBit (gx k i) := by
  rw [st_bit m k x i hi, hm i hi]
  unfold gx
  by_cases h : i / k % 2 = 0
  · rw [if_pos h]
    by_cases hki : k ≤ i
    · have e : (i - k) / k = i / k - 1 := by rw [Nat.div_eq_sub_div hk hki]; simp
      have h1 : 1 ≤ i / k := by rw [Nat.le_div_iff_mul_le hk]; omega
      rw [hm (i - k) (by omega), e]
      have : ¬ (i / k - 1) % 2 = 0 := by omega
      simp [h, this]
    · simp [h, hki]
  · rw [if_neg h]
    have hki : k ≤ i := by
      rcases Nat.lt_or_ge i k with h2 | h2
      · rw [Nat.div_eq_of_lt h2] at h; simp at h
      · exact h2
    have e : (i - k) / k = i / k - 1 := by rw [Nat.div_eq_sub_div hk hki]; simp
    have h1 : 1 ≤ i / k := by rw [Nat.le_div_iff_mul_le hk]; omega
    rw [hm (i - k) (by omega), e]
    have : (i / k - 1) % 2 = 0 := by omega
    simp [h, this, hki]
theorem mask1 : ∀ j, j < 32 → (1431655765 : Nat).testBit j = decide (j / 1 % 2 = 0) := by decide
theorem mask2 : ∀ j, j < 32 → (858993459 : Nat).testBit j = decide (j / 2 % 2 = 0) := by decide
theorem mask4 : ∀ j, j < 32 → (252645135 : Nat).testBit j = decide (j / 4 % 2 = 0) := by decide
theorem mask8 : ∀ j, j < 32 → (16711935 : Nat).testBit j = decide (j / 8 % 2 = 0) := by decide
theorem gx_lt : ∀ i, i < 32 → gx 16 i < 32 ∧ gx 8 (gx 16 i) < 32 ∧ gx 4 (gx 8 (gx 16 i)) < 32 ∧ gx 2 (gx 4 (gx 8 (gx 16 i))) < 32 ∧ gx 1 (gx 2 (gx 4 (gx 8 (gx 16 i)))) = 31 - i := by decide

theorem hi_bit (x j : Nat) (hx : x < 4294967296) (hj : 32 ≤ j) : x.testBit j = false :=
  Nat.testBit_lt_two_pow (Nat.lt_of_lt_of_le hx (Nat.pow_le_pow_right (n := 2) (i := 32) (by decide) hj))
theorem rev_bit (x i : Nat) : (rev x).testBit i = (decide (i < 32) && x.testBit (31 - i)) := by
  by_cases hi : i < 32
  · have h16 : (rev x).testBit i = (st 16711935 8 (st 252645135 4 (st 858993459 2 (st 1431655765 1 x)))).testBit (gx 16 i) := by
      unfold rev revb
      generalize hc : st 16711935 8 (st 252645135 4 (st 858993459 2 (st 1431655765 1 x))) = c
      have hlt : c < 4294967296 := by rw [← hc]; exact st_lt _ _ _ (by decide)
      rw [Nat.testBit_or, show (65536 : Nat) = 2 ^ 16 from rfl, Nat.testBit_div_two_pow, show (4294967296 : Nat) = 2 ^ 32 from rfl, Nat.testBit_mod_two_pow, Nat.testBit_mul_two_pow]
      unfold gx
      by_cases h : i < 16
      · have : i / 16 % 2 = 0 := by omega
        have h2 : ¬ 16 ≤ i := by omega
        simp [this, h2]
      · have : ¬ i / 16 % 2 = 0 := by omega
        have h2 : 16 ≤ i := by omega
        simp [this, h2, hi, hi_bit c (i + 16) hlt (by omega)]
    obtain ⟨g1, g2, g3, g4, g5⟩ := gx_lt i hi
    rw [h16, st_gx _ 8 _ _ (by decide) mask8 g1, st_gx _ 4 _ _ (by decide) mask4 g2, st_gx _ 2 _ _ (by decide) mask2 g3, st_gx _ 1 _ _ (by decide) mask1 g4, g5]
    simp [hi]
  · rw [hi_bit (rev x) i (rev_lt x) (by omega)]; simp [hi]

/-- the lowest c bits in the other order, onto y -/
def tr : Nat → Nat → Nat → Nat
  | 0, _, y => y
  | c + 1, x, y => tr c (x / 2) (y * 2 + x % 2)
theorem tr_bit (c x y i : Nat) : (tr c x y).testBit i = if i < c then x.testBit (c - 1 - i) else y.testBit (i - c) := by
  induction c generalizing x y with
  | zero => simp [tr]
  | succ c ih =>
    rw [tr, ih]
    by_cases h : i < c
    · have h1 : i < c + 1 := by omega
      rw [if_pos h, if_pos h1, Nat.testBit_div_two]
      congr 1; omega
    · rw [if_neg h]
      by_cases h2 : i = c
      · subst h2
        simp
      · have h3 : ¬ i < c + 1 := by omega
        rw [if_neg h3]
        obtain ⟨j, hj⟩ : ∃ j, i - c = j + 1 := ⟨i - c - 1, by omega⟩
        rw [hj, Nat.testBit_succ, show i - (c + 1) = j by omega]
        congr 1; omega
theorem tr_rev (c x : Nat) (hc : c ≤ 32) : tr c x 0 = rev x / 2 ^ (32 - c) := by
  apply Nat.eq_of_testBit_eq
  intro i
  rw [tr_bit, Nat.testBit_div_two_pow, rev_bit]
  by_cases h : i < c
  · rw [if_pos h]
    have : i + (32 - c) < 32 := by omega
    simp only [this, decide_true, Bool.true_and]
    congr 1; omega
  · rw [if_neg h]
    have : ¬ i + (32 - c) < 32 := by omega
    simp [this]
theorem tr_succ (k x y : Nat) : tr (k + 1) x y = tr k x y * 2 + x / 2 ^ k % 2 := by
  induction k generalizing x y with
  | zero => simp [tr]
  | succ k ih => rw [tr, ih, tr, Nat.div_div_eq_div_mul, Nat.pow_succ, Nat.mul_comm 2]
theorem tr_lt (k x : Nat) : tr k x 0 < 2 ^ k := by
  apply Nat.lt_pow_two_of_testBit
  intro i hi
  rw [tr_bit]
  have : ¬ i < k := by omega
  simp [this]

/-- the lowest bits of x, so many as n says, in the other order -/
def turn (x : Nat) (n : Int) : Nat := tr (max 0 (min n 32)).toNat x 0
theorem turn_c (x : Nat) (n : Int) (w : World) (hx : x < 4294967296) : Calls Tryz.prog 107 #[.int .u32 x, .int .i64 n] w fun e w' => e = .returned (.int .u32 (turn x n)) ∧ w = w' := by
  have hr := rev_lt x
  obtain ⟨c, hc⟩ : ∃ c : Nat, max 0 (min n 32) = c := ⟨(max 0 (min n 32)).toNat, by omega⟩
  have hc2 : c ≤ 32 := by omega
  have hfin : turn x n = rev x / 2 ^ (32 - c) := by unfold turn; rw [hc]; exact tr_rev c x hc2
  have HF := Lib.hid hfin; clear hfin
  have HC := Lib.hid hc; clear hc
  go_enter Tryz.func107, Tryz.ntmps107
  go_wp2_with fail
  refine (rev_c _ _ hx).mono ?_; rintro e w' ⟨rfl, rfl⟩
  go_wp2_with fail
  refine (clamp_c _ _).mono ?_; rintro e w' ⟨rfl, rfl⟩
  rw [HC.out]
  go_wp2
  go_ret
  exact ⟨by rw [HF.out]; simp, rfl⟩
theorem turnref_c (x : Nat) (n : Int) (w : World) (hx : x < 4294967296) : Calls Tryz.prog 55 #[.int .u32 x, .int .i64 n] w fun e w' => e = .returned (.int .u32 (turn x n)) ∧ w = w' := by
  go_enter Tryz.func55, Tryz.ntmps55
  go_wp2
  go_loop [0, 5, 6] (fun a y i => ∃ k q r : Nat, (k : Int) ≤ max 0 (min n 32) ∧ i = .int .i64 k ∧ a = .int .u32 q ∧ y = .int .u32 r ∧ q < 4294967296 ∧ Hid (q = x / 2 ^ k) ∧ Hid (r = tr k x 0)) (fun _ _ i => 32 - (intOf i).toNat)
  case atStart => exact ⟨0, x, 0, by omega, rfl, rfl, rfl, hx, by simp [Hid], rfl⟩
  case round =>
    obtain ⟨k, q, r, hk, rfl, rfl, rfl, hq, HQ, HR⟩ := hrel
    have hk32 : k ≤ 32 := by omega
    have ht : r < 2 ^ k := by rw [HR.out]; exact tr_lt k x
    by_cases h1 : (k : Int) < n ∧ (k : Int) < 32
    · obtain ⟨h1, h2⟩ := h1
      have ht2 : r < 2147483648 := Nat.lt_of_lt_of_le ht (Nat.pow_le_pow_right (n := 2) (j := 31) (by decide) (by omega))
      have hs := Lib.hid (tr_succ k x 0)
      have hd := Lib.hid (Nat.div_div_eq_div_mul x (2 ^ k) 2)
      clear ht hk
      go_wp2
      go_round
      case rel => exact ⟨k + 1, q / 2, r * 2 + q % 2, by omega, by go_num, by go_num, by go_num, by omega, by rw [HQ.out]; unfold Hid; rw [Nat.pow_succ]; exact hd.out, by rw [HQ.out, HR.out]; exact hs.out.symm⟩
      case measure => simp [intOf]; omega
    · have hkc : (k : Int) = max 0 (min n 32) := by omega
      have HF : Hid (r = turn x n) := by rw [HR.out]; unfold Hid turn; rw [← hkc]; rfl
      clear hk ht hkc
      by_cases h2 : (k : Int) < n
      · have h3 : ¬ (k : Int) < 32 := by omega
        clear h1
        go_wp2
        go_ret
        exact ⟨by rw [HF.out]; rfl, rfl⟩
      · clear h1
        go_wp2
        go_ret
        exact ⟨by rw [HF.out]; rfl, rfl⟩
end Go.Proofs.YtokfcgloogdeiaaGreatDoor
namespace Go.Proofs.YtokfcgloogdeiaaGreatDoor
set_option linter.unusedVariables false
set_option linter.unusedSimpArgs false

def len (L : List Nat) (i : Nat) : Nat := L.getD i 0
def wt1 (n : Nat) : Nat := if n = 0 then 0 else 2 ^ (16 - n)
def wt (L : List Nat) : Nat := (L.map wt1).sum
def acc (L : List Nat) : Nat → Nat
  | 0 => 0
  | n + 1 => acc L n + L.count (n + 1) * 2 ^ (16 - (n + 1))
theorem acc_nil (n : Nat) : acc [] n = 0 := by
  induction n with
  | zero => rfl
  | succ n ih => simp [acc, ih]
theorem acc_cons (x : Nat) (L : List Nat) (n : Nat) : acc (x :: L) n = acc L n + if 0 < x ∧ x ≤ n then 2 ^ (16 - x) else 0 := by
  induction n with
  | zero => simp [acc]; omega
  | succ n ih =>
    rw [acc, acc, ih, List.count_cons]
    by_cases h : x = n + 1
    · subst h
      rw [if_neg (by omega), if_pos (by simp), if_pos (by omega), Nat.add_mul]
      omega
    · rw [show (x == n + 1) = false by simpa using h]
      simp only [Bool.false_eq_true, if_false, Nat.add_zero]
      by_cases h2 : 0 < x ∧ x ≤ n
      · rw [if_pos h2, if_pos (by omega)]; omega
      · rw [if_neg h2, if_neg (by omega)]; omega
theorem acc16 (L : List Nat) (h : ∀ x ∈ L, x ≤ 16) : acc L 16 = wt L := by
  induction L with
  | nil => simp [acc_nil, wt]
  | cons x L ih =>
    rw [acc_cons, ih (fun y hy => h y (List.mem_cons_of_mem _ hy))]
    have hx := h x (List.mem_cons_self ..)
    simp only [wt, List.map_cons, List.sum_cons, wt1]
    by_cases h0 : x = 0
    · subst h0; simp
    · rw [if_pos (by omega), if_neg h0]; omega
theorem acc_mono (L : List Nat) (a b : Nat) (h : a ≤ b) : acc L a ≤ acc L b := by
  induction b with
  | zero => obtain rfl : a = 0 := by omega
            exact Nat.le_refl _
  | succ b ih =>
    by_cases e : a = b + 1
    · subst e; exact Nat.le_refl _
    · have := ih (by omega); rw [acc]; omega
def fst (L : List Nat) : Nat → Nat
  | 0 => 0
  | n + 1 => 2 * (fst L n + if n = 0 then 0 else L.count n)
theorem fst_acc (L : List Nat) (n : Nat) (h : n < 16) : fst L (n + 1) * 2 ^ (16 - (n + 1)) = acc L n := by
  induction n with
  | zero => simp [fst, acc]
  | succ n ih =>
    rw [fst, if_neg (by omega), acc, ← ih (by omega)]
    have e : 2 ^ (16 - (n + 1)) = 2 * 2 ^ (16 - (n + 1 + 1)) := by rw [← Nat.pow_succ']; congr 1; omega
    rw [e]; generalize 2 ^ (16 - (n + 1 + 1)) = q
    generalize fst L (n + 1) = f
    generalize L.count (n + 1) = c
    rw [Nat.mul_comm 2 (f + c), Nat.mul_assoc, Nat.add_mul]
def rk (L : List Nat) (i : Nat) : Nat := (L.take i).count (len L i)
def wd (L : List Nat) (i : Nat) : Nat := fst L (len L i) + rk L i
/-- the place of the word's beginning in the row of 65536 -/
def lo (L : List Nat) (i : Nat) : Nat := acc L (len L i - 1) + rk L i * 2 ^ (16 - len L i)
theorem lo_wd (L : List Nat) (i : Nat) (h : 0 < len L i) (h2 : len L i ≤ 16) : wd L i * 2 ^ (16 - len L i) = lo L i := by
  unfold wd lo
  have := fst_acc L (len L i - 1) (by omega)
  rw [show len L i - 1 + 1 = len L i by omega] at this
  rw [Nat.add_mul, this]
theorem len_get (L : List Nat) (i : Nat) (h : i < L.length) : len L i = L[i] := by simp [len, h]
theorem len_ge (L : List Nat) (i : Nat) (h : L.length ≤ i) : len L i = 0 := by simp [len, h]
theorem count_take_lt (L : List Nat) (i k n : Nat) (h : i < k) (hi : i < L.length) (e : len L i = n) : (L.take i).count n < (L.take k).count n := by
  have h1 : (L.take (i + 1)).count n = (L.take i).count n + 1 := by
    rw [List.take_succ_eq_append_getElem hi, List.count_append, ← len_get L i hi, e]; simp
  have h2 : (L.take (i + 1)).count n ≤ (L.take k).count n := List.Sublist.count_le _ (List.take_sublist_take_left (by omega))
  omega
theorem rk_lt (L : List Nat) (i : Nat) (hi : i < L.length) : rk L i < L.count (len L i) := by
  have := count_take_lt L i L.length (len L i) hi hi rfl
  rwa [List.take_length] at this
theorem lo_hi (L : List Nat) (i : Nat) (hi : i < L.length) (h : 0 < len L i) : lo L i + 2 ^ (16 - len L i) ≤ acc L (len L i) := by
  have h1 := rk_lt L i hi
  unfold lo
  obtain ⟨m, hm⟩ : ∃ m, len L i = m + 1 := ⟨len L i - 1, by omega⟩
  rw [hm] at h1 ⊢
  rw [acc, Nat.add_sub_cancel]
  have := Nat.mul_le_mul_right (2 ^ (16 - (m + 1))) h1
  rw [Nat.succ_mul] at this
  omega
theorem apart_lt (L : List Nat) (i k : Nat) (hi : i < L.length) (h : 0 < len L i) (hlt : len L i < len L k) : lo L i + 2 ^ (16 - len L i) ≤ lo L k := by
  have h1 := lo_hi L i hi h
  have h2 := acc_mono L (len L i) (len L k - 1) (by omega)
  have h3 : acc L (len L k - 1) ≤ lo L k := by unfold lo; omega
  omega
theorem apart_eq (L : List Nat) (i k : Nat) (hi : i < L.length) (hik : i < k) (e : len L i = len L k) : lo L i + 2 ^ (16 - len L i) ≤ lo L k := by
  unfold lo rk
  rw [← e]
  have := count_take_lt L i k (len L i) hik hi rfl
  have := Nat.mul_le_mul_right (2 ^ (16 - len L i)) this
  rw [Nat.succ_mul] at this
  omega
theorem apart (L : List Nat) (i k : Nat) (hi : i < L.length) (hk : k < L.length) (h : 0 < len L i) (h' : 0 < len L k) (hne : i ≠ k) :
    lo L i + 2 ^ (16 - len L i) ≤ lo L k ∨ lo L k + 2 ^ (16 - len L k) ≤ lo L i := by
  rcases Nat.lt_trichotomy (len L i) (len L k) with h1 | h1 | h1
  · exact .inl (apart_lt L i k hi h h1)
  · rcases Nat.lt_or_gt_of_ne hne with h2 | h2
    · exact .inl (apart_eq L i k hi h2 h1)
    · exact .inr (apart_eq L k i hk h2 h1.symm)
  · exact .inr (apart_lt L k i hk h' h1)
/-- the word of i is what y begins with -/
def hit (L : List Nat) (y i : Nat) : Prop := i < L.length ∧ 0 < len L i ∧ len L i ≤ 16 ∧ y / 2 ^ (16 - len L i) = wd L i
theorem hit_iff (L : List Nat) (y i : Nat) (h : 0 < len L i) (h2 : len L i ≤ 16) : y / 2 ^ (16 - len L i) = wd L i ↔ lo L i ≤ y ∧ y < lo L i + 2 ^ (16 - len L i) := by
  rw [← lo_wd L i h h2]
  have hp : 0 < 2 ^ (16 - len L i) := Nat.pow_pos (by decide)
  generalize 2 ^ (16 - len L i) = q at hp
  rw [Nat.div_eq_iff hp]
  generalize wd L i * q = t
  omega
theorem hit_unique (L : List Nat) (y i k : Nat) (h : hit L y i) (h' : hit L y k) : i = k := by
  obtain ⟨a1, a2, a3, a4⟩ := h
  obtain ⟨b1, b2, b3, b4⟩ := h'
  rw [hit_iff L y i a2 a3] at a4
  rw [hit_iff L y k b2 b3] at b4
  by_cases e : i = k
  · exact e
  · rcases apart L i k a1 b1 a2 b2 e with h | h <;> omega
theorem wd_lt (L : List Nat) (i : Nat) (hi : i < L.length) (hL : ∀ x ∈ L, x ≤ 16) (hw : wt L ≤ 65536) (h : 0 < len L i) : wd L i < 2 ^ len L i := by
  have h16 : len L i ≤ 16 := by rw [len_get L i hi]; exact hL _ (List.getElem_mem hi)
  have h1 := lo_hi L i hi h
  have h2 := acc_mono L (len L i) 16 h16
  rw [acc16 L hL] at h2
  rw [← lo_wd L i h h16] at h1
  have e : (65536 : Nat) = 2 ^ len L i * 2 ^ (16 - len L i) := by rw [← Nat.pow_add, show len L i + (16 - len L i) = 16 by omega]
  have hp : 0 < 2 ^ (16 - len L i) := Nat.pow_pos (by decide)
  generalize 2 ^ (16 - len L i) = q at *
  generalize 2 ^ len L i = t at *
  refine Nat.lt_of_mul_lt_mul_right (a := q) ?_
  omega
/-- of the words of n bits the one of number r -/
theorem snocInd {α : Type} {p : List α → Prop} (h0 : p []) (h1 : ∀ L x, p L → p (L ++ [x])) (L : List α) : p L := by
  have : ∀ M : List α, p M.reverse := by
    intro M
    induction M with
    | nil => exact h0
    | cons x M ih => rw [List.reverse_cons]; exact h1 _ _ ih
  have := this L.reverse
  rwa [List.reverse_reverse] at this
theorem sym_at (n r : Nat) : ∀ (L : List Nat), r < L.count n → ∃ i, i < L.length ∧ len L i = n ∧ rk L i = r := by
  intro L
  refine snocInd (p := fun L => r < L.count n → ∃ i, i < L.length ∧ len L i = n ∧ rk L i = r) (by simp) ?_ L
  · intro L x ih h
    have go : r < L.count n → ∃ i, i < (L ++ [x]).length ∧ len (L ++ [x]) i = n ∧ rk (L ++ [x]) i = r := by
      intro h2
      obtain ⟨i, hi, e1, e2⟩ := ih h2
      have hl : len (L ++ [x]) i = len L i := by simp [len, List.getD, List.getElem?_append_left hi]
      refine ⟨i, by simp; omega, by rw [hl, e1], ?_⟩
      unfold rk at e2 ⊢
      rw [hl, List.take_append_of_le_length (by omega), e2]
    by_cases hx : x = n
    · subst hx
      by_cases h2 : r < L.count x
      · exact go h2
      · refine ⟨L.length, by simp, by simp [len], ?_⟩
        have : r = L.count x := by simp [List.count_append] at h; omega
        subst this
        simp [rk, len]
    · rw [List.count_append] at h
      have : [x].count n = 0 := by simp [List.count_cons, hx]
      exact go (by omega)
theorem hit_of (L : List Nat) (y n : Nat) (h1 : 0 < n) (h2 : n ≤ 16) (hlo : acc L (n - 1) ≤ y) (hhi : y < acc L n) :
    (y - acc L (n - 1)) / 2 ^ (16 - n) < L.count n ∧ ∀ i, i < L.length → len L i = n → rk L i = (y - acc L (n - 1)) / 2 ^ (16 - n) → hit L y i := by
  have hp : 0 < 2 ^ (16 - n) := Nat.pow_pos (by decide)
  obtain ⟨m, rfl⟩ : ∃ m, n = m + 1 := ⟨n - 1, by omega⟩
  rw [Nat.add_sub_cancel] at *
  rw [acc] at hhi
  refine ⟨(Nat.div_lt_iff_lt_mul hp).2 (by omega), ?_⟩
  intro i hi e1 e2
  refine ⟨hi, by omega, by omega, ?_⟩
  rw [hit_iff L y i (by omega) (by omega)]
  unfold lo
  rw [e1, Nat.add_sub_cancel, e2]
  have hd := Nat.div_add_mod (y - acc L m) (2 ^ (16 - (m + 1)))
  have hm := Nat.mod_lt (y - acc L m) hp
  rw [Nat.mul_comm] at hd
  generalize (y - acc L m) / 2 ^ (16 - (m + 1)) * 2 ^ (16 - (m + 1)) = u at *
  omega
theorem acc_find (L : List Nat) (y : Nat) : ∀ n, y < acc L n → ∃ m, 0 < m ∧ m ≤ n ∧ acc L (m - 1) ≤ y ∧ y < acc L m := by
  intro n
  induction n with
  | zero => intro h; simp [acc] at h
  | succ n ih =>
    intro h
    by_cases h2 : y < acc L n
    · obtain ⟨m, a, b, c, d⟩ := ih h2
      exact ⟨m, a, by omega, c, d⟩
    · exact ⟨n + 1, by omega, by omega, by simpa using h2, h⟩
theorem hit_full (L : List Nat) (y : Nat) (hL : ∀ x ∈ L, x ≤ 16) (hw : wt L = 65536) (hy : y < 65536) : ∃ i, hit L y i := by
  obtain ⟨n, a, b, c, d⟩ := acc_find L y 16 (by rw [acc16 L hL, hw]; exact hy)
  obtain ⟨h1, h2⟩ := hit_of L y n a b c d
  obtain ⟨i, hi, e1, e2⟩ := sym_at n _ L h1
  exact ⟨i, h2 i hi e1 e2⟩
/-- a row's first n bits, as bits and as a number the other way round -/
theorem tr_top (x n : Nat) (hn : n ≤ 16) : tr 16 x 0 / 2 ^ (16 - n) = tr n x 0 := by
  refine Nat.eq_of_testBit_eq fun i => ?_
  rw [Nat.testBit_div_two_pow, tr_bit, tr_bit]
  by_cases h : i < n
  · rw [if_pos (by omega), if_pos h]; congr 1; omega
  · rw [if_neg (by omega), if_neg h]; simp
theorem tr_tr (n x : Nat) : tr n (tr n x 0) 0 = x % 2 ^ n := by
  refine Nat.eq_of_testBit_eq fun i => ?_
  rw [tr_bit, Nat.testBit_mod_two_pow]
  by_cases h : i < n
  · rw [if_pos h, tr_bit, if_pos (by omega)]; simp [h]; congr 1; omega
  · rw [if_neg h]; simp [h]
theorem tr_mod (n x : Nat) : tr n (x % 2 ^ n) 0 = tr n x 0 := by
  refine Nat.eq_of_testBit_eq fun i => ?_
  rw [tr_bit, tr_bit]
  by_cases h : i < n
  · rw [if_pos h, if_pos h, Nat.testBit_mod_two_pow]; simp; omega
  · rw [if_neg h, if_neg h]
theorem bits_word (x w n : Nat) (hn : n ≤ 16) (hw : w < 2 ^ n) : x % 2 ^ n = tr n w 0 ↔ tr 16 x 0 / 2 ^ (16 - n) = w := by
  rw [tr_top x n hn]
  constructor
  · intro h
    rw [← tr_mod, h, tr_tr, Nat.mod_eq_of_lt hw]
  · intro h
    rw [← h, tr_tr]
def code (L : List Nat) (i : Nat) : Nat := tr (len L i) (wd L i) 0
theorem code_lt (L : List Nat) (i : Nat) : code L i < 2 ^ len L i := tr_lt _ _
theorem tr16_lt (x : Nat) : tr 16 x 0 < 65536 := tr_lt 16 x
/-- the symbol whose word stands first, of at most h bits -/
def pick (L : List Nat) (y h : Nat) : Option Nat := (List.range L.length).find? fun i => decide (0 < len L i) && (decide (len L i ≤ h) && decide (y / 2 ^ (16 - len L i) = wd L i))
theorem pick_some (L : List Nat) (y h i : Nat) (hL : ∀ x ∈ L, x ≤ 16) : pick L y h = some i ↔ hit L y i ∧ len L i ≤ h := by
  have mk : ∀ k, pick L y h = some k → hit L y k ∧ len L k ≤ h := by
    intro k e
    have h1 := List.find?_some e
    have h2 := List.mem_of_find?_eq_some e
    simp only [Bool.and_eq_true, decide_eq_true_eq] at h1
    have hk : k < L.length := by simpa using h2
    exact ⟨⟨hk, h1.1, by rw [len_get L k hk]; exact hL _ (List.getElem_mem hk), h1.2.2⟩, h1.2.1⟩
  refine ⟨mk i, ?_⟩
  rintro ⟨⟨a, b, c, d⟩, e⟩
  rcases hp : pick L y h with _ | k
  · have := List.find?_eq_none.1 hp i (by simpa using a)
    simp [b, e, d] at this
  · rw [hit_unique L y k i (mk k hp).1 ⟨a, b, c, d⟩]
theorem pick_none (L : List Nat) (y h : Nat) (hL : ∀ x ∈ L, x ≤ 16) : pick L y h = none ↔ ∀ i, hit L y i → h < len L i := by
  constructor
  · intro e i hi
    rcases Nat.lt_or_ge h (len L i) with h1 | h1
    · exact h1
    · rw [(pick_some L y h i hL).2 ⟨hi, h1⟩] at e; simp at e
  · intro H
    rcases hp : pick L y h with _ | k
    · rfl
    · have := (pick_some L y h k hL).1 hp
      have := H k this.1
      omega
def longest : List Nat → Nat
  | [] => 0
  | x :: L => max x (longest L)
theorem longest_ge (L : List Nat) (i : Nat) : len L i ≤ longest L := by
  induction L generalizing i with
  | nil => simp [len]
  | cons x L ih =>
    cases i with
    | zero => simp [len, longest]; omega
    | succ i => have := ih i; simp only [len, longest, List.getD_cons_succ] at *; omega
theorem longest_le (L : List Nat) (n : Nat) (h : ∀ x ∈ L, x ≤ n) : longest L ≤ n := by
  induction L with
  | nil => simp [longest]
  | cons x L ih =>
    have h1 := h x (List.mem_cons_self ..)
    have h2 := ih (fun y hy => h y (List.mem_cons_of_mem _ hy))
    simp only [longest]; omega
theorem longest_snoc (L : List Nat) (x : Nat) : longest (L ++ [x]) = max (longest L) x := by
  induction L with
  | nil => simp [longest]
  | cons y L ih => simp only [List.cons_append, longest, ih]; omega
theorem wt_snoc (L : List Nat) (x : Nat) : wt (L ++ [x]) = wt L + wt1 x := by simp [wt]
theorem wt_zero (L : List Nat) (hL : ∀ x ∈ L, x ≤ 16) (h : wt L = 0) (i : Nat) : len L i = 0 := by
  rcases Nat.lt_or_ge i L.length with hi | hi
  · rw [len_get L i hi]
    induction L generalizing i with
    | nil => simp at hi
    | cons x L ih =>
      simp only [wt, List.map_cons, List.sum_cons] at h
      cases i with
      | zero =>
        simp only [List.getElem_cons_zero]
        by_cases h0 : x = 0
        · exact h0
        · have : 0 < wt1 x := by unfold wt1; rw [if_neg h0]; exact Nat.pow_pos (by decide)
          omega
      | succ i =>
        simp only [List.getElem_cons_succ]
        exact ih (fun y hy => hL y (List.mem_cons_of_mem _ hy)) (by simp only [wt]; omega) i (by simpa using hi)
  · exact len_ge L i hi
end Go.Proofs.YtokfcgloogdeiaaGreatDoor
namespace Go.Proofs.YtokfcgloogdeiaaGreatDoor
set_option linter.unusedVariables false
set_option linter.unusedSimpArgs false

def wd16 (L : List Nat) (k : Nat) : Nat := 2 ^ (16 - len L k)
/-- is k given out ahead of i? -/
def ahd (L : List Nat) (i k : Nat) : Bool := decide (len L i < len L k) || (decide (len L k = len L i) && decide (i < k))
theorem ahd_iff (L : List Nat) (i k : Nat) : ahd L i k = true ↔ len L i < len L k ∨ (len L k = len L i ∧ i < k) := by simp [ahd]
/-- the place of i's word -/
def ah (L : List Nat) (i : Nat) : Nat := sm (fun k => if ahd L i k then wd16 L k else 0) L.length
def tot16 (L : List Nat) : Nat := sm (wd16 L) L.length
def sw (L : List Nat) (i : Nat) : Nat := ah L i / wd16 L i
theorem wd16_pos (L : List Nat) (k : Nat) : 0 < wd16 L k := Nat.pow_pos (by decide)
theorem sm_one (n k x : Nat) (h : k < n) : sm (fun t => if t = k then x else 0) n = x := by
  induction n with
  | zero => omega
  | succ n ih =>
    rw [sm]
    by_cases e : k = n
    · subst e
      rw [if_pos rfl, sm_congr _ (fun _ => 0) k (fun t ht => by rw [if_neg (by omega)]), sm_zero]; omega
    · rw [ih (by omega), if_neg (by omega)]; rfl
/-- who is ahead has its whole part ahead -/
theorem ah_lt (L : List Nat) (i k : Nat) (hk : k < L.length) (h : ahd L i k = true) : ah L k + wd16 L k ≤ ah L i := by
  unfold ah
  have e : sm (fun t => if ahd L k t then wd16 L t else 0) L.length + wd16 L k = sm (fun t => (if ahd L k t then wd16 L t else 0) + if t = k then wd16 L k else 0) L.length := by
    rw [sm_add, sm_one _ _ _ hk]
  rw [e]
  refine sm_le _ _ _ (fun t ht => ?_)
  rw [ahd_iff] at h
  by_cases hkt : ahd L k t = true
  · have h2 := (ahd_iff L k t).1 hkt
    have h3 : ahd L i t = true := by rw [ahd_iff]; omega
    rw [if_pos hkt, if_pos h3, if_neg (fun e => by subst e; omega)]; omega
  · rw [if_neg hkt]
    by_cases e2 : t = k
    · subst e2
      rw [if_pos rfl, if_pos (by rw [ahd_iff]; exact h)]; omega
    · rw [if_neg e2]; omega
theorem ah_top (L : List Nat) (i : Nat) (hi : i < L.length) : ah L i + wd16 L i ≤ tot16 L := by
  unfold ah tot16
  have e : sm (fun t => if ahd L i t then wd16 L t else 0) L.length + wd16 L i = sm (fun t => (if ahd L i t then wd16 L t else 0) + if t = i then wd16 L i else 0) L.length := by
    rw [sm_add, sm_one _ _ _ hi]
  rw [e]
  refine sm_le _ _ _ (fun t ht => ?_)
  by_cases e2 : t = i
  · subst e2
    have : ahd L t t = false := by rw [Bool.eq_false_iff, ne_eq, ahd_iff]; omega
    rw [this, if_pos rfl]; simp
  · rw [if_neg e2]; split <;> omega
theorem ahd_total (L : List Nat) (i k : Nat) (h : i ≠ k) : ahd L i k = true ∨ ahd L k i = true := by
  rw [ahd_iff, ahd_iff]; omega
theorem sm_dvd (f : Nat → Nat) (d n : Nat) (h : ∀ t, t < n → d ∣ f t) : d ∣ sm f n := by
  induction n with
  | zero => exact Nat.dvd_zero d
  | succ n ih => rw [sm]; exact Nat.dvd_add (ih (fun t ht => h t (by omega))) (h n (by omega))
/-- of a full code nothing is cut off -/
theorem ah_dvd (L : List Nat) (i : Nat) (hi : i < L.length) (h16 : ∀ k, k < L.length → len L k ≤ 16) (hf : tot16 L = 65536) : wd16 L i ∣ ah L i := by
  have e : tot16 L = ah L i + sm (fun t => if ahd L i t then 0 else wd16 L t) L.length := by
    unfold tot16 ah
    rw [← sm_add]
    refine sm_congr _ _ _ (fun t _ => ?_)
    split <;> simp
  have d1 : wd16 L i ∣ sm (fun t => if ahd L i t then 0 else wd16 L t) L.length := by
    refine sm_dvd _ _ _ (fun t ht => ?_)
    by_cases h : ahd L i t = true
    · rw [if_pos h]; exact Nat.dvd_zero _
    · rw [if_neg h]
      rw [ahd_iff] at h
      exact Nat.pow_dvd_pow 2 (by omega)
  have d2 : wd16 L i ∣ 65536 := by
    have : (65536 : Nat) = 2 ^ 16 := by decide
    rw [this]; exact Nat.pow_dvd_pow 2 (by omega)
  rw [← hf, e] at d2
  exact (Nat.dvd_add_iff_left d1).2 d2
/-- the word of i is what y begins with -/
def shit (L : List Nat) (y i : Nat) : Prop := i < L.length ∧ y / wd16 L i = sw L i
theorem shit_iff (L : List Nat) (y i : Nat) (hi : i < L.length) (h16 : ∀ k, k < L.length → len L k ≤ 16) (hf : tot16 L = 65536) : y / wd16 L i = sw L i ↔ ah L i ≤ y ∧ y < ah L i + wd16 L i := by
  obtain ⟨c, hc⟩ := ah_dvd L i hi h16 hf
  have hp := wd16_pos L i
  unfold sw
  rw [hc]
  generalize wd16 L i = q at *
  rw [Nat.mul_div_cancel_left _ hp, Nat.div_eq_iff hp, Nat.mul_comm c q]
  generalize q * c = t
  omega
theorem shit_unique (L : List Nat) (y i k : Nat) (h16 : ∀ k, k < L.length → len L k ≤ 16) (hf : tot16 L = 65536) (h : shit L y i) (h' : shit L y k) : i = k := by
  obtain ⟨a1, a2⟩ := h
  obtain ⟨b1, b2⟩ := h'
  rw [shit_iff L y i a1 h16 hf] at a2
  rw [shit_iff L y k b1 h16 hf] at b2
  by_cases e : i = k
  · exact e
  · rcases ahd_total L i k e with h | h
    · have := ah_lt L i k b1 h; omega
    · have := ah_lt L k i a1 h; omega
theorem sm_range (a w m : Nat) (h : a + w ≤ m) : sm (fun x => if a ≤ x ∧ x < a + w then 1 else 0) m = w := by
  induction m with
  | zero => simp [sm]; omega
  | succ m ih =>
    rw [sm]
    by_cases e : a + w = m + 1
    · cases w with
      | zero =>
        rw [sm_congr _ (fun _ => 0) m (fun t ht => by rw [if_neg (by omega)]), sm_zero, if_neg (by omega)]
      | succ w =>
        rw [if_pos (by omega)]
        have : sm (fun x => if a ≤ x ∧ x < a + (w + 1) then 1 else 0) m = sm (fun x => if a ≤ x ∧ x < a + w then 1 else 0) m := by
          refine sm_congr _ _ _ (fun t ht => ?_)
          by_cases h1 : a ≤ t ∧ t < a + w
          · rw [if_pos h1, if_pos (by omega)]
          · rw [if_neg h1, if_neg (by omega)]
        rw [this]
        have h2 : a + w = m := by omega
        clear ih this
        subst h2
        have : ∀ w, sm (fun x => if a ≤ x ∧ x < a + w then 1 else 0) (a + w) = w := by
          intro w
          induction w with
          | zero => rw [sm_congr _ (fun _ => 0) (a + 0) (fun t ht => by rw [if_neg (by omega)]), sm_zero]
          | succ w ihw =>
            rw [← Nat.add_assoc, sm, if_pos (by omega), sm_congr _ (fun x => if a ≤ x ∧ x < a + w then 1 else 0) (a + w) (fun t ht => by
              by_cases h1 : a ≤ t
              · rw [if_pos (by omega), if_pos (by omega)]
              · rw [if_neg (by omega), if_neg (by omega)]), ihw]
        rw [this]
    · rw [ih (by omega), if_neg (by omega)]; rfl
theorem ct_le_one (q : Nat → Bool) (n : Nat) (h : ∀ i k, i < n → k < n → q i = true → q k = true → i = k) : ct q n ≤ 1 := by
  induction n with
  | zero => simp [ct, sm]
  | succ n ih =>
    rw [ct_succ]
    have h1 := ih (fun i k a b => h i k (by omega) (by omega))
    by_cases e : q n = true
    · rw [if_pos e]
      have : ct q n = 0 := by
        unfold ct
        rw [sm_congr _ (fun _ => 0) n (fun t ht => ?_), sm_zero]
        by_cases e2 : q t = true
        · have := h t n (by omega) (by omega) e2 e; omega
        · rw [if_neg e2]
      omega
    · rw [if_neg e]; omega
/-- every row of bits begins with a word -/
theorem shit_full (L : List Nat) (y : Nat) (h16 : ∀ k, k < L.length → len L k ≤ 16) (hf : tot16 L = 65536) (hy : y < 65536) : ∃ i, shit L y i := by
  by_cases hex : ∃ i, shit L y i
  · exact hex
  · exfalso
    have hno : ∀ i, i < L.length → ¬ (ah L i ≤ y ∧ y < ah L i + wd16 L i) := fun i hi h => hex ⟨i, hi, (shit_iff L y i hi h16 hf).2 h⟩
    have e1 : sm (fun i => sm (fun x => if ah L i ≤ x ∧ x < ah L i + wd16 L i then 1 else 0) 65536) L.length = 65536 := by
      rw [← hf]
      unfold tot16
      refine sm_congr _ _ _ (fun i hi => ?_)
      exact sm_range _ _ _ (ah_top L i hi)
    rw [sm_swap] at e1
    have e2 : sm (fun x => sm (fun i => if ah L i ≤ x ∧ x < ah L i + wd16 L i then 1 else 0) L.length) 65536 ≤ sm (fun x => if x = y then 0 else 1) 65536 := by
      refine sm_le _ _ _ (fun x hx => ?_)
      by_cases e : x = y
      · subst e
        rw [if_pos rfl, sm_congr _ (fun _ => 0) _ (fun i hi => by rw [if_neg (hno i hi)]), sm_zero]; exact Nat.le_refl _
      · rw [if_neg e]
        have := ct_le_one (fun i => decide (ah L i ≤ x ∧ x < ah L i + wd16 L i)) L.length (fun i k hi hk a b => by
          simp only [decide_eq_true_eq] at a b
          exact shit_unique L x i k h16 hf ⟨hi, (shit_iff L x i hi h16 hf).2 a⟩ ⟨hk, (shit_iff L x k hk h16 hf).2 b⟩)
        unfold ct at this
        simpa using this
    have e3 : sm (fun x => (if x = y then 0 else 1) + if x = y then 1 else 0) 65536 = 65536 := by
      rw [sm_congr _ (fun _ => 1) 65536 (fun t _ => by split <;> rfl), sm_const]
    rw [sm_add, sm_one _ _ _ hy] at e3
    omega
theorem sw_lt (L : List Nat) (i : Nat) (hi : i < L.length) (h16 : ∀ k, k < L.length → len L k ≤ 16) (hf : tot16 L = 65536) : sw L i < 2 ^ len L i := by
  have h := ah_top L i hi
  rw [hf] at h
  have hp := wd16_pos L i
  unfold sw
  rw [Nat.div_lt_iff_lt_mul hp]
  have e : (65536 : Nat) = 2 ^ len L i * wd16 L i := by
    unfold wd16; rw [← Nat.pow_add, show len L i + (16 - len L i) = 16 by have := h16 i hi; omega]
  omega
def scode (L : List Nat) (i : Nat) : Nat := tr (len L i) (sw L i) 0
theorem scode_lt (L : List Nat) (i : Nat) : scode L i < 2 ^ len L i := tr_lt _ _
/-- is it word k? as bits -/
theorem shit_bits (L : List Nat) (x k : Nat) (hk : k < L.length) (h16 : ∀ k, k < L.length → len L k ≤ 16) (hf : tot16 L = 65536) : x % 2 ^ len L k = scode L k ↔ shit L (tr 16 x 0) k := by
  unfold scode shit
  rw [bits_word x (sw L k) (len L k) (h16 k hk) (sw_lt L k hk h16 hf)]
  exact ⟨fun h => ⟨hk, h⟩, fun h => h.2⟩
end Go.Proofs.YtokfcgloogdeiaaGreatDoor
