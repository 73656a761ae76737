/- Contracts of lives and Within, and the walk of the law BitioTurns: it returns true at every input. -/
import Derived.Test.YtejbgoepaleakaaBitBytes
import Derived.Test.YtejbgoepaleakaaBitTurn
namespace Go.Proofs.Ytejbgoepaleakaa
set_option linter.unusedVariables false
set_option linter.unusedSimpArgs false
open Go.ChangeShapes Go.WideShapes Go.ChangeAt Go.RowKit

theorem Bs.new1 (w : World) (c : UInt8) : Bs (w.alloc (.cells #[.int .u8 (c.toNat)] 5)) (.slice (some ⟨w.heap.size, 0, none⟩) 1 1) [c] := by
  refine ⟨some ⟨w.heap.size, 0, none⟩, 1, rfl, by simp, by simp [maxLen], (fun h => nomatch h), fun x hx i hi => ?_⟩
  obtain rfl : (⟨w.heap.size, 0, none⟩ : Addr) = x := by simpa using hx
  obtain rfl : i = 0 := by simpa using hi
  exact (Blk.new w #[.int .u8 (c.toNat)] 5).cell 0 _ rfl
def RS5 : RS := ⟨[5], 0, true, 0⟩
theorem bits5 : RS5.bits 3 = (5, ⟨[5], 3, true, 0⟩) := rfl
theorem lives_c (w : World) : Calls Try.prog 26 #[] w fun e w' => e = .returned (.bool true) ∧ Keep [] w w' := by
  have hb := Bs.new1 w 5
  have hk := (Keep.refl [] w).alloc (.cells #[.int .u8 5] 5)
  go_enter Try.func26, Try.ntmps26
  go_wp2_with fail
  refine (open_c _ _ [5] (by decide) hb).mono ?_; rintro e w' ⟨r, v', rfl, hr, hk1, h1, h2⟩
  have hK : Keep [] w w' := hk.trans hk1 (by simp)
  have hsz : w.heap.size ≤ r := by have := h1; simp at this; omega
  clear hb hk hk1
  go_wp2_with fail
  refine (bits_c _ _ _ _ 3 hr).mono ?_; rintro e w2 ⟨rfl, hr2, hk2⟩
  rw [show (⟨[5], 0, true, 0⟩ : RS).bits 3 = _ from bits5] at hr2 ⊢
  go_wp2_with (refine (err_c _ _ _ _ hr2).mono ?_; rintro e w' ⟨rfl, rfl⟩)
  go_ret
  refine ⟨rfl, hK.trans hk2 (by simpa using hsz)⟩
theorem within_c (x lo hi : Int) (w : World) (h : lo ≤ hi) : Calls Try.prog 38 #[.int .i64 x, .int .i64 lo, .int .i64 hi] w fun e w' => e = .returned (.int .i64 (max lo (min x hi))) ∧ w = w' := by
  by_cases h1 : x < lo
  · have hf : max lo (min x hi) = lo := by omega
    have HF := Lib.hid hf; clear hf
    go_enter Try.func38, Try.ntmps38
    go_wp2
    go_ret
    exact ⟨by rw [HF.out]; rfl, rfl⟩
  · by_cases h2 : hi < x
    · have hf : max lo (min x hi) = hi := by omega
      have HF := Lib.hid hf; clear hf
      go_enter Try.func38, Try.ntmps38
      go_wp2
      go_ret
      exact ⟨by rw [HF.out]; rfl, rfl⟩
    · have hf : max lo (min x hi) = x := by omega
      have HF := Lib.hid hf; clear hf
      go_enter Try.func38, Try.ntmps38
      go_wp2
      go_ret
      exact ⟨by rw [HF.out]; rfl, rfl⟩
theorem turn_turn (x : Nat) (n : Int) : turn (turn x n) n = x % 2 ^ (max 0 (min n 32)).toNat := by
  unfold turn
  generalize (max 0 (min n 32)).toNat = c
  apply Nat.eq_of_testBit_eq
  intro i
  rw [tr_bit, tr_bit, Nat.testBit_mod_two_pow]
  by_cases h : i < c
  · have : c - 1 - i < c := by omega
    simp [h, this]
    congr 1; omega
  · simp [h]
theorem turn_lt (x : Nat) (n : Int) : turn x n < 4294967296 := by
  unfold turn
  have h := tr_lt (max 0 (min n 32)).toNat x
  exact Nat.lt_of_lt_of_le h (Nat.pow_le_pow_right (n := 2) (j := 32) (by decide) (by omega))
theorem mask_low (x c : Nat) (hx : x < 4294967296) (hc : c ≤ 32) : Go.bits .and .u64 (x : Int) (IntKind.u64.wrap (IntKind.u64.wrap (2 ^ c) - 1)) = ((x % 2 ^ c : Nat) : Int) := by
  have h2 : 2 ^ c ≤ 2 ^ 32 := Nat.pow_le_pow_right (by decide) hc
  have h3 : 0 < 2 ^ c := Nat.two_pow_pos c
  have e1 : IntKind.u64.wrap (IntKind.u64.wrap (2 ^ c) - 1) = ((2 ^ c - 1 : Nat) : Int) := by
    rw [show ((2 : Int) ^ c) = ((2 ^ c : Nat) : Int) by simp, IntKind.wrap_u64, IntKind.wrap_u64]
    generalize 2 ^ c = q at h2 h3
    omega
  rw [e1, u64_and_nat _ _ (by omega) (by omega), Nat.and_two_pow_sub_one_eq_mod]
theorem turns_c (x : Nat) (n : Int) (w : World) (hx : x < 4294967296) : Calls Try.prog 5 #[.int .u32 x, .int .i64 n] w fun e w' => e = .returned (.bool true) ∧ Keep [] w w' := by
  obtain ⟨c, hc⟩ : ∃ c : Nat, max 0 (min n 32) = c := ⟨(max 0 (min n 32)).toNat, by omega⟩
  have hc2 : c ≤ 32 := by omega
  have HT : Hid (turn (turn x n) n = x % 2 ^ c) := by unfold Hid; rw [turn_turn, hc]; rfl
  have HC := Lib.hid hc; clear hc
  have ht := turn_lt x n
  have HM : Hid ((((turn (turn x n) n : Nat) : Int) == Go.bits .and .u64 (x : Int) (IntKind.u64.wrap (IntKind.u64.wrap (2 ^ c) - 1))) = true) := by
    unfold Hid; rw [mask_low x c hx hc2, HT.out]; simp
  go_enter Try.func5, Try.ntmps5
  go_wp2_with fail
  refine (turn_c x n _ hx).mono ?_; rintro e w' ⟨rfl, rfl⟩
  go_wp2_with fail
  refine (within_c n 0 32 _ (by decide)).mono ?_; rintro e w' ⟨rfl, rfl⟩
  rw [HC.out]
  go_wp2_with fail
  refine (turnref_c x n _ hx).mono ?_; rintro e w' ⟨rfl, rfl⟩
  go_wp2_with fail
  refine (turn_c (turn x n) n _ ht).mono ?_; rintro e w' ⟨rfl, rfl⟩
  have ht2 := turn_lt (turn x n) n
  have HM := HM.out
  go_wp2_with (refine (lives_c _).mono ?_; rintro e w' ⟨rfl, hk⟩)
  go_ret
  exact ⟨rfl, hk⟩
theorem turns_w (W : World) (a0 : Int) (w0 : (Lit.int .u32 a0).wf = true) (a1 : Int) (w1 : (Lit.int .i64 a1).wf = true) : Calls Try.prog 5 #[.int .u32 a0, .int .i64 a1] W fun e w' => e = .returned (.bool true) ∧ Keep [] W w' := by
  have h : 0 ≤ a0 ∧ a0 ≤ 4294967295 := by simpa [Lit.wf, IntKind.min, IntKind.max, IntKind.bits, IntKind.signed] using w0
  obtain ⟨x, rfl⟩ := Int.eq_ofNat_of_zero_le h.1
  exact turns_c x a1 W (by omega)
end Go.Proofs.Ytejbgoepaleakaa
