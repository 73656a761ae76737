/- Contracts of Look, Bits, Bit of bitio.Reader, of Open. -/
import Derived.Test.YtblogjpoijfpbaaBitLook
import Derived.Test.YtblogjpoijfpbaaAppend
import Derived.Test.YtblogjpoijfpbaaClone
namespace Go.Proofs.Ytblogjpoijfpbaa
set_option linter.unusedVariables false
set_option linter.unusedSimpArgs false
open Go.ChangeShapes Go.WideShapes Go.ChangeAt Go.RowKit

theorem mask_u64 (x k n : Nat) (hx : x < 18446744073709551616) (hn : n ≤ 32) : Go.bits .and .u64 ((x : Int) / 2 ^ k) (IntKind.u64.wrap (IntKind.u64.wrap (2 ^ n) - 1)) % 4294967296 = ((x / 2 ^ k % 2 ^ n : Nat) : Int) := by
  have h2 : 2 ^ n ≤ 2 ^ 32 := Nat.pow_le_pow_right (by decide) hn
  have h3 : 0 < 2 ^ n := Nat.two_pow_pos n
  have e1 : IntKind.u64.wrap (IntKind.u64.wrap (2 ^ n) - 1) = ((2 ^ n - 1 : Nat) : Int) := by
    rw [show ((2 : Int) ^ n) = ((2 ^ n : Nat) : Int) by simp, IntKind.wrap_u64, IntKind.wrap_u64]
    generalize 2 ^ n = q at h2 h3
    omega
  have hd : x / 2 ^ k < 18446744073709551616 := Nat.lt_of_le_of_lt (Nat.div_le_self _ _) hx
  rw [e1, show ((x : Int) / 2 ^ k) = ((x / 2 ^ k : Nat) : Int) by simp, u64_and_nat _ _ hd (by omega), Nat.and_two_pow_sub_one_eq_mod]
  have h4 : x / 2 ^ k % 2 ^ n < 2 ^ n := Nat.mod_lt _ h3
  generalize x / 2 ^ k % 2 ^ n = z at h4
  omega
def okN (n : Int) : Prop := 0 ≤ n ∧ n ≤ 32
theorem look_bad (w : World) (p : Option Addr) (n : Int) (hn : ¬ okN n) : Calls Try.prog 41 #[.pointer p, .int .i64 n] w fun e w' => e = .returned (.tuple #[.int .u32 0, .int .i64 0]) ∧ w = w' := by
  unfold okN at hn
  by_cases h0 : n < 0
  · have h1 : decide (n < 0) = true := by simpa using h0
    go_enter Try.func41, Try.ntmps41
    go_wp2
    go_ret2
    exact ⟨rfl, rfl⟩
  · have h1 : 32 < n := by omega
    go_enter Try.func41, Try.ntmps41
    go_wp2
    go_ret2
    exact ⟨rfl, rfl⟩
theorem look_err (w : World) (r : Nat) (v : Value) (s : RS) (n : Int) (h : Rd w r v s) (hE : s.E ≠ 0) : Calls Try.prog 41 #[.pointer (some ⟨r, 0, none⟩), .int .i64 n] w fun e w' => e = .returned (.tuple #[.int .u32 0, .int .i64 0]) ∧ w = w' := by
  by_cases hn : okN n
  · unfold okN at hn
    obtain ⟨h0, h1⟩ := hn
    have he2 : ((s.E : Int) != 0) = true := by simp; omega
    clear hE
    go_enter Try.func41, Try.ntmps41
    go_wp2_with (refine (err_c _ _ _ _ h).mono ?_; rintro e w' ⟨rfl, rfl⟩)
    go_ret2
    exact ⟨rfl, rfl⟩
  · exact look_bad w _ n hn
theorem look_nil (w : World) (n : Int) : Calls Try.prog 41 #[.pointer none, .int .i64 n] w fun e w' => e = .returned (.tuple #[.int .u32 0, .int .i64 0]) ∧ w = w' := by
  by_cases hn : okN n
  · unfold okN at hn
    obtain ⟨h0, h1⟩ := hn
    go_enter Try.func41, Try.ntmps41
    go_wp2_with (refine (err_nil _).mono ?_; rintro e w' ⟨rfl, rfl⟩)
    go_ret2
    exact ⟨rfl, rfl⟩
  · exact look_bad w _ n hn
theorem look_ok (w : World) (r : Nat) (v : Value) (s : RS) (n : Nat) (h : Rd w r v s) (hE : s.E = 0) (hn : n ≤ 32) : Calls Try.prog 41 #[.pointer (some ⟨r, 0, none⟩), .int .i64 n] w fun e w' => e = .returned (.tuple #[.int .u32 (num s.l s.pos n), .int .i64 (min n s.left : Nat)]) ∧ ∃ m, w' = w.drewN m := by
  have he2 : ((s.E : Int) != 0) = false := by simp [hE]
  have c1 := h.1.cell 1 _ rfl
  obtain ⟨a, cap, rfl, _⟩ := h.2.1.bs
  have hk := h.2.2.1
  unfold RS.ok at hk
  obtain ⟨k1, k2, k3⟩ := hk
  go_enter Try.func41, Try.ntmps41
  go_wp2_with (refine (err_c _ _ _ _ h).mono ?_; rintro e w' ⟨rfl, rfl⟩)
  have hp : s.pos / 8 ≤ s.l.length := by omega
  go_quiet ((go_at_call 51; exact Calls.quiet_of (window_c _ r _ s (s.pos / 8) hp (h.drewN _))))
  go_wp2
  generalize hx : num s.l (8 * (s.pos / 8)) 64 = x
  have hxl : x < 18446744073709551616 := by rw [← hx]; exact num_lt _ _ _
  have HV : Hid (x / 2 ^ (s.pos % 8) % 2 ^ n = num s.l s.pos n) := by
    unfold Hid; rw [← hx, num_cut _ _ _ _ _ (by omega), show 8 * (s.pos / 8) + s.pos % 8 = s.pos by omega]
  clear hx
  have h2 := h.drewN nq
  generalize hw2 : w.drewN nq = w2 at h2 ⊢
  have HW : Hid (∃ m, w2 = w.drewN m) := ⟨_, hw2.symm⟩
  clear hw2
  by_cases hm : n ≤ s.left <;> have HF : Hid (min n s.left = if n ≤ s.left then n else s.left) := by { unfold Hid; split <;> omega }
  · go_quiet ((go_at_call 52; exact Calls.quiet_of (left_c _ r _ s (h2.drewN _))))
    go_wp2
    go_ret2
    obtain ⟨m, hmw⟩ := HW.out
    refine ⟨?_, m + nq, ?_⟩
    · rw [HF.out, HV.out.symm]
      exact ret_ints (mask_u64 x (s.pos % 8) n hxl hn) (by first | rw [if_pos hm] | rw [if_neg hm])
    · rw [hmw, World.drewN_drewN]
  · go_quiet ((go_at_call 52; exact Calls.quiet_of (left_c _ r _ s (h2.drewN _))))
    go_wp2
    go_ret2
    obtain ⟨m, hmw⟩ := HW.out
    refine ⟨?_, m + nq, ?_⟩
    · rw [HF.out, HV.out.symm]
      exact ret_ints (mask_u64 x (s.pos % 8) n hxl hn) (by first | rw [if_pos hm] | rw [if_neg hm])
    · rw [hmw, World.drewN_drewN]

/-- what Bits(n) answers, and the state behind it -/
def RS.bits (s : RS) (n : Int) : Nat × RS :=
  if n < 0 ∨ 32 < n then (0, s.fail 2)
  else if s.E ≠ 0 then (0, if 0 < n then s.fail 3 else s)
  else if (s.left : Int) < n then (0, s.fail 3)
  else (num s.l s.pos n.toNat, { s with pos := s.pos + n.toNat })
theorem RS.fail_fail (s : RS) (e : Nat) (h : s.E ≠ 0) : s.fail e = s := by unfold RS.fail; rw [if_neg h]
theorem bits_c (w : World) (r : Nat) (v : Value) (s : RS) (n : Int) (h : Rd w r v s) : Calls Try.prog 42 #[.pointer (some ⟨r, 0, none⟩), .int .i64 n] w fun e w' => e = .returned (.int .u32 (s.bits n).1) ∧ Rd w' r v (s.bits n).2 ∧ Keep [r] w w' := by
  by_cases hb : n < 0 ∨ 32 < n
  · have hf : s.bits n = (0, s.fail 2) := by unfold RS.bits; rw [if_pos hb]
    have HF := Lib.hid hf; clear hf
    by_cases h0 : n < 0
    · have h1 : decide (n < 0) = true := by simpa using h0
      clear hb
      go_enter Try.func42, Try.ntmps42
      go_wp2_with (refine (fail_c _ _ _ _ 2 (by decide) h).mono ?_; rintro e w' ⟨rfl, hr, hk⟩)
      go_ret
      exact ⟨by rw [HF.out]; rfl, by rw [HF.out]; assumption, by assumption⟩
    · have h1 : 32 < n := by omega
      clear hb
      go_enter Try.func42, Try.ntmps42
      go_wp2_with (refine (fail_c _ _ _ _ 2 (by decide) h).mono ?_; rintro e w' ⟨rfl, hr, hk⟩)
      go_ret
      exact ⟨by rw [HF.out]; rfl, by rw [HF.out]; assumption, by assumption⟩
  · have h0 : 0 ≤ n := by omega
    have h1 : n ≤ 32 := by omega
    clear hb
    obtain ⟨n, rfl⟩ := Int.eq_ofNat_of_zero_le h0
    by_cases hE : s.E = 0
    · have hs := RS.left_le s h.2.2.1
      have hp1 := h.2.2.1.1
      by_cases hl : (s.left : Int) < n
      · have hf : s.bits n = (0, s.fail 3) := by unfold RS.bits; rw [if_neg (by omega), if_neg (by simpa using hE), if_pos hl]
        have HF := Lib.hid hf; clear hf
        have hm : min n s.left = s.left := by omega
        have hk := Lib.hid (look_ok w r v s n h hE (by omega))
        have hE1 := Lib.hid hE; clear hE
        have hm1 := Lib.hid hm; clear hm
        go_enter Try.func42, Try.ntmps42
        go_wp2_with fail
        refine hk.out.mono ?_; rintro e w' ⟨rfl, m, rfl⟩
        rw [hm1.out]
        go_wp2_with (refine (fail_c _ _ _ _ 3 (by decide) (h.drewN _)).mono ?_; rintro e w' ⟨rfl, hr, hk⟩)
        go_ret
        rename_i hr hk
        exact ⟨by rw [HF.out]; rfl, by rw [HF.out]; exact hr, ((Keep.refl [] w).drewN m).nil.trans hk (by simp)⟩
      · have hf : s.bits n = (num s.l s.pos n, { s with pos := s.pos + n }) := by unfold RS.bits; rw [if_neg (by omega), if_neg (by simpa using hE), if_neg hl]; simp
        have HF := Lib.hid hf; clear hf
        have hm : min n s.left = n := by omega
        have hk := Lib.hid (look_ok w r v s n h hE (by omega))
        have hn : s.pos + n ≤ 8 * s.l.length := by omega
        have hE1 := Lib.hid hE; clear hE
        have hm1 := Lib.hid hm; clear hm
        go_enter Try.func42, Try.ntmps42
        go_wp2_with fail
        refine hk.out.mono ?_; rintro e w' ⟨rfl, m, rfl⟩
        rw [hm1.out]
        go_wp2_with (refine (skip_c _ _ _ _ n hn (h.drewN _)).mono ?_; rintro e w' ⟨rfl, hr, hk⟩)
        go_ret
        rename_i hr hk
        exact ⟨by rw [HF.out]; rfl, by rw [HF.out]; exact hr, ((Keep.refl [] w).drewN m).nil.trans hk (by simp)⟩
    · have hk := Lib.hid (look_err w r v s n h hE)
      by_cases hz : 0 < (n : Int)
      · have hf : s.bits n = (0, s.fail 3) := by unfold RS.bits; rw [if_neg (by omega), if_pos hE, if_pos hz]
        have HF := Lib.hid hf; clear hf
        go_enter Try.func42, Try.ntmps42
        go_wp2_with fail
        refine hk.out.mono ?_; rintro e w' ⟨rfl, rfl⟩
        go_wp2_with (refine (fail_c _ _ _ _ 3 (by decide) h).mono ?_; rintro e w' ⟨rfl, hr, hk⟩)
        go_ret
        rename_i hr hk
        exact ⟨by rw [HF.out]; rfl, by rw [HF.out]; exact hr, hk⟩
      · have hn0 : n = 0 := by omega
        subst hn0
        have hf : s.bits (0 : Nat) = (0, s) := by unfold RS.bits; rw [if_neg (by omega), if_pos hE, if_neg (by omega)]
        have HF := Lib.hid hf; clear hf
        have hs := h.2.2.1.1
        have hsk := Lib.hid (skip_c w r v s 0 (by omega) h)
        go_enter Try.func42, Try.ntmps42
        go_wp2_with fail
        refine hk.out.mono ?_; rintro e w' ⟨rfl, rfl⟩
        go_wp2_with (refine hsk.out.mono ?_; rintro e w' ⟨rfl, hr, hk⟩)
        go_ret
        exact ⟨by rw [HF.out]; rfl, by rw [HF.out]; exact hr, hk⟩

theorem bit_c (w : World) (r : Nat) (v : Value) (s : RS) (h : Rd w r v s) : Calls Try.prog 43 #[.pointer (some ⟨r, 0, none⟩)] w fun e w' => e = .returned (.int .u32 (s.bits 1).1) ∧ Rd w' r v (s.bits 1).2 ∧ Keep [r] w w' := by
  go_enter Try.func43, Try.ntmps43
  go_wp2_with (refine (bits_c _ _ _ _ 1 h).mono ?_; rintro e w' ⟨rfl, hr, hk⟩)
  go_ret
  exact ⟨rfl, hr, hk⟩
theorem bits_nil (w : World) (n : Int) : Calls Try.prog 42 #[.pointer none, .int .i64 n] w fun e w' => e = .returned (.int .u32 0) ∧ w = w' := by
  by_cases h0 : n < 0
  · have h1 : decide (n < 0) = true := by simpa using h0
    go_enter Try.func42, Try.ntmps42
    go_wp2_with (refine (fail_nil _ 2).mono ?_; rintro e w' ⟨rfl, rfl⟩)
    go_ret
    exact ⟨rfl, rfl⟩
  · by_cases h1 : 32 < n
    · go_enter Try.func42, Try.ntmps42
      go_wp2_with (refine (fail_nil _ 2).mono ?_; rintro e w' ⟨rfl, rfl⟩)
      go_ret
      exact ⟨rfl, rfl⟩
    · have h2 : n ≤ 32 := by omega
      have h3 : 0 ≤ n := by omega
      by_cases hz : 0 < n
      · go_enter Try.func42, Try.ntmps42
        go_wp2_with fail
        refine (look_nil _ _).mono ?_; rintro e w' ⟨rfl, rfl⟩
        go_wp2_with (refine (fail_nil _ 3).mono ?_; rintro e w' ⟨rfl, rfl⟩)
        go_ret
        exact ⟨rfl, rfl⟩
      · obtain rfl : n = 0 := by omega
        go_enter Try.func42, Try.ntmps42
        go_wp2_with fail
        refine (look_nil _ _).mono ?_; rintro e w' ⟨rfl, rfl⟩
        go_wp2_with (refine (skip_nil _).mono ?_; rintro e w' ⟨rfl, rfl⟩)
        go_ret
        exact ⟨rfl, rfl⟩

/-- Open -/
theorem open_c (w : World) (v : Value) (l : List UInt8) (hl : l.length ≤ 140737488355328) (h : Bs w v l) : Calls Try.prog 20 #[v] w fun e w' => ∃ r v', e = .returned (.pointer (some ⟨r, 0, none⟩)) ∧ Rd w' r v' ⟨l, 0, true, 0⟩ ∧ Keep [] w w' ∧ w.heap.size ≤ r ∧ (∀ b, v'.ownBlock = some b → w.heap.size ≤ b) := by
  have hc := Lib.hid (clone_c w v l hl h)
  go_enter Try.func20, Try.ntmps20
  go_wp2_with fail
  refine hc.out.mono ?_; rintro e w' ⟨v', rfl, ho, hk, hv⟩
  obtain ⟨a, n, c, rfl⟩ := ho.shape
  go_wp2_with fail
  go_ret
  refine ⟨w'.heap.size, .slice a n c, rfl, ⟨Blk.new _ _ _, ho.keep ((Keep.refl [] _).alloc _) (by simp), ⟨by simp, hl, by simp⟩, fun b hb => Nat.ne_of_lt (ho.lt b hb)⟩, hk.alloc _, hk.size, hv⟩
end Go.Proofs.Ytblogjpoijfpbaa
