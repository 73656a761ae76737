/- The readers' contracts, one for each call. -/
import Derived.Test.YtejbgoepaleakaaRefBit2
/-! The readers' calls, each by one contract. -/
namespace Go.Proofs.Ytejbgoepaleakaa
set_option linter.unusedVariables false
set_option linter.unusedSimpArgs false
open Go.ChangeShapes Go.WideShapes Go.ChangeAt Go.RowKit

theorem RS.bits_l (s : RS) (n : Int) : (s.bits n).2.l = s.l := by
  unfold RS.bits; repeat' split
  all_goals (first | exact s.fail_l _ | rfl)
theorem RS.bytes_l (s : RS) (n : Int) : (s.bytes n).2.l = s.l := by
  unfold RS.bytes; repeat' split
  all_goals (first | exact s.fail_l _ | rfl)
theorem RS.align_l (s : RS) : s.align.l = s.l := rfl
theorem look_c (w : World) (r : Nat) (v : Value) (s : RS) (n : Int) (h : Rd w r v s) : Calls Try.prog 15 #[.pointer (some ⟨r, 0, none⟩), .int .i64 n] w fun e w' => e = .returned (.tuple #[.int .u32 (s.look n).1, .int .i64 (s.look n).2]) ∧ ∃ m, w' = w.drewN m := by
  by_cases hE : s.E = 0
  · by_cases hn : okN n
    · obtain ⟨n, rfl⟩ := Int.eq_ofNat_of_zero_le hn.1
      have hf : s.look n = (num s.l s.pos n, min n s.left) := by unfold RS.look; rw [if_neg (by have := hn; unfold okN at this; omega)]; simp
      rw [hf]
      exact look_ok w r v s n h hE (by have := hn.2; omega)
    · have hf : s.look n = (0, 0) := by unfold RS.look; rw [if_pos (by unfold okN at hn; omega)]
      rw [hf]
      exact (look_bad w _ n hn).mono fun e w' ⟨he, hw⟩ => ⟨he, 0, hw.symm⟩
  · have hf : s.look n = (0, 0) := by unfold RS.look; rw [if_pos (.inl hE)]
    rw [hf]
    exact (look_err w r v s n h hE).mono fun e w' ⟨he, hw⟩ => ⟨he, 0, hw.symm⟩
theorem RS.bytes_cases (s : RS) (n : Int) : (s.E = 0 ∧ 0 ≤ n ∧ s.left % 8 = 0 ∧ n ≤ (s.left / 8 : Nat)) ∨ ((s.E ≠ 0 ∨ n < 0 ∨ s.left % 8 ≠ 0 ∨ (s.left / 8 : Nat) < n) ∧ (s.bytes n).1 = []) := by
  by_cases h1 : s.E = 0
  · by_cases h2 : n < 0
    · exact .inr ⟨.inr (.inl h2), by unfold RS.bytes; rw [if_neg (by simpa using h1), if_pos h2]⟩
    · by_cases h3 : s.left % 8 ≠ 0
      · exact .inr ⟨.inr (.inr (.inl h3)), by unfold RS.bytes; rw [if_neg (by simpa using h1), if_neg h2, if_pos h3]⟩
      · by_cases h4 : ((s.left / 8 : Nat) : Int) < n
        · exact .inr ⟨.inr (.inr (.inr h4)), by unfold RS.bytes; rw [if_neg (by simpa using h1), if_neg h2, if_neg h3, if_pos h4]⟩
        · left; exact ⟨h1, by omega, by omega, by omega⟩
  · exact .inr ⟨.inl h1, by unfold RS.bytes; rw [if_pos h1]⟩
theorem bytes_c (w : World) (r : Nat) (v : Value) (s : RS) (n : Int) (h : Rd w r v s) : Calls Try.prog 19 #[.pointer (some ⟨r, 0, none⟩), .int .i64 n] w fun e w' => ∃ v', e = .returned v' ∧ OwnB w' v' (s.bytes n).1 ∧ (∀ b, v'.ownBlock = some b → w.heap.size ≤ b) ∧ Rd w' r v (s.bytes n).2 ∧ Keep [r] w w' := by
  rcases s.bytes_cases n with ⟨h1, h2, h3, h4⟩ | ⟨hn, h0⟩
  · obtain ⟨n, rfl⟩ := Int.eq_ofNat_of_zero_le h2
    exact bytes_right w r v s n h h1 h3 (by omega)
  · by_cases hE : s.E = 0
    · refine (bytes_wrong w r v s n h hE (by omega)).mono fun e w' ⟨he, h1, h2⟩ => ⟨_, he, ?_, (fun b hb => by simp [Value.ownBlock] at hb), h1, h2⟩
      rw [h0]; exact OwnB.nil _
    · have hs : (s.bytes n).2 = s := by unfold RS.bytes; rw [if_pos hE]
      refine (bytes_fails w r v s n h hE).mono fun e w' ⟨he, h1, h2⟩ => ⟨_, he, ?_, (fun b hb => by simp [Value.ownBlock] at hb), by rw [hs]; exact h1, h2⟩
      rw [h0]; exact OwnB.nil _
theorem rbytes_c (w : World) (q : Nat) (v : Value) (s : RS) (n : Int) (h : Rr w q v s) : Calls Try.prog 21 #[.pointer (some ⟨q, 0, none⟩), .int .i64 n] w fun e w' => ∃ v', e = .returned v' ∧ OwnB w' v' (s.bytes n).1 ∧ (∀ b, v'.ownBlock = some b → w.heap.size ≤ b) ∧ Rr w' q v (s.bytes n).2 ∧ Keep [q] w w' := by
  rcases s.bytes_cases n with ⟨h1, h2, h3, h4⟩ | ⟨hn, h0⟩
  · obtain ⟨n, rfl⟩ := Int.eq_ofNat_of_zero_le h2
    exact rbytes_right w q v s n h h1 h3 (by omega)
  · refine (rbytes_wrong w q v s n h hn).mono fun e w' ⟨he, h1, h2⟩ => ⟨_, he, ?_, (fun b hb => by simp [Value.ownBlock] at hb), h1, h2⟩
    rw [h0]; exact OwnB.nil _
/-- bytes of a slice that came in stay what they are while nothing that was there turns -/
theorem errr_c (w : World) (r q : Nat) (v vb : Value) (s : RS) (h : Rd w r v s) (h2 : Rr w q vb s) : Calls Try.prog 25 #[.pointer (some ⟨r, 0, none⟩)] w fun e w' => e = .returned (.int .i64 s.err) ∧ w = w' := by
  have := err_c w r v s h
  rwa [h2.E] at this
end Go.Proofs.Ytejbgoepaleakaa
