/- Contracts of the methods of field.Cursor. -/
import Derived.Test.YtgohdhpokehflaaClone
import Derived.Test.YtgohdhpokehflaaRefKit
namespace Go.Proofs.Ytgohdhpokehflaa
set_option linter.unusedVariables false
set_option linter.unusedSimpArgs false
open Go.ChangeShapes Go.WideShapes Go.ChangeAt Go.RowKit

/-- the state of a cursor: its bytes, how many were read, whether Open made it, its error -/
structure CS where
  l : List UInt8
  pos : Nat
  made : Bool
  err : Nat
def CS.E (s : CS) : Nat := if s.made then s.err else 1
def CS.left (s : CS) : Nat := if s.E = 0 then s.l.length - s.pos else 0
def CS.fail (s : CS) (e : Nat) : CS := if s.E = 0 then { s with err := e } else s
def CS.ok (s : CS) : Prop := s.pos ≤ s.l.length ∧ s.l.length ≤ 140737488355328 ∧ s.err < 100
def CS.fin (s : CS) : Nat := if 0 < s.left then 5 else s.E

/-- block r is a cursor in state s; its bytes lie in the slice v -/
def Cd (w : World) (r : Nat) (v : Value) (s : CS) : Prop :=
  Blk w r #[v, .int .i64 s.pos, .bool s.made, .int .i64 s.err] 58 ∧ OwnB w v s.l ∧ s.ok ∧ (∀ b, v.ownBlock = some b → b ≠ r)
theorem Cd.keep {w w' : World} {r : Nat} {v : Value} {s : CS} {S : List Nat} (h : Cd w r v s) (k : Keep S w w') (hr : r ∉ S) (hv : ∀ b, v.ownBlock = some b → b ∉ S) : Cd w' r v s :=
  ⟨h.1.keep k hr, h.2.1.keep k hv, h.2.2⟩
theorem Cd.drewN {w : World} {r : Nat} {v : Value} {s : CS} (h : Cd w r v s) (n : Nat) : Cd (w.drewN n) r v s := h.keep ((Keep.refl [] w).drewN _) (by simp) (by simp)

theorem cuErr_c (w : World) (r : Nat) (v : Value) (s : CS) (h : Cd w r v s) : Calls Try.prog 20 #[.pointer (some ⟨r, 0, none⟩)] w fun e w' => e = .returned (.int .i64 s.E) ∧ w = w' := by
  have c2 := h.1.cell 2 _ rfl
  have c3 := h.1.cell 3 _ rfl
  cases hm : s.made
  · have hf : s.E = 1 := by simp [CS.E, hm]
    rw [hm] at c2
    have HF := Lib.hid hf; clear hf hm
    go_enter Try.func20, Try.ntmps20
    go_wp2
    go_ret
    exact ⟨by rw [HF.out]; rfl, rfl⟩
  · have hf : s.E = s.err := by simp [CS.E, hm]
    rw [hm] at c2
    have HF := Lib.hid hf; clear hf hm
    go_enter Try.func20, Try.ntmps20
    go_wp2
    go_ret
    exact ⟨by rw [HF.out]; rfl, rfl⟩
theorem cuErr_nil (w : World) : Calls Try.prog 20 #[.pointer none] w fun e w' => e = .returned (.int .i64 1) ∧ w = w' := by
  go_enter Try.func20, Try.ntmps20
  go_wp2
  go_ret
  exact ⟨rfl, rfl⟩
theorem cuLeft_c (w : World) (r : Nat) (v : Value) (s : CS) (h : Cd w r v s) : Calls Try.prog 17 #[.pointer (some ⟨r, 0, none⟩)] w fun e w' => e = .returned (.int .i64 s.left) ∧ ∃ n, w' = w.drewN n := by
  have c0 := h.1.cell 0 _ rfl
  have c1 := h.1.cell 1 _ rfl
  obtain ⟨a, cap, rfl, _⟩ := h.2.1.bs
  have hk := h.2.2.1
  unfold CS.ok at hk
  obtain ⟨k1, k2, k3⟩ := hk
  by_cases he : s.E = 0
  · have hf : ((s.left : Nat) : Int) = s.l.length - s.pos := by unfold CS.left; rw [if_pos he]; omega
    have he2 : ((s.E : Int) != 0) = false := by simp [he]
    have HF := Lib.hid hf; clear hf he
    go_enter Try.func17, Try.ntmps17
    go_wp2_with (refine (cuErr_c _ _ _ _ h).mono ?_; rintro e w' ⟨rfl, rfl⟩)
    go_quiet (fail)
    go_wp2
    go_ret
    exact ⟨by rw [HF.out]; rfl, _, rfl⟩
  · have hf : s.left = 0 := by unfold CS.left; rw [if_neg he]
    have he2 : ((s.E : Int) != 0) = true := by simp; omega
    have HF := Lib.hid hf; clear hf he
    go_enter Try.func17, Try.ntmps17
    go_wp2_with (refine (cuErr_c _ _ _ _ h).mono ?_; rintro e w' ⟨rfl, rfl⟩)
    go_ret
    exact ⟨by rw [HF.out]; rfl, 0, rfl⟩
theorem cuLeft_nil (w : World) : Calls Try.prog 17 #[.pointer none] w fun e w' => e = .returned (.int .i64 0) ∧ w = w' := by
  go_enter Try.func17, Try.ntmps17
  go_wp2_with (refine (cuErr_nil _).mono ?_; rintro e w' ⟨rfl, rfl⟩)
  go_ret
  exact ⟨rfl, rfl⟩
theorem cuAt_c (w : World) (r : Nat) (v : Value) (s : CS) (h : Cd w r v s) : Calls Try.prog 19 #[.pointer (some ⟨r, 0, none⟩)] w fun e w' => e = .returned (.int .i64 s.pos) ∧ w = w' := by
  have c1 := h.1.cell 1 _ rfl
  go_enter Try.func19, Try.ntmps19
  go_wp2
  go_ret
  exact ⟨rfl, rfl⟩
theorem cuAt_nil (w : World) : Calls Try.prog 19 #[.pointer none] w fun e w' => e = .returned (.int .i64 0) ∧ w = w' := by
  go_enter Try.func19, Try.ntmps19
  go_wp2
  go_ret
  exact ⟨rfl, rfl⟩
theorem cuEnd_c (w : World) (r : Nat) (v : Value) (s : CS) (h : Cd w r v s) : Calls Try.prog 21 #[.pointer (some ⟨r, 0, none⟩)] w fun e w' => e = .returned (.int .i64 s.fin) ∧ ∃ n, w' = w.drewN n := by
  have hk := h.2.2.1
  unfold CS.ok at hk
  obtain ⟨k1, k2, k3⟩ := hk
  have hle : s.left ≤ s.l.length := by unfold CS.left; split <;> omega
  by_cases h0 : 0 < s.left
  · have hf : s.fin = 5 := by unfold CS.fin; rw [if_pos h0]
    have HF := Lib.hid hf; clear hf
    have h1 : (0 : Int) < s.left := by omega
    go_enter Try.func21, Try.ntmps21
    go_wp2_with (refine (cuLeft_c _ _ _ _ h).mono ?_; rintro e w' ⟨rfl, n, rfl⟩)
    go_ret
    exact ⟨by rw [HF.out]; rfl, _, rfl⟩
  · have hf : s.fin = s.E := by unfold CS.fin; rw [if_neg h0]
    have HF := Lib.hid hf; clear hf
    have h1 : ¬ (0 : Int) < s.left := by omega
    go_enter Try.func21, Try.ntmps21
    go_wp2_with fail
    refine (cuLeft_c _ _ _ _ h).mono ?_; rintro e w' ⟨rfl, n, rfl⟩
    go_wp2_with fail
    refine (cuErr_c _ _ _ _ (h.drewN n)).mono ?_; rintro e w' ⟨rfl, rfl⟩
    go_wp2_with fail
    go_ret
    exact ⟨by rw [HF.out]; rfl, _, rfl⟩
theorem cuEnd_nil (w : World) : Calls Try.prog 21 #[.pointer none] w fun e w' => e = .returned (.int .i64 1) ∧ w = w' := by
  go_enter Try.func21, Try.ntmps21
  go_wp2_with fail
  refine (cuLeft_nil _).mono ?_; rintro e w' ⟨rfl, rfl⟩
  go_wp2_with fail
  refine (cuErr_nil _).mono ?_; rintro e w' ⟨rfl, rfl⟩
  go_wp2_with fail
  go_ret
  exact ⟨rfl, rfl⟩
theorem cuFail_c (w : World) (r : Nat) (v : Value) (s : CS) (e : Nat) (he : e < 100) (h : Cd w r v s) : Calls Try.prog 39 #[.pointer (some ⟨r, 0, none⟩), .int .i64 e] w fun en w' => en = .returned (.tuple #[]) ∧ Cd w' r v (s.fail e) ∧ Keep [r] w w' := by
  have c3 := h.1.cell 3 _ rfl
  have f3 := h.1.free 3
  by_cases h0 : s.E = 0
  · have hf : s.fail e = { s with err := e } := by unfold CS.fail; rw [if_pos h0]
    have he2 : ((s.E : Int) == 0) = true := by simp [h0]
    have HF := Lib.hid hf; clear hf h0
    go_enter Try.func39, Try.ntmps39
    go_wp2_with (refine (cuErr_c _ _ _ _ h).mono ?_; rintro e w' ⟨rfl, rfl⟩)
    go_end0
    refine ⟨rfl, ?_, (Keep.refl _ _).setCell (by simp) _⟩
    rw [HF.out]
    exact ⟨h.1.set 3 _, h.2.1.keep ((Keep.refl [r] _).setCell (by simp) _) (by simpa using h.2.2.2), ⟨h.2.2.1.1, h.2.2.1.2.1, he⟩, h.2.2.2⟩
  · have hf : s.fail e = s := by unfold CS.fail; rw [if_neg h0]
    have he2 : ((s.E : Int) == 0) = false := by simp; omega
    have HF := Lib.hid hf; clear hf h0
    go_enter Try.func39, Try.ntmps39
    go_wp2_with (refine (cuErr_c _ _ _ _ h).mono ?_; rintro e w' ⟨rfl, rfl⟩)
    go_end0
    exact ⟨rfl, by rw [HF.out]; exact h, Keep.refl _ _⟩
theorem cuFail_nil (w : World) (e : Nat) : Calls Try.prog 39 #[.pointer none, .int .i64 e] w fun en w' => en = .returned (.tuple #[]) ∧ w = w' := by
  go_enter Try.func39, Try.ntmps39
  go_wp2_with (refine (cuErr_nil _).mono ?_; rintro e w' ⟨rfl, rfl⟩)
  go_end0
  exact ⟨rfl, rfl⟩

/-- what is read of n bytes, and the state behind it -/
def CS.take (s : CS) (n : Int) : List UInt8 × CS :=
  if s.E ≠ 0 then ([], s)
  else if n < 0 then ([], s.fail 2)
  else if (s.left : Int) < n then ([], s.fail 3)
  else ((s.l.drop s.pos).take n.toNat, { s with pos := s.pos + n.toNat })
theorem CS.fail_fail (s : CS) (e : Nat) (h : s.E ≠ 0) : s.fail e = s := by unfold CS.fail; rw [if_neg h]
theorem CS.fail_E (s : CS) (e : Nat) (h : s.E = 0) (he : e ≠ 0) : (s.fail e).E = e := by
  have : s.made = true := by
    cases hm : s.made
    · simp [CS.E, hm] at h
    · rfl
  unfold CS.fail; rw [if_pos h]; simp [CS.E, this]
theorem CS.left_le (s : CS) : s.left ≤ s.l.length - s.pos := by unfold CS.left; split <;> omega

theorem take_nil (w : World) (n : Int) : Calls Try.prog 36 #[.pointer none, .int .i64 n] w fun e w' => e = .returned (.slice none 0 0) ∧ w = w' := by
  by_cases h0 : n < 0
  · go_enter Try.func36, Try.ntmps36
    go_wp2_with fail
    refine (cuFail_nil _ 2).mono ?_; rintro e w' ⟨rfl, rfl⟩
    go_wp2_with (refine (cuErr_nil _).mono ?_; rintro e w' ⟨rfl, rfl⟩)
    go_ret
    exact ⟨rfl, rfl⟩
  · by_cases h1 : 0 < n
    · go_enter Try.func36, Try.ntmps36
      go_wp2_with fail
      refine (cuLeft_nil _).mono ?_; rintro e w' ⟨rfl, rfl⟩
      go_wp2_with fail
      refine (cuFail_nil _ 3).mono ?_; rintro e w' ⟨rfl, rfl⟩
      go_wp2_with (refine (cuErr_nil _).mono ?_; rintro e w' ⟨rfl, rfl⟩)
      go_ret
      exact ⟨rfl, rfl⟩
    · go_enter Try.func36, Try.ntmps36
      go_wp2_with fail
      refine (cuLeft_nil _).mono ?_; rintro e w' ⟨rfl, rfl⟩
      go_wp2_with (refine (cuErr_nil _).mono ?_; rintro e w' ⟨rfl, rfl⟩)
      go_ret
      exact ⟨rfl, rfl⟩
/-- with an error, or where one is told -/
theorem take_wrong (w : World) (r : Nat) (v : Value) (s : CS) (n : Int) (h : Cd w r v s) (hb : s.E ≠ 0 ∨ n < 0 ∨ (s.left : Int) < n) : Calls Try.prog 36 #[.pointer (some ⟨r, 0, none⟩), .int .i64 n] w fun e w' => e = .returned (.slice none 0 0) ∧ (s.take n).1 = [] ∧ Cd w' r v (s.take n).2 ∧ Keep [r] w w' := by
  have hl := s.left_le
  have hk1 := h.2.2.1.2.1
  have hf1 : (s.take n).1 = [] := by
    unfold CS.take
    by_cases hE : s.E ≠ 0
    · rw [if_pos hE]
    · rw [if_neg hE]
      split; rfl
      split; rfl
      omega
  have HF1 := Lib.hid hf1; clear hf1
  by_cases h0 : n < 0
  · have hf : (s.take n).2 = s.fail 2 ∧ (s.fail 2).E ≠ 0 := by
      unfold CS.take
      by_cases hE : s.E ≠ 0
      · rw [if_pos hE, CS.fail_fail s 2 hE]; exact ⟨rfl, hE⟩
      · rw [if_neg hE, if_pos h0, CS.fail_E s 2 (by omega) (by decide)]; simp
    have he2 : (((s.fail 2).E : Int) != 0) = true := by have := hf.2; simp; omega
    have HF := Lib.hid hf.1; clear hf hb
    go_enter Try.func36, Try.ntmps36
    go_wp2_with fail
    refine (cuFail_c _ _ _ _ 2 (by decide) h).mono ?_; rintro e w' ⟨rfl, hr, hk⟩
    go_wp2_with (refine (cuErr_c _ _ _ _ hr).mono ?_; rintro e w' ⟨rfl, rfl⟩)
    go_ret
    exact ⟨rfl, HF1.out, by rw [HF.out]; exact hr, hk⟩
  · by_cases h1 : (s.left : Int) < n
    · have hf : (s.take n).2 = s.fail 3 ∧ (s.fail 3).E ≠ 0 := by
        unfold CS.take
        by_cases hE : s.E ≠ 0
        · rw [if_pos hE, CS.fail_fail s 3 hE]; exact ⟨rfl, hE⟩
        · rw [if_neg hE, if_neg h0, if_pos h1, CS.fail_E s 3 (by omega) (by decide)]; simp
      have he2 : (((s.fail 3).E : Int) != 0) = true := by have := hf.2; simp; omega
      have HF := Lib.hid hf.1; clear hf hb
      go_enter Try.func36, Try.ntmps36
      go_wp2_with fail
      refine (cuLeft_c _ _ _ _ h).mono ?_; rintro e w' ⟨rfl, m, rfl⟩
      go_wp2_with fail
      refine (cuFail_c _ _ _ _ 3 (by decide) (h.drewN _)).mono ?_; rintro e w' ⟨rfl, hr, hk⟩
      go_wp2_with (refine (cuErr_c _ _ _ _ hr).mono ?_; rintro e w' ⟨rfl, rfl⟩)
      go_ret
      exact ⟨rfl, HF1.out, by rw [HF.out]; exact hr, ((Keep.refl [] w).drewN m).nil.trans hk (by simp)⟩
    · have hE : s.E ≠ 0 := by rcases hb with h | h | h; exact h; omega; omega
      have hf : (s.take n).2 = s := by unfold CS.take; rw [if_pos hE]
      have he2 : ((s.E : Int) != 0) = true := by simp; omega
      have HF := Lib.hid hf; clear hf hb hE
      go_enter Try.func36, Try.ntmps36
      go_wp2_with fail
      refine (cuLeft_c _ _ _ _ h).mono ?_; rintro e w' ⟨rfl, m, rfl⟩
      go_wp2_with (refine (cuErr_c _ _ _ _ (h.drewN m)).mono ?_; rintro e w' ⟨rfl, rfl⟩)
      go_ret
      exact ⟨rfl, HF1.out, by rw [HF.out]; exact h.drewN m, ((Keep.refl [] w).drewN m).nil⟩
end Go.Proofs.Ytgohdhpokehflaa
