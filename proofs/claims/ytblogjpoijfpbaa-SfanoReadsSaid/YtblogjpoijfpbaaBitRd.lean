/- Contracts of the methods Err, Left, Read, Align of bitio.Reader. -/
import Derived.Test.YtblogjpoijfpbaaMem
namespace Go.Proofs.Ytblogjpoijfpbaa
set_option linter.unusedVariables false
set_option linter.unusedSimpArgs false
open Go.ChangeShapes Go.WideShapes Go.ChangeAt Go.RowKit

/-- the state of a reader: its bytes, how many bits were read, whether Open made it, its error -/
structure RS where
  l : List UInt8
  pos : Nat
  made : Bool
  err : Nat
def RS.E (s : RS) : Nat := if s.made then s.err else 1
def RS.left (s : RS) : Nat := if s.E = 0 then 8 * s.l.length - s.pos else 0
def RS.fail (s : RS) (e : Nat) : RS := if s.E = 0 then { s with err := e } else s
def RS.ok (s : RS) : Prop := s.pos ≤ 8 * s.l.length ∧ s.l.length ≤ 140737488355328 ∧ s.err < 100

/-- block r is a reader in state s; its bytes lie in the slice v -/
def Rd (w : World) (r : Nat) (v : Value) (s : RS) : Prop :=
  Blk w r #[v, .int .i64 s.pos, .bool s.made, .int .i64 s.err] 79 ∧ OwnB w v s.l ∧ s.ok ∧ (∀ b, v.ownBlock = some b → b ≠ r)
theorem Rd.keep {w w' : World} {r : Nat} {v : Value} {s : RS} {S : List Nat} (h : Rd w r v s) (k : Keep S w w') (hr : r ∉ S) (hv : ∀ b, v.ownBlock = some b → b ∉ S) : Rd w' r v s :=
  ⟨h.1.keep k hr, h.2.1.keep k hv, h.2.2⟩

theorem Rd.drewN {w : World} {r : Nat} {v : Value} {s : RS} (h : Rd w r v s) (n : Nat) : Rd (w.drewN n) r v s := h.keep ((Keep.refl [] w).drewN _) (by simp) (by simp)
theorem err_c (w : World) (r : Nat) (v : Value) (s : RS) (h : Rd w r v s) : Calls Try.prog 44 #[.pointer (some ⟨r, 0, none⟩)] w fun e w' => e = .returned (.int .i64 s.E) ∧ w = w' := by
  have c2 := h.1.cell 2 _ rfl
  have c3 := h.1.cell 3 _ rfl
  cases hm : s.made
  · have hf : s.E = 1 := by simp [RS.E, hm]
    rw [hm] at c2
    have HF := Lib.hid hf; clear hf hm
    go_enter Try.func44, Try.ntmps44
    go_wp2
    go_ret
    exact ⟨by rw [HF.out]; rfl, rfl⟩
  · have hf : s.E = s.err := by simp [RS.E, hm]
    rw [hm] at c2
    have HF := Lib.hid hf; clear hf hm
    go_enter Try.func44, Try.ntmps44
    go_wp2
    go_ret
    exact ⟨by rw [HF.out]; rfl, rfl⟩
theorem err_nil (w : World) : Calls Try.prog 44 #[.pointer none] w fun e w' => e = .returned (.int .i64 1) ∧ w = w' := by
  go_enter Try.func44, Try.ntmps44
  go_wp2
  go_ret
  exact ⟨rfl, rfl⟩
theorem left_c (w : World) (r : Nat) (v : Value) (s : RS) (h : Rd w r v s) : Calls Try.prog 52 #[.pointer (some ⟨r, 0, none⟩)] w fun e w' => e = .returned (.int .i64 s.left) ∧ ∃ n, w' = w.drewN n := by
  have c0 := h.1.cell 0 _ rfl
  have c1 := h.1.cell 1 _ rfl
  obtain ⟨a, cap, rfl, _⟩ := h.2.1.bs
  have hk := h.2.2.1
  unfold RS.ok at hk
  obtain ⟨k1, k2, k3⟩ := hk
  by_cases he : s.E = 0
  · have hf : ((s.left : Nat) : Int) = 8 * s.l.length - s.pos := by unfold RS.left; rw [if_pos he]; omega
    have he2 : ((s.E : Int) != 0) = false := by simp [he]
    have HF := Lib.hid hf; clear hf he
    go_enter Try.func52, Try.ntmps52
    go_wp2_with (refine (err_c _ _ _ _ h).mono ?_; rintro e w' ⟨rfl, rfl⟩)
    go_quiet (fail)
    go_wp2
    go_ret
    exact ⟨by rw [HF.out]; rfl, _, rfl⟩
  · have hf : s.left = 0 := by unfold RS.left; rw [if_neg he]
    have he2 : ((s.E : Int) != 0) = true := by simp; omega
    have HF := Lib.hid hf; clear hf he
    go_enter Try.func52, Try.ntmps52
    go_wp2_with (refine (err_c _ _ _ _ h).mono ?_; rintro e w' ⟨rfl, rfl⟩)
    go_ret
    exact ⟨by rw [HF.out]; rfl, 0, rfl⟩

theorem RS.fail_l (s : RS) (e : Nat) : (s.fail e).l = s.l := by unfold RS.fail; split <;> rfl
theorem fail_c (w : World) (r : Nat) (v : Value) (s : RS) (e : Nat) (he : e < 100) (h : Rd w r v s) : Calls Try.prog 53 #[.pointer (some ⟨r, 0, none⟩), .int .i64 e] w fun en w' => en = .returned (.tuple #[]) ∧ Rd w' r v (s.fail e) ∧ Keep [r] w w' := by
  have c3 := h.1.cell 3 _ rfl
  have f3 := h.1.free 3
  by_cases h0 : s.E = 0
  · have hf : s.fail e = { s with err := e } := by unfold RS.fail; rw [if_pos h0]
    have he2 : ((s.E : Int) == 0) = true := by simp [h0]
    have HF := Lib.hid hf; clear hf h0
    go_enter Try.func53, Try.ntmps53
    go_wp2_with (refine (err_c _ _ _ _ h).mono ?_; rintro e w' ⟨rfl, rfl⟩)
    go_end0
    refine ⟨rfl, ?_, (Keep.refl _ _).setCell (by simp) _⟩
    rw [HF.out]
    exact ⟨h.1.set 3 _, h.2.1.keep ((Keep.refl [r] _).setCell (by simp) _) (by simpa using h.2.2.2), ⟨h.2.2.1.1, h.2.2.1.2.1, he⟩, h.2.2.2⟩
  · have hf : s.fail e = s := by unfold RS.fail; rw [if_neg h0]
    have he2 : ((s.E : Int) == 0) = false := by simp; omega
    have HF := Lib.hid hf; clear hf h0
    go_enter Try.func53, Try.ntmps53
    go_wp2_with (refine (err_c _ _ _ _ h).mono ?_; rintro e w' ⟨rfl, rfl⟩)
    go_end0
    exact ⟨rfl, by rw [HF.out]; exact h, Keep.refl _ _⟩
theorem fail_nil (w : World) (e : Nat) : Calls Try.prog 53 #[.pointer none, .int .i64 e] w fun en w' => en = .returned (.tuple #[]) ∧ w = w' := by
  go_enter Try.func53, Try.ntmps53
  go_wp2_with (refine (err_nil _).mono ?_; rintro e w' ⟨rfl, rfl⟩)
  go_end0
  exact ⟨rfl, rfl⟩

theorem skip_c (w : World) (r : Nat) (v : Value) (s : RS) (n : Nat) (hn : s.pos + n ≤ 8 * s.l.length) (h : Rd w r v s) : Calls Try.prog 54 #[.pointer (some ⟨r, 0, none⟩), .int .i64 n] w fun en w' => en = .returned (.tuple #[]) ∧ Rd w' r v { s with pos := s.pos + n } ∧ Keep [r] w w' := by
  have c1 := h.1.cell 1 _ rfl
  have f1 := h.1.free 1
  have hk := h.2.2.1
  unfold RS.ok at hk
  obtain ⟨k1, k2, k3⟩ := hk
  by_cases h0 : n = 0
  · subst h0
    go_enter Try.func54, Try.ntmps54
    go_wp2
    go_end0
    exact ⟨rfl, h, Keep.refl _ _⟩
  · have hp : 0 < (n : Int) := by omega
    go_enter Try.func54, Try.ntmps54
    go_wp2
    go_end0
    refine ⟨rfl, ?_, (Keep.refl _ _).setCell (by simp) _⟩
    exact ⟨h.1.set 1 _, h.2.1.keep ((Keep.refl [r] _).setCell (by simp) _) (by simpa using h.2.2.2), ⟨hn, k2, k3⟩, h.2.2.2⟩
theorem skip_nil (w : World) : Calls Try.prog 54 #[.pointer none, .int .i64 0] w fun en w' => en = .returned (.tuple #[]) ∧ w = w' := by
  go_enter Try.func54, Try.ntmps54
  go_wp2
  go_end0
  exact ⟨rfl, rfl⟩
theorem read_c (w : World) (r : Nat) (v : Value) (s : RS) (h : Rd w r v s) : Calls Try.prog 23 #[.pointer (some ⟨r, 0, none⟩)] w fun e w' => e = .returned (.int .i64 s.pos) ∧ w = w' := by
  have c1 := h.1.cell 1 _ rfl
  go_enter Try.func23, Try.ntmps23
  go_wp2
  go_ret
  exact ⟨rfl, rfl⟩
theorem read_nil (w : World) : Calls Try.prog 23 #[.pointer none] w fun e w' => e = .returned (.int .i64 0) ∧ w = w' := by
  go_enter Try.func23, Try.ntmps23
  go_wp2
  go_ret
  exact ⟨rfl, rfl⟩
theorem left_nil (w : World) : Calls Try.prog 52 #[.pointer none] w fun e w' => e = .returned (.int .i64 0) ∧ w = w' := by
  go_enter Try.func52, Try.ntmps52
  go_wp2_with (refine (err_nil _).mono ?_; rintro e w' ⟨rfl, rfl⟩)
  go_ret
  exact ⟨rfl, rfl⟩
theorem RS.left_le (s : RS) (_ : s.ok) : s.left ≤ 8 * s.l.length - s.pos := by unfold RS.left; split <;> omega
def RS.align (s : RS) : RS := { s with pos := s.pos + s.left % 8 }
end Go.Proofs.Ytblogjpoijfpbaa
