/- The document's own answers of layer 9: Check, same. -/
import Derived.Test.YtmafgamacijdaaaFinMath
import Derived.Test.YtmafgamacijdaaaKept
import Derived.Test.YtmafgamacijdaaaRefKit
import Derived.BigQuiet
namespace Go.Proofs.Ytmafgamacijdaaa
set_option linter.unusedVariables false
set_option linter.unusedSimpArgs false
open Go.ChangeShapes Go.WideShapes Go.ChangeAt Go.RowKit

/-- a shape's cells -/
def Sh.cells (s : Sh) : Array Value := #[.int .i64 s.win, .int .i64 s.min, .int .i64 s.max, .int .i64 s.chain, .bool s.lazy]
def Sh.val (s : Sh) : Value := .agg s.cells
theorem dec_t {p : Prop} [Decidable p] (h : p) : decide p = true := by simpa using h
theorem dec_f {p : Prop} [Decidable p] (h : ¬ p) : decide p = false := by simpa using h

set_option maxRecDepth 100000 in
set_option maxHeartbeats 4000000 in
theorem refcheck9_c (w : World) (s : Sh) : Calls Try.prog 50 #[s.val] w fun e w' => e = .returned (.bool (decide s.ok)) ∧ Keep [] w w' := by
  have HD : Hid (s.ok ↔ (1 ≤ s.win ∧ s.win ≤ 65536 ∧ 2 ≤ s.min ∧ s.min ≤ 3 ∧ s.min ≤ s.max ∧ s.max ≤ 65538 ∧ 0 ≤ s.chain ∧ s.chain ≤ 4096)) := Iff.rfl
  obtain ⟨win, mn, mx, ch, lz⟩ := s
  simp only at HD
  have key : ∀ b : Bool, ((⟨win, mn, mx, ch, lz⟩ : Sh).ok ↔ b = true) → decide (⟨win, mn, mx, ch, lz⟩ : Sh).ok = b := by
    intro b hb; cases b <;> simp_all
  have HKY := Lib.hid key
  clear key
  show Calls Try.prog 50 #[.agg #[.int .i64 win, .int .i64 mn, .int .i64 mx, .int .i64 ch, .bool lz]] w _
  by_cases h1 : 1 ≤ win
  case neg =>
    have q : Hid (decide (⟨win, mn, mx, ch, lz⟩ : Sh).ok = false) := HKY.out _ (by have := HD.out; rw [this]; simp only [Bool.false_eq_true, iff_false]; omega)
    have d1 := dec_f h1
    clear h1
    go_enter Try.func50, Try.ntmps50
    go_wp2_with fail
    go_ret
    exact ⟨by rw [q.out]; rfl, by first | exact ((Keep.refl [] w).alloc _) | exact ((Keep.refl [] w).alloc _).drewN _⟩
  have d1 := dec_t h1
  by_cases h2 : win ≤ 65536
  case neg =>
    have q : Hid (decide (⟨win, mn, mx, ch, lz⟩ : Sh).ok = false) := HKY.out _ (by have := HD.out; rw [this]; simp only [Bool.false_eq_true, iff_false]; omega)
    have d2 := dec_f h2
    clear h1 h2
    go_enter Try.func50, Try.ntmps50
    go_wp2_with fail
    go_ret
    exact ⟨by rw [q.out]; rfl, by first | exact ((Keep.refl [] w).alloc _) | exact ((Keep.refl [] w).alloc _).drewN _⟩
  have d2 := dec_t h2
  by_cases h3 : 2 ≤ mn
  case neg =>
    have q : Hid (decide (⟨win, mn, mx, ch, lz⟩ : Sh).ok = false) := HKY.out _ (by have := HD.out; rw [this]; simp only [Bool.false_eq_true, iff_false]; omega)
    have d3 := dec_f h3
    clear h1 h2 h3
    go_enter Try.func50, Try.ntmps50
    go_wp2_with fail
    go_ret
    exact ⟨by rw [q.out]; rfl, by first | exact ((Keep.refl [] w).alloc _) | exact ((Keep.refl [] w).alloc _).drewN _⟩
  have d3 := dec_t h3
  by_cases h4 : mn ≤ 3
  case neg =>
    have q : Hid (decide (⟨win, mn, mx, ch, lz⟩ : Sh).ok = false) := HKY.out _ (by have := HD.out; rw [this]; simp only [Bool.false_eq_true, iff_false]; omega)
    have d4 := dec_f h4
    clear h1 h2 h3 h4
    go_enter Try.func50, Try.ntmps50
    go_wp2_with fail
    go_ret
    exact ⟨by rw [q.out]; rfl, by first | exact ((Keep.refl [] w).alloc _) | exact ((Keep.refl [] w).alloc _).drewN _⟩
  have d4 := dec_t h4
  by_cases h5 : mn ≤ mx
  case neg =>
    have q : Hid (decide (⟨win, mn, mx, ch, lz⟩ : Sh).ok = false) := HKY.out _ (by have := HD.out; rw [this]; simp only [Bool.false_eq_true, iff_false]; omega)
    have d5 := dec_f h5
    clear h1 h2 h3 h4 h5
    go_enter Try.func50, Try.ntmps50
    go_wp2_with fail
    go_ret
    exact ⟨by rw [q.out]; rfl, by first | exact ((Keep.refl [] w).alloc _) | exact ((Keep.refl [] w).alloc _).drewN _⟩
  have d5 := dec_t h5
  by_cases h6 : mx ≤ 65538
  case neg =>
    have q : Hid (decide (⟨win, mn, mx, ch, lz⟩ : Sh).ok = false) := HKY.out _ (by have := HD.out; rw [this]; simp only [Bool.false_eq_true, iff_false]; omega)
    have d6 := dec_f h6
    clear h1 h2 h3 h4 h5 h6
    go_enter Try.func50, Try.ntmps50
    go_wp2_with fail
    go_ret
    exact ⟨by rw [q.out]; rfl, by first | exact ((Keep.refl [] w).alloc _) | exact ((Keep.refl [] w).alloc _).drewN _⟩
  have d6 := dec_t h6
  by_cases h7 : 0 ≤ ch
  case neg =>
    have q : Hid (decide (⟨win, mn, mx, ch, lz⟩ : Sh).ok = false) := HKY.out _ (by have := HD.out; rw [this]; simp only [Bool.false_eq_true, iff_false]; omega)
    have d7 := dec_f h7
    clear h1 h2 h3 h4 h5 h6 h7
    go_enter Try.func50, Try.ntmps50
    go_wp2_with fail
    go_ret
    exact ⟨by rw [q.out]; rfl, by first | exact ((Keep.refl [] w).alloc _) | exact ((Keep.refl [] w).alloc _).drewN _⟩
  have d7 := dec_t h7
  by_cases h8 : ch ≤ 4096
  case neg =>
    have q : Hid (decide (⟨win, mn, mx, ch, lz⟩ : Sh).ok = false) := HKY.out _ (by have := HD.out; rw [this]; simp only [Bool.false_eq_true, iff_false]; omega)
    have d8 := dec_f h8
    clear h1 h2 h3 h4 h5 h6 h7 h8
    go_enter Try.func50, Try.ntmps50
    go_wp2_with fail
    go_ret
    exact ⟨by rw [q.out]; rfl, by first | exact ((Keep.refl [] w).alloc _) | exact ((Keep.refl [] w).alloc _).drewN _⟩
  have d8 := dec_t h8
  have q : Hid (decide (⟨win, mn, mx, ch, lz⟩ : Sh).ok = true) := HKY.out _ (by have := HD.out; rw [this]; simp only [iff_true]; omega)
  clear h1 h2 h3 h4 h5 h6 h7 h8
  go_enter Try.func50, Try.ntmps50
  go_wp2_with fail
  go_ret
  exact ⟨by rw [q.out]; rfl, by first | exact ((Keep.refl [] w).alloc _) | exact ((Keep.refl [] w).alloc _).drewN _⟩
/-- one more byte the same -/
theorem cntUp_step (P : Nat → Bool) (m n : Nat) : cntUp P (m + 1) n = if P n then cntUp P m (n + 1) else n := rfl
set_option maxRecDepth 100000 in
set_option maxHeartbeats 2000000 in
theorem refsame9_c (w : World) (v : Value) (b : List UInt8) (f i m : Nat) (h : Bs w v b) (hfi : f ≤ i) (hi : i ≤ b.length) (hb : b.length ≤ 100000) (hm : m ≤ 100000) : Calls Try.prog 56 #[v, .int .i64 f, .int .i64 i, .int .i64 m] w fun e w' => e = .returned (.int .i64 (sme b f i m : Nat)) ∧ ∃ n, w' = w.drewN n := by
  have HI := Lib.hid (fun k hk => h.spot k hk)
  obtain ⟨a, cap, rfl, hc1, hc2⟩ := h.shape
  clear h hc1 hc2
  go_enter Try.func56, Try.ntmps56
  go_wp2_with fail
  go_loopw [9] (fun n wr => ∃ k : Nat, k ≤ m ∧ i + k ≤ b.length ∧ n = .int .i64 k ∧ Hid (sme b f i m = cntUp (sm1 b f i) (m - k) k) ∧ ∃ n, wr = w.drewN n) (fun n _ => m - (intOf n).toNat)
  case atStart => exact ⟨0, by omega, by omega, rfl, rfl, 0, rfl⟩
  case round =>
    obtain ⟨k, hk, hkb, rfl, HC, n, rfl⟩ := hrel
    by_cases h1 : k < m
    case neg =>
      obtain rfl : k = m := by omega
      have HC2 : Hid (sme b f i k = k) := by have := HC.out; rw [Nat.sub_self] at this; exact this
      clear HC h1
      go_wp2_with fail
      go_quiet (fail)
      go_wp2_with fail
      go_ret
      exact ⟨by rw [HC2.out]; rfl, _, World.drewN_drewN _ _ _⟩
    have d1 : (k : Int) < (m : Int) := by omega
    by_cases h2 : i + k < b.length
    case neg =>
      have HC2 : Hid (sme b f i m = k) := by
        have := HC.out
        rw [show m - k = (m - k - 1) + 1 by omega, cntUp_step, if_neg (by unfold sm1; simp [h2])] at this
        exact this
      have d2 : decide ((i : Int) + k < (b.length : Int)) = false := dec_f (by omega)
      have d2' : decide (i + k < b.length) = false := dec_f h2
      clear HC h2 h1
      go_wp2_with fail
      go_quiet (fail)
      go_wp2_with fail
      go_ret
      exact ⟨by rw [HC2.out]; rfl, _, World.drewN_drewN _ _ _⟩
    have d2 : (i : Int) + k < (b.length : Int) := by omega
    obtain ⟨g, off, cap1, hv, e1⟩ := HI.out (i + k) h2
    simp only [Value.slice.injEq] at hv
    obtain ⟨rfl, h3, rfl⟩ := hv
    clear h3
    obtain ⟨g', off', cap2, hv, e2⟩ := HI.out (f + k) (by omega)
    simp only [Value.slice.injEq, Option.some.injEq, Addr.mk.injEq] at hv
    obtain ⟨⟨rfl, rfl, hh⟩, h3, rfl⟩ := hv
    clear h3 hh
    have d3 : (f : Int) + k < (b.length : Int) := by omega
    have HS := Lib.hid (show sm1 b f i k = (b[f + k] == b[i + k]) by
      unfold sm1
      rw [decide_eq_true h2, Bool.true_and, List.getD_eq_getElem?_getD, List.getD_eq_getElem?_getD, List.getElem?_eq_getElem h2, List.getElem?_eq_getElem (show f + k < b.length by omega)]; rfl)
    by_cases he : b[f + k] = b[i + k]
    · have hb1 : ((b[f + k].toNat : Int) == b[i + k].toNat) = true := by rw [he]; simp
      have HC2 : Hid (sme b f i m = cntUp (sm1 b f i) (m - (k + 1)) (k + 1)) := by
        have := HC.out
        rw [show m - k = (m - (k + 1)) + 1 by omega, cntUp_step, HS.out, he, if_pos (by simp)] at this
        exact this
      generalize b[f + k].toNat = x1 at e2 hb1
      generalize b[i + k].toNat = x2 at e1 hb1
      clear he HC HS
      go_wp2_with fail
      go_quiet (fail)
      go_wp2_with fail
      go_roundw
      case rel => exact ⟨k + 1, by omega, by omega, by go_num, HC2, _, rfl⟩
      case measure => simp [intOf]; omega
    · have hb1 : ((b[f + k].toNat : Int) == b[i + k].toNat) = false := by
        have : b[f + k].toNat ≠ b[i + k].toNat := fun e => he (UInt8.toNat_inj.1 e)
        simp; omega
      have HC2 : Hid (sme b f i m = k) := by
        have := HC.out
        rw [show m - k = (m - (k + 1)) + 1 by omega, cntUp_step, HS.out, if_neg (by simpa using he)] at this
        exact this
      generalize b[f + k].toNat = x1 at e2 hb1
      generalize b[i + k].toNat = x2 at e1 hb1
      clear he HC HS
      go_wp2_with fail
      go_quiet (fail)
      go_wp2_with fail
      go_ret
      exact ⟨by rw [HC2.out]; rfl, _, World.drewN_drewN _ _ _⟩
end Go.Proofs.Ytmafgamacijdaaa
