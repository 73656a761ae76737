/- Check over the landed code. -/
import Derived.Test.YtmafgamacijdaaaRefFin
namespace Go.Proofs.Ytmafgamacijdaaa
set_option linter.unusedVariables false
set_option linter.unusedSimpArgs false
open Go.ChangeShapes Go.WideShapes Go.ChangeAt Go.RowKit

def wi (n l m : Int) : Bool := decide (l ≤ n) && decide (n ≤ m)
set_option maxRecDepth 100000 in
theorem fwithin_c (w : World) (n l m : Int) : Calls Try.prog 54 #[.int .i64 n, .int .i64 l, .int .i64 m] w fun e w' => e = .returned (.bool (wi n l m)) ∧ w' = w := by
  by_cases h1 : l ≤ n
  case neg =>
    have HR : Hid (wi n l m = false) := by unfold wi; rw [decide_eq_false h1]; rfl
    go_enter Try.func54, Try.ntmps54
    go_wp2_with fail
    go_ret
    exact ⟨by rw [HR.out]; rfl, rfl⟩
  have HR : Hid (wi n l m = decide (n ≤ m)) := by unfold wi; rw [decide_eq_true h1]; rfl
  by_cases h2 : n ≤ m
  · have HR2 : Hid (wi n l m = true) := by rw [HR.out, decide_eq_true h2]; rfl
    clear HR
    go_enter Try.func54, Try.ntmps54
    go_wp2_with fail
    go_ret
    exact ⟨by rw [HR2.out]; rfl, rfl⟩
  · have HR2 : Hid (wi n l m = false) := by rw [HR.out, decide_eq_false h2]; rfl
    clear HR
    go_enter Try.func54, Try.ntmps54
    go_wp2_with fail
    go_ret
    exact ⟨by rw [HR2.out]; rfl, rfl⟩
set_option maxRecDepth 100000 in
set_option maxHeartbeats 4000000 in
theorem fin_check (w : World) (s : Sh) : Calls Try.prog 45 #[s.val] w fun e w' => e = .returned (.int .i64 (if s.ok then 0 else 2)) ∧ Keep [] w w' := by
  have HD : Hid (s.ok ↔ (wi s.win 1 65536 = true ∧ wi s.min 2 3 = true ∧ wi s.max s.min 65538 = true ∧ wi s.chain 0 4096 = true)) := by
    unfold Sh.ok wi
    simp only [Bool.and_eq_true, decide_eq_true_eq]
    constructor
    · rintro ⟨a, b, c, d, e, f, g, h⟩; exact ⟨⟨a, b⟩, ⟨c, d⟩, ⟨e, f⟩, g, h⟩
    · rintro ⟨⟨a, b⟩, ⟨c, d⟩, ⟨e, f⟩, g, h⟩; exact ⟨a, b, c, d, e, f, g, h⟩
  obtain ⟨win, mn, mx, ch, lz⟩ := s
  simp only at HD
  have H1 := Lib.hid (fun ww => fwithin_c ww win 1 65536)
  have H2 := Lib.hid (fun ww => fwithin_c ww mn 2 3)
  have H3 := Lib.hid (fun ww => fwithin_c ww mx mn 65538)
  have H4 := Lib.hid (fun ww => fwithin_c ww ch 0 4096)
  obtain ⟨R, hR⟩ : ∃ R : Int, (if (⟨win, mn, mx, ch, lz⟩ : Sh).ok then (0 : Int) else 2) = R := ⟨_, rfl⟩
  have HR : Hid (R = if wi win 1 65536 = true ∧ wi mn 2 3 = true ∧ wi mx mn 65538 = true ∧ wi ch 0 4096 = true then 0 else 2) := by
    rw [← hR]; simp only [HD.out]; exact trivial
  rw [hR]
  show Calls Try.prog 45 #[.agg #[.int .i64 win, .int .i64 mn, .int .i64 mx, .int .i64 ch, .bool lz]] w _
  clear HD hR
  generalize wi win 1 65536 = t1 at H1 HR
  generalize wi mn 2 3 = t2 at H2 HR
  generalize wi mx mn 65538 = t3 at H3 HR
  generalize wi ch 0 4096 = t4 at H4 HR
  cases t1 with
  | false =>
    have HR2 : Hid (R = 2) := by have := HR.out; rw [if_neg (by simp)] at this; exact this
    clear HR
    go_enter Try.func45, Try.ntmps45
    go_wp2_with fail
    refine (H1.out _).mono ?_
    rintro e w' ⟨rfl, rfl⟩
    go_wp2_with fail
    go_ret
    exact ⟨by rw [HR2.out]; rfl, (Keep.refl [] w).alloc _⟩
  | true =>
  cases t2 with
  | false =>
    have HR2 : Hid (R = 2) := by have := HR.out; rw [if_neg (by simp)] at this; exact this
    clear HR
    go_enter Try.func45, Try.ntmps45
    go_wp2_with fail
    refine (H1.out _).mono ?_
    rintro e w' ⟨rfl, rfl⟩
    go_wp2_with fail
    refine (H2.out _).mono ?_
    rintro e w' ⟨rfl, rfl⟩
    go_wp2_with fail
    go_ret
    exact ⟨by rw [HR2.out]; rfl, (Keep.refl [] w).alloc _⟩
  | true =>
  cases t3 with
  | false =>
    have HR2 : Hid (R = 2) := by have := HR.out; rw [if_neg (by simp)] at this; exact this
    clear HR
    go_enter Try.func45, Try.ntmps45
    go_wp2_with fail
    refine (H1.out _).mono ?_
    rintro e w' ⟨rfl, rfl⟩
    go_wp2_with fail
    refine (H2.out _).mono ?_
    rintro e w' ⟨rfl, rfl⟩
    go_wp2_with fail
    refine (H3.out _).mono ?_
    rintro e w' ⟨rfl, rfl⟩
    go_wp2_with fail
    go_ret
    exact ⟨by rw [HR2.out]; rfl, (Keep.refl [] w).alloc _⟩
  | true =>
  cases t4 with
  | false =>
    have HR2 : Hid (R = 2) := by have := HR.out; rw [if_neg (by simp)] at this; exact this
    clear HR
    go_enter Try.func45, Try.ntmps45
    go_wp2_with fail
    refine (H1.out _).mono ?_
    rintro e w' ⟨rfl, rfl⟩
    go_wp2_with fail
    refine (H2.out _).mono ?_
    rintro e w' ⟨rfl, rfl⟩
    go_wp2_with fail
    refine (H3.out _).mono ?_
    rintro e w' ⟨rfl, rfl⟩
    go_wp2_with fail
    refine (H4.out _).mono ?_
    rintro e w' ⟨rfl, rfl⟩
    go_wp2_with fail
    go_ret
    exact ⟨by rw [HR2.out]; rfl, (Keep.refl [] w).alloc _⟩
  | true =>
    have HR2 : Hid (R = 0) := by have := HR.out; rw [if_pos (by simp)] at this; exact this
    clear HR
    go_enter Try.func45, Try.ntmps45
    go_wp2_with fail
    refine (H1.out _).mono ?_
    rintro e w' ⟨rfl, rfl⟩
    go_wp2_with fail
    refine (H2.out _).mono ?_
    rintro e w' ⟨rfl, rfl⟩
    go_wp2_with fail
    refine (H3.out _).mono ?_
    rintro e w' ⟨rfl, rfl⟩
    go_wp2_with fail
    refine (H4.out _).mono ?_
    rintro e w' ⟨rfl, rfl⟩
    go_wp2_with fail
    go_ret
    exact ⟨by rw [HR2.out]; rfl, (Keep.refl [] w).alloc _⟩
end Go.Proofs.Ytmafgamacijdaaa
