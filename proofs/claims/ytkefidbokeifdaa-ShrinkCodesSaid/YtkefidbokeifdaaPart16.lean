/- Texts put together: Equal -/
import Derived.Test.YtkefidbokeifdaaPart15
import Derived.Test.YtkefidbokeifdaaPart6
namespace Go.Proofs.Ytkefidbokeifdaa
set_option linter.unusedVariables false
set_option linter.unusedSimpArgs false
open Go.ChangeShapes Go.WideShapes Go.ChangeAt Go.RowKit

theorem equal_c (w : World) (v v' : Value) (l l' : List UInt8) (h : Bs w v l) (h' : Bs w v' l') : Calls Try.prog 74 #[v, v'] w fun e w' => e = .returned (.bool (decide (l = l'))) ∧ w = w' := by
  have t1 := h.text
  have t2 := h'.text
  have HT := Lib.hid (txt_eq l l')
  generalize txt l = x1 at t1 HT
  generalize txt l' = x2 at t2 HT
  go_enter Try.func74, Try.ntmps74
  go_wp2
  go_ret
  rw [HT.out]
  exact ⟨rfl, rfl⟩
theorem hasprefix_c (w : World) (v v' : Value) (l l' : List UInt8) (h : Bs w v l) (h' : Bs w v' l') : Calls Try.prog 63 #[v, v'] w fun e w' => e = .returned (.bool (decide (l' <+: l))) ∧ w = w' := by
  obtain ⟨a, cp, rfl, h1, h2⟩ := h.shape
  obtain ⟨a', cp', rfl, h1', h2'⟩ := h'.shape
  obtain ⟨R, hR⟩ : ∃ R, decide (l' <+: l) = R := ⟨_, rfl⟩
  rw [hR]
  by_cases hl : l'.length ≤ l.length
  · have hp : (l' <+: l) ↔ l.take l'.length = l' := by
      constructor
      · rintro ⟨z, rfl⟩; rw [List.take_left' rfl]
      · intro e; exact ⟨l.drop l'.length, by rw [← List.take_append_drop l'.length l, e, List.drop_left' rfl]⟩
    have hE := equal_c w (.slice a l'.length cp) (.slice a' l'.length cp') (l.take l'.length) l' (h.pre l'.length hl) h'
    have hR2 : decide (l.take l'.length = l') = R := by rw [← hR]; simp only [hp]
    rw [hR2] at hE
    have HE := Lib.hid hE
    clear hp hE hR2 hR h h'
    unfold maxLen at h2 h2'
    generalize l'.length = n' at *
    generalize l.length = n at *
    go_enter Try.func63, Try.ntmps63
    go_wp2_with fail
    refine HE.out.mono ?_; rintro e w' ⟨rfl, rfl⟩
    go_wp2_with fail
    go_ret
    exact ⟨rfl, rfl⟩
  · have hp : R = false := by
      rw [← hR]; simp only [decide_eq_false_iff_not]
      intro e; exact hl e.length_le
    subst hp
    clear hR h h'
    unfold maxLen at h2 h2'
    generalize l'.length = n' at *
    generalize l.length = n at *
    go_enter Try.func63, Try.ntmps63
    go_wp2_with fail
    go_ret
    exact ⟨rfl, rfl⟩
end Go.Proofs.Ytkefidbokeifdaa
