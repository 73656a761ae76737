/- Contract of slices.Clone of bytes. -/
import Derived.Test.YtmafgamacijdaaaPart
namespace Go.Proofs.Ytmafgamacijdaaa
set_option linter.unusedVariables false
set_option linter.unusedSimpArgs false
open Go.ChangeShapes Go.WideShapes Go.ChangeAt Go.RowKit

/-- slices.Clone of bytes -/
theorem clone_nil (w : World) : Calls Try.prog 44 #[.slice none 0 0] w fun e w' => e = .returned (.slice none 0 0) ∧ w = w' := by
  have hn := Lib.run_eql_slice_nil (P := Try.prog) w 22 5 none 0 0 0 0 Try.underlying22
  go_enter Try.func44, Try.ntmps44
  go_wp2
  go_ret
  exact ⟨rfl, rfl⟩
theorem clone_c (w : World) (v : Value) (l : List UInt8) (hl : l.length ≤ 140737488355328) (h : Bs w v l) : Calls Try.prog 44 #[v] w fun e w' => ∃ v', e = .returned v' ∧ OwnB w' v' l ∧ Keep [] w w' ∧ ∀ b, v'.ownBlock = some b → w.heap.size ≤ b := by
  have h0 := h
  obtain ⟨a, cap, rfl, h1, h2, h3, h4⟩ := h
  cases a with
  | none =>
    obtain rfl := h3 rfl
    obtain rfl : l = [] := List.eq_nil_of_length_eq_zero (by omega)
    exact (clone_nil w).mono fun e w' ⟨he, hw⟩ => ⟨_, he, hw ▸ OwnB.nil w, hw ▸ Keep.refl _ _, fun b hb => by simp [Value.ownBlock] at hb⟩
  | some x =>
    have hc := h4 x rfl
    have hn := Lib.run_eql_slice_nil (P := Try.prog) w 22 5 (some x) l.length cap 0 0 Try.underlying22
    clear h4 h3
    have hb : Bs (w.alloc (.cells #[] 5)) (.slice (some x) l.length cap) l := h0.keep ((Keep.refl [] w).alloc _) (by simp)
    have hm := OwnB.made w
    clear h0
    go_enter Try.func44, Try.ntmps44
    go_wp2_with (at_builtin; refine wpList_appendB (.tmp 5) (.tmp 6) rfl rfl (.slice (some ⟨w.heap.size, 0, none⟩) 0 0) [] rfl hm (.slice (some x) l.length cap) l rfl hb (by simpa using hl) ?_; intro v' w' ho hk hv hz)
    go_ret
    refine ⟨v', rfl, ho, (((Keep.refl [] w).alloc _).trans hk (by simp [Value.ownBlock])), fun b hb => ?_⟩
    rcases hv b hb with h | h
    · simp only [Value.ownBlock, Option.some.injEq] at h; omega
    · simp at h; omega

end Go.Proofs.Ytmafgamacijdaaa
