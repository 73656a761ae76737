/- Numbers of layer 7: how a copy is told in great pieces. -/
import Derived.Test.YtmafgamacijdaaaHstMath
namespace Go.Proofs.Ytmafgamacijdaaa
set_option linter.unusedVariables false
set_option linter.unusedSimpArgs false

/-- what a copy has told so far, from its place on, is what it tells next -/
theorem cpy_piece (b : List UInt8) (d m j : Nat) (h1 : 1 ≤ d) (h2 : d ≤ b.length) (hm : m % d = 0) (hj : j ≤ m + d) : cpy b d (m + j) = cpy b d m ++ ((cpy b d m).drop (b.length - d)).take j := by
  apply List.ext_getElem?
  intro i
  by_cases hi : i < b.length + m
  · rw [cpy_add, cpy_pre _ _ _ _ (by rw [cpy_len]; exact hi), List.getElem?_append_left (by rw [cpy_len]; exact hi)]
  · by_cases hi2 : i < b.length + m + j
    · obtain ⟨k, rfl⟩ : ∃ k, i = b.length + (m + k) := ⟨i - b.length - m, by omega⟩
      rw [cpy_over b d (m + j) (m + k) h1 h2 (by omega), List.getElem?_append_right (by rw [cpy_len]; omega), cpy_len, show b.length + (m + k) - (b.length + m) = k by omega, List.getElem?_take, if_pos (by omega), List.getElem?_drop]
      have e : (m + k) % d = k % d := by rw [Nat.add_mod, hm, Nat.zero_add, Nat.mod_mod]
      rw [e]
      by_cases hk : k < d
      · rw [Nat.mod_eq_of_lt hk, cpy_pre b d m _ (by omega)]
      · rw [show b.length - d + k = b.length + (k - d) by omega, cpy_over b d m (k - d) h1 h2 (by omega)]
        congr 2
        exact Nat.mod_eq_sub_mod (by omega)
    · rw [List.getElem?_eq_none (by rw [cpy_len]; omega), List.getElem?_eq_none]
      rw [List.length_append, cpy_len, List.length_take, List.length_drop, cpy_len]; omega
theorem cpy_zeros (b : List UInt8) (d n : Nat) (h : b.length + n ≤ d) : cpy b d n = b ++ List.replicate n 0 := by
  induction n with
  | zero => simp [cpy]
  | succ n ih =>
    rw [cpy, ih (by omega)]
    unfold back1
    rw [if_neg (by rw [List.length_append, List.length_replicate]; omega), List.append_assoc, ← List.replicate_succ']
theorem cpy_none (b : List UInt8) (d : Nat) : cpy b d 0 = b := rfl
end Go.Proofs.Ytmafgamacijdaaa
