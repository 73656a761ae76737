/- Contract of lives of package duffellaw02. -/
import Derived.Test.YtgohdhpokehflaaCur2
import Derived.Test.YtgohdhpokehflaaRow
namespace Go.Proofs.Ytgohdhpokehflaa
set_option linter.unusedVariables false
set_option linter.unusedSimpArgs false
open Go.ChangeShapes Go.WideShapes Go.ChangeAt Go.RowKit

theorem CS.take_l (s : CS) (n : Int) : (s.take n).2.l = s.l := by
  unfold CS.take CS.fail
  split; rfl
  split; (split <;> rfl)
  split; (split <;> rfl)
  rfl
theorem CS.take_made (s : CS) (n : Int) : (s.take n).2.made = s.made := by
  unfold CS.take CS.fail
  split; rfl
  split; (split <;> rfl)
  split; (split <;> rfl)
  rfl
theorem lives2_1 : ((⟨[2, 1], 0, true, 0⟩ : CS).take 2) = ([2, 1], ⟨[2, 1], 2, true, 0⟩) := rfl
theorem lives_c (w : World) : Calls Try.prog 23 #[] w fun e w' => e = .returned (.bool true) ∧ Keep [] w w' := by
  have hb : Bs (w.alloc (.cells #[.int .u8 2, .int .u8 1] 5)) (.slice (some ⟨w.heap.size, 0, none⟩) 2 2) [2, 1] := Bs.lit w _ _ 2 rfl rfl (by simp [maxLen])
  have hk := (Keep.refl [] w).alloc (.cells #[.int .u8 2, .int .u8 1] 5)
  have hle : ((le [2, 1] : Nat) : Int) = 258 := rfl
  have HL := Lib.hid hle; clear hle
  go_enter Try.func23, Try.ntmps23
  go_wp2_with fail
  refine (cuOpen_c _ _ [2, 1] (by decide) hb).mono ?_; rintro e w' ⟨r, v', rfl, hr, hk1, h1, h2⟩
  have hK : Keep [] w w' := hk.trans hk1 (by simp)
  have hsz : w.heap.size ≤ r := by have := h1; simp at this; omega
  clear hb hk hk1 h1
  go_wp2_with fail
  refine (cu16_c _ _ _ _ hr).mono ?_; rintro e w2 ⟨rfl, hr2, hk2⟩
  rw [lives2_1, HL.out]
  have hK2 : Keep [] w w2 := hK.trans hk2 (by simpa using hsz)
  go_wp2_with fail
  refine (roNew_c _).mono ?_; rintro e w3 ⟨q, rfl, hq, hk3, h3⟩
  have hK3 : Keep [] w w3 := hK2.trans hk3 (by simp)
  have hq3 : w.heap.size ≤ q := by have := hK2.size; omega
  go_wp2_with fail
  refine (roU32_c _ _ _ _ 1 (by decide) hq (by simp)).mono ?_; rintro e w4 ⟨v4, rfl, hq4, hk4, hv4⟩
  have hK4 : Keep [] w w4 := hK3.trans hk4 (by intro b hb; right; simp [Value.ownBlock] at hb; omega)
  go_wp2_with fail
  refine (roBytes_c _ _ _ _ hq4 (by simp [WS.put, lb_length])).mono ?_; rintro e w5 ⟨v5, rfl, ho5, hk5, hv5⟩
  have hlen : ((WS.put ⟨[], 0⟩ (lb 4 1)).out.length) = 4 := rfl
  obtain ⟨a, c, rfl, _⟩ := ho5.bs.shape
  rw [hlen]
  go_wp2_with fail
  go_ret
  exact ⟨rfl, hK4.trans hk5 (by simp)⟩
end Go.Proofs.Ytgohdhpokehflaa
