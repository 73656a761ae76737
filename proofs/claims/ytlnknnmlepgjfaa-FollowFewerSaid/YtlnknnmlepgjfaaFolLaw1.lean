/- The laws' lives of layer 12, and the walk of FollowBest. -/
import Derived.Test.YtlnknnmlepgjfaaFol7
import Derived.Test.YtlnknnmlepgjfaaRefFol5
namespace Go.Proofs.Ytlnknnmlepgjfaa
set_option linter.unusedVariables false
set_option linter.unusedSimpArgs false
set_option maxRecDepth 100000
open Go.ChangeShapes Go.WideShapes Go.ChangeAt Go.RowKit

theorem folInfo : (Try.prog.info? 28).map (fun i => (i.zero, i.size)) = some (some (.agg zset), 256) := by kernel_rfl
theorem SV.zero (w : World) : SV w (.agg zset) (fun _ => []) := by
  refine ⟨zset, rfl, by simp [zset], fun c hc => ⟨.slice none 0 0, ?_, Bs.nil _⟩⟩
  simp [zset, hc]
theorem lives12_c (w : World) : Calls Try.prog 10 #[] w fun e w' => e = .returned (.bool true) ∧ Keep [] w w' := by
  have hz := (zero_of_info (P := Try.prog) folInfo).1
  have HZV := Lib.hid (SV.zero w)
  generalize zset = Z at hz HZV
  go_enter Try.func10, Try.ntmps10
  go_wp2_with fail
  refine (new_c w).mono ?_; rintro e w1 ⟨r, rfl, h1, k1, hr⟩
  have HP := Lib.hid (fol_put w1 r (.slice none 0 0) [] (.agg Z) (fun _ => []) 0 7 h1 (HZV.out.off w1 k1 (by simp [Value.ownBlock]; omega)) (by simp))
  go_wp2_with fail
  refine HP.out.mono ?_; rintro e w2 ⟨v2, rfl, h2, k2, b2⟩
  have hlen : (fput [] 7 : List Bool).length = 8 := by rw [fput_len _ _ (by simp)]; rfl
  have K2 : Keep [] w w2 := k1.trans k2 (fun z hz => .inr (by simp [Value.ownBlock] at hz; omega))
  have HW := Lib.hid (fol_width w2 5 (by decide))
  go_wp2_with fail
  refine HW.out.mono ?_; rintro e w3 ⟨rfl, m3, rfl⟩
  have hw5 : ((widthN 5 : Nat) : Int) = 3 := rfl
  have h3 : Wr (w2.drewN m3) r v2 ([] ++ fput [] 7) := h2.keep ((Keep.refl [] w2).drewN m3) (by simp) (by simp)
  have HL := Lib.hid (wlen_c (w2.drewN m3) r v2 _ h3 (by rw [List.nil_append, hlen]; omega))
  rw [List.nil_append, hlen] at HL
  have K3 := K2.drewN m3
  generalize w2.drewN m3 = w3 at HL K3 ⊢
  clear h2 h3 hlen
  go_wp2_with fail
  refine HL.out.mono ?_; rintro e w4 ⟨rfl, m4, rfl⟩
  go_wp2_with fail
  go_ret
  exact ⟨rfl, K3.drewN _⟩
theorem folbest_w (W : World) (v0 : Value) (l0 : List UInt8) (h0 : Bs W v0 l0) : Calls Try.prog 3 #[v0] W fun e w' => e = .returned (.bool true) ∧ Keep [] W w' := by
  go_enter Try.func3, Try.ntmps3
  go_wp2_with fail
  refine (cut_c W v0 l0 200 (by decide) h0).mono ?_; rintro e w1 ⟨v1, rfl, h1, -, rfl⟩
  have hlen : (l0.take 200).length ≤ 1000000 := by rw [List.length_take]; omega
  generalize l0.take 200 = l at h1 hlen
  clear h0
  go_wp2_with fail
  refine (fol_best W v1 l h1 hlen).mono ?_; rintro e w2 ⟨V, rfl, h2, k2⟩
  go_wp2_with fail
  refine (plain12_c w2 V _ h2).mono ?_; rintro e w3 ⟨q, rfl, h3, k3⟩
  have h1' := (h1.keep k2 (by simp)).keep k3 (by simp)
  go_wp2_with fail
  refine (best12_c w3 v1 l h1' hlen).mono ?_; rintro e w4 ⟨q', rfl, h4, k4⟩
  have h3' := h3.keep k4
  go_wp2_with fail
  refine (same12_c w4 q q' _ h3' h4).mono ?_; rintro e w5 ⟨rfl, k5⟩
  go_wp2_with fail
  refine (lives12_c w5).mono ?_; rintro e w6 ⟨rfl, k6⟩
  go_wp2_with fail
  go_ret
  exact ⟨rfl, ((((k2.trans k3 (by simp)).trans k4 (by simp)).trans k5 (by simp)).trans k6 (by simp))⟩
end Go.Proofs.Ytlnknnmlepgjfaa
