/- Contract of lives of layer 7, and the walk of the law HistNobody: it returns true at every input. -/
import Derived.Test.YtciifhhjhmlnjaaHst
import Derived.Test.YtciifhhjhmlnjaaOpen
namespace Go.Proofs.Ytciifhhjhmlnjaa
set_option linter.unusedVariables false
set_option linter.unusedSimpArgs false
open Go.ChangeShapes Go.WideShapes Go.ChangeAt Go.RowKit

theorem HoStep.step {W w w' : World} {q : Nat} {bs : List Nat} {s' : HS} (h : HoStep w w' q bs s') (k : Keep [] W w) (hb : ∀ b ∈ bs, W.heap.size ≤ b) : ∃ bs', Ho w' q bs' s' ∧ Keep [] W w' ∧ (∀ b ∈ bs', W.heap.size ≤ b) ∧ Keep bs w w' ∧ ∀ b ∈ bs', b ∈ bs ∨ w.heap.size ≤ b := by
  obtain ⟨bs', h1, h2, h3⟩ := h
  have hs := k.size
  refine ⟨bs', h1, k.trans h2 (fun x hx => .inr (hb x hx)), fun b hb' => ?_, h2, h3⟩
  rcases h3 b hb' with h | h
  · exact hb b h
  · omega
theorem Ho.drewN {w : World} {q : Nat} {bs : List Nat} {s : HS} (h : Ho w q bs s) (n : Nat) : Ho (w.drewN n) q bs s := h.keep ((Keep.refl [] w).drewN n) (by simp)
theorem lives7_1 : (⟨9, 9, false, []⟩ : HS).lit 7 = (0, ⟨9, 9, false, [7]⟩) := rfl
theorem lives7_2 : (⟨9, 9, false, [7]⟩ : HS).copy 1 2 = (0, ⟨9, 9, false, [7, 7, 7]⟩) := rfl
set_option maxHeartbeats 1000000 in
theorem lives7_c (w : World) : Calls Try.prog 18 #[] w fun e w' => e = .returned (.bool true) ∧ Keep [] w w' := by
  have HN := Lib.hid (hs_new w 9 9 false (by omega) (by omega))
  go_enter Try.func18, Try.ntmps18
  go_wp2_with fail
  refine HN.out.mono ?_; rintro e w1 ⟨p, er, rfl, k1, _, hok⟩
  obtain ⟨rfl, q, bs, rfl, hq, hb⟩ := hok (by unfold hsBad; omega)
  clear hok HN
  have H1 := Lib.hid (hs_lit w1 q bs _ 7 hq (by simp))
  rw [show (⟨(9 : Int).toNat, (9 : Int).toNat, false, []⟩ : HS) = ⟨9, 9, false, []⟩ from rfl, lives7_1] at H1
  clear hq
  go_wp2_with fail
  refine H1.out.mono ?_; rintro e w2 ⟨rfl, hs⟩
  obtain ⟨bs2, hq2, K2, hb2, _, _⟩ := hs.step k1 hb
  clear hs k1 hb H1
  have H2 := Lib.hid (hs_copy w2 q bs2 _ 1 2 hq2 (by decide) (by decide) (by decide))
  rw [lives7_2] at H2
  clear hq2
  go_wp2_with fail
  refine H2.out.mono ?_; rintro e w3 ⟨rfl, hs⟩
  obtain ⟨bs3, hq3, K3, hb3, _, _⟩ := hs.step K2 hb2
  clear hs K2 hb2 H2
  have H3 := Lib.hid (hs_len w3 q bs3 _ hq3)
  clear hq3
  go_wp2_with fail
  refine H3.out.mono ?_; rintro e w4 ⟨rfl, n, rfl⟩
  go_wp2_with fail
  go_ret
  exact ⟨rfl, K3.drewN n⟩
set_option maxRecDepth 100000 in
set_option maxHeartbeats 4000000 in
theorem hnobody_w (W : World) (a : Int) (ha : (Lit.int .u8 a).wf = true) (d : Int) (hd : (Lit.int .i64 d).wf = true) (n : Int) (hn : (Lit.int .i64 n).wf = true) : Calls Try.prog 7 #[.int .u8 a, .int .i64 d, .int .i64 n] W fun e w' => e = .returned (.bool true) ∧ Keep [] W w' := by
  have hz := (zero_of_info (P := Try.prog) hoInfo).1
  have HPZ := Lib.hid hoz_plain
  have hu := u8_of_wf ha
  generalize UInt8.ofNat a.toNat = c at hu
  rw [← hu]
  clear hu ha
  generalize hoz = Z at hz HPZ
  go_enter Try.func7, Try.ntmps7
  go_wp2_with fail
  refine (hs_lit_none _ c).mono ?_; rintro e w1 ⟨rfl, rfl⟩
  have hP := HPZ.out _ _ (Blk.new W Z 49)
  have K1 : Keep [] W (W.alloc (.cells Z 49)) := (Keep.refl [] W).alloc _
  generalize W.alloc (.cells Z 49) = w1 at hP K1 ⊢
  generalize W.heap.size = q at hP ⊢
  have HP := Lib.hid (fun w' (k : Keep [] w1 w') => hP.keep k (by simp))
  clear hP
  go_wp2_with fail
  refine (hs_lit_plain _ q c (HP.out _ (Keep.refl _ _))).mono ?_; rintro e w2 ⟨rfl, n2, rfl⟩
  go_wp2_with fail
  refine (hs_copy_none _ d n hd hn).mono ?_; rintro e w2 ⟨rfl, rfl⟩
  go_wp2_with fail
  refine (hs_copy_plain _ q d n (HP.out _ ((Keep.refl _ _).drewN _)) hd hn).mono ?_; rintro e w3 ⟨rfl, n3, rfl⟩
  go_wp2_with fail
  refine (hs_bytes_none _).mono ?_; rintro e w4 ⟨v4, rfl, hv4, k4⟩
  have K4 : Keep [] w1 w4 := ((Keep.refl [] w1).drewN _).trans k4 (by simp)
  obtain ⟨a4, c4, rfl, _⟩ := hv4.shape
  clear k4 hv4
  go_wp2_with fail
  refine (hs_bytes_plain _ q (HP.out _ K4)).mono ?_; rintro e w5 ⟨v5, rfl, hv5, k5⟩
  have K5 : Keep [] w1 w5 := K4.trans k5 (by simp)
  obtain ⟨a5, c5, rfl, _⟩ := hv5.shape
  clear k5 hv5 K4
  go_wp2_with fail
  refine (hs_len_none _).mono ?_; rintro e w6 ⟨rfl, rfl⟩
  go_wp2_with fail
  refine (hs_len_plain _ q (HP.out _ K5)).mono ?_; rintro e w7 ⟨rfl, n7, rfl⟩
  go_wp2_with fail
  refine (hs_full_none _).mono ?_; rintro e w8 ⟨rfl, n8, rfl⟩
  go_wp2_with fail
  refine (hs_full_plain _ q (HP.out _ (K5.drewN _))).mono ?_; rintro e w9 ⟨rfl, n9, rfl⟩
  go_wp2_with fail
  refine (lives7_c _).mono ?_; rintro e w10 ⟨rfl, k10⟩
  go_wp2_with fail
  go_ret
  exact ⟨rfl, (K1.trans (K5.drewN _) (by simp)).trans k10 (by simp)⟩
end Go.Proofs.Ytciifhhjhmlnjaa
