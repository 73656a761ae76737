/- The laws' lives of layer 13, and the walks of DleNobody and DleEncodes. -/
import Derived.Test.YtmafgamacijdaaaDleEnc
import Derived.Test.YtmafgamacijdaaaRefDle3
import Derived.Test.YtmafgamacijdaaaRefKit
namespace Go.Proofs.Ytmafgamacijdaaa
set_option linter.unusedVariables false
set_option linter.unusedSimpArgs false
set_option maxRecDepth 100000
open Go.ChangeShapes Go.WideShapes Go.ChangeAt Go.RowKit

theorem live13a : (⟨1, ⟨65536, 1, true, []⟩, 0, 0, 0⟩ : MS).feed 144 = (0, ⟨1, ⟨65536, 1, true, []⟩, 1, 0, 0⟩) := rfl
theorem live13b : (⟨1, ⟨65536, 1, true, []⟩, 1, 0, 0⟩ : MS).feed 0 = (0, ⟨1, ⟨65536, 1, true, [144]⟩, 0, 0, 0⟩) := rfl
theorem lives13_c (w : World) : Calls Try.prog 18 #[] w fun e w' => e = .returned (.bool true) ∧ Keep [] w w' := by
  go_enter Try.func18, Try.ntmps18
  go_wp2_with fail
  refine (dl_new w 1 1 (by decide) (by decide) (by decide)).mono ?_; rintro e w1 ⟨q, bs, rfl, h1, k1, b1⟩
  have H1 := dl_feed w1 q bs _ 144 h1 (by simp)
  rw [live13a] at H1
  have HH1 := Lib.hid H1; clear H1
  go_wp2_with fail
  refine HH1.out.mono ?_; rintro e w2 ⟨rfl, bs2, h2, k2, b2⟩
  have H2 := dl_feed w2 q bs2 _ 0 h2 (by simp)
  rw [live13b] at H2
  have HH2 := Lib.hid H2; clear H2
  go_wp2_with fail
  refine HH2.out.mono ?_; rintro e w3 ⟨rfl, bs3, h3, k3, b3⟩
  have hf : (⟨1, ⟨65536, 1, true, [144]⟩, 0, 0, 0⟩ : MS).full = true := rfl
  have H3 := dl_full w3 q bs3 _ h3
  rw [hf] at H3
  have HH3 := Lib.hid H3; clear H3 hf
  have K2 : Keep [] w w2 := k1.trans k2 (fun z hz => .inr (b1 z hz))
  have K3 : Keep [] w w3 := K2.trans k3 (fun z hz => .inr (by
    rcases b2 z hz with h | h
    · exact b1 z h
    · have := k1.size; omega))
  go_wp2_with fail
  refine HH3.out.mono ?_; rintro e w4 ⟨rfl, n4, rfl⟩
  have h4 := h3.keep ((Keep.refl [] w3).drewN n4) (by simp)
  have K4 := K3.drewN n4
  generalize w3.drewN n4 = w4 at h4 K4 ⊢
  go_wp2_with fail
  refine (dl_bytes w4 q bs3 _ h4 (by simp)).mono ?_; rintro e w5 ⟨v5, rfl, h5, k5, o5⟩
  obtain ⟨a5, c5, rfl, _⟩ := h5.shape
  go_wp2_with fail
  go_ret
  exact ⟨rfl, K4.trans k5 (by simp)⟩
set_option maxHeartbeats 1000000 in
theorem dlnobody_w (W : World) (c0 : Int) (hc : (Lit.int .u8 c0).wf = true) : Calls Try.prog 7 #[.int .u8 c0] W fun e w' => e = .returned (.bool true) ∧ Keep [] W w' := by
  obtain ⟨c, rfl⟩ : ∃ c : UInt8, c0 = c.toNat := by
    have h : 0 ≤ c0 ∧ c0 ≤ 255 := by simpa [Lit.wf, IntKind.min, IntKind.max, IntKind.bits, IntKind.signed] using hc
    exact ⟨UInt8.ofNat c0.toNat, by rw [UInt8.toNat_ofNat']; omega⟩
  have hz := (zero_of_info (P := Try.prog) dlInfo).1
  have HPZ := Lib.hid dlz_plain
  generalize dlz = Z at hz HPZ
  clear hc
  go_enter Try.func7, Try.ntmps7
  go_wp2_with fail
  have K1 : Keep [] W (W.alloc (.cells Z 54)) := (Keep.refl [] W).alloc _
  have hP := HPZ.out _ _ (Blk.new W Z 54)
  obtain ⟨q, hq⟩ : ∃ q, W.heap.size = q := ⟨_, rfl⟩
  rw [hq] at hP ⊢
  clear hq
  generalize W.alloc (.cells Z 54) = w1 at K1 hP ⊢
  have HP := Lib.hid (fun w' (k : Keep [] w1 w') => hP.keep k (by simp))
  refine (dl_feed_none w1 c).mono ?_; rintro e w2 ⟨rfl, n2, rfl⟩
  go_wp2_with fail
  refine (dl_feed_plain _ q c (HP.out _ ((Keep.refl _ _).drewN _))).mono ?_; rintro e w3 ⟨rfl, n3, rfl⟩
  go_wp2_with fail
  refine (dl_bytes_none _).mono ?_; rintro e w4 ⟨v4, rfl, h4, k4⟩
  have K4 : Keep [] w1 w4 := ((Keep.refl [] w1).drewN _).trans k4 (by simp)
  obtain ⟨a4, c4, rfl, _⟩ := h4.shape
  go_wp2_with fail
  refine (dl_bytes_plain w4 q (HP.out _ K4)).mono ?_; rintro e w5 ⟨v5, rfl, h5, k5⟩
  have K5 : Keep [] w1 w5 := K4.trans k5 (by simp)
  obtain ⟨a5, c5, rfl, _⟩ := h5.shape
  go_wp2_with fail
  refine (dl_full_none w5).mono ?_; rintro e w6 ⟨rfl, n6, rfl⟩
  go_wp2_with fail
  refine (dl_full_plain _ q (HP.out _ (K5.drewN _))).mono ?_; rintro e w7 ⟨rfl, n7, rfl⟩
  go_wp2_with fail
  refine (dl_rest_none _).mono ?_; rintro e w8 ⟨rfl, n8, rfl⟩
  go_wp2_with fail
  refine (dl_rest_plain _ q (HP.out _ (K5.drewN _))).mono ?_; rintro e w9 ⟨rfl, n9, rfl⟩
  go_wp2_with fail
  refine (lives13_c _).mono ?_; rintro e w10 ⟨rfl, k10⟩
  go_wp2_with fail
  go_ret
  exact ⟨rfl, (K1.trans (K5.drewN _) (by simp)).trans k10 (by simp)⟩
set_option maxHeartbeats 1000000 in
theorem dlencodes_w (W : World) (v0 : Value) (l0 : List UInt8) (h0 : Bs W v0 l0) (f : Int) (hf : (Lit.int .i64 f).wf = true) : Calls Try.prog 4 #[v0, .int .i64 f] W fun e w' => e = .returned (.bool true) ∧ Keep [] W w' := by
  have key : ∀ (w2 : World) (v2 : Value) (l : List UInt8), Bs w2 v2 l → l.length ≤ 250 → ∃ (X : List UInt8) (er : Nat), (Calls Try.prog 20 #[v2, .int .i64 f] w2 fun e w' => ∃ v', e = .returned (.tuple #[v', .int .i64 er]) ∧ Bs w' v' X ∧ Keep [] w2 w') ∧
      (∀ w3 v3, Bs w3 v3 l → Calls Try.prog 21 #[v3, .int .i64 f] w3 fun e w' => ∃ v', e = .returned (.tuple #[v', .int .i64 er]) ∧ Bs w' v' X ∧ Keep [] w3 w') := by
    intro w2 v2 l hb hl
    by_cases hbad : f < 1 ∨ 4 < f
    · refine ⟨[], 2, dl_encode_bad w2 v2 l f hb hbad, fun w3 v3 hb3 => (refenc13_bad w3 v3 f hbad).mono ?_⟩
      rintro e w' ⟨rfl, rfl⟩
      exact ⟨_, rfl, Bs.nil _, Keep.refl _ _⟩
    · obtain ⟨n, rfl⟩ : ∃ n : Nat, f = n := ⟨f.toNat, by omega⟩
      refine ⟨enc13 n l, 0, dl_encode w2 v2 l n hb (by omega) (by omega) (by omega), fun w3 v3 hb3 => (refenc13_c w3 v3 l n hb3 (by omega) (by omega) (by omega)).mono ?_⟩
      rintro e w' ⟨v', rfl, ho, hk, _⟩
      exact ⟨v', rfl, ho.bs, hk⟩
  have HKEY := Lib.hid key; clear key
  go_enter Try.func4, Try.ntmps4
  go_wp2_with fail
  refine (cut_c W v0 l0 250 (by decide) h0).mono ?_; rintro e w1 ⟨v1, rfl, h1, -, rfl⟩
  have hlen : (l0.take 250).length ≤ 250 := by rw [List.length_take]; omega
  generalize l0.take 250 = l at h1 hlen
  clear h0
  go_wp2_with fail
  refine (copy_c W v1 l (by omega) h1).mono ?_; rintro e w2 ⟨v2, rfl, h2, k2, b2⟩
  have h1' := h1.keep k2 (by simp)
  obtain ⟨X, er, c1, c2⟩ := HKEY.out w2 v2 l h2.bs hlen
  have HC1 := Lib.hid c1; have HC2 := Lib.hid c2; clear c1 c2
  go_wp2_with fail
  refine HC1.out.mono ?_; rintro e w3 ⟨v3, rfl, h3, k3⟩
  have h1'' := h1'.keep k3 (by simp)
  have h2' := h2.bs.keep k3 (by simp)
  go_wp2_with fail
  refine (HC2.out w3 v1 h1'').mono ?_; rintro e w4 ⟨v4, rfl, h4, k4⟩
  have h3' := h3.keep k4 (by simp)
  have g1 := h1''.keep k4 (by simp)
  have g2 := h2'.keep k4 (by simp)
  have KK : Keep [] W w4 := ((k2.trans k3 (by simp)).trans k4 (by simp))
  have s1 := same_c w4 v3 v4 X X h3' h4
  simp only [decide_true] at s1
  have HS1 := Lib.hid s1; clear s1
  go_wp2_with fail
  refine HS1.out.mono ?_; rintro e w5 ⟨rfl, n5, rfl⟩
  have s2 := same_c (w4.drewN n5) v2 v1 l l (g2.keep ((Keep.refl [] w4).drewN n5) (by simp)) (g1.keep ((Keep.refl [] w4).drewN n5) (by simp))
  simp only [decide_true] at s2
  have HS2 := Lib.hid s2; clear s2
  go_wp2_with fail
  refine HS2.out.mono ?_; rintro e w6 ⟨rfl, n6, rfl⟩
  have K6 : Keep [] W ((w4.drewN n5).drewN n6) := (KK.drewN _).drewN _
  generalize (w4.drewN n5).drewN n6 = w6 at K6 ⊢
  go_wp2_with fail
  refine (lives13_c w6).mono ?_; rintro e w7 ⟨rfl, k7⟩
  go_wp2_with fail
  go_ret
  exact ⟨rfl, K6.trans k7 (by simp)⟩
end Go.Proofs.Ytmafgamacijdaaa
