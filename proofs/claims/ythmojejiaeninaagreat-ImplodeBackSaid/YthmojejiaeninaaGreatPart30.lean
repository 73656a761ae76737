/- Texts put together: ImpLaw1 ImpLaw2 -/
import Derived.Test.YthmojejiaeninaaGreatPart27
import Derived.Test.YthmojejiaeninaaGreatPart22
import Derived.Test.YthmojejiaeninaaGreatPart7
import Derived.Test.YthmojejiaeninaaGreatPart5
import Derived.Test.YthmojejiaeninaaGreatPart29
import Derived.Lib.SlBytesConst
import Derived.Test.YthmojejiaeninaaGreatPart12
import Derived.Test.YthmojejiaeninaaGreatPart8
namespace Go.Proofs.YthmojejiaeninaaGreat
set_option linter.unusedVariables false
set_option linter.unusedSimpArgs false
set_option maxRecDepth 100000
open Go.ChangeShapes Go.WideShapes Go.ChangeAt Go.RowKit

theorem hello_len : (found [104, 101, 108, 108, 111] (sh16 false true)).length = 5 := by decide +kernel
set_option maxHeartbeats 2000000 in
theorem lives16_c (w : World) : Calls Tryz.prog 12 #[] w fun e w' => e = .returned (.bool true) ∧ Keep [] w w' := by
  have H := Lib.hid (fun ww v (hb : Bs ww v [104, 101, 108, 108, 111]) => imp_encode ww v [104, 101, 108, 108, 111] false true hb (by decide))
  have HD := Lib.hid (fun ww v l (hb : Bs ww v l) (hl : l.length ≤ 100000) => exp_decode ww v l false true 5 hb hl (by decide))
  have HE := Lib.hid (fun x y z (h : [(104 : UInt8), 101, 108, 108, 111].length ≠ 0 → T16 false true (found [104, 101, 108, 108, 111] (sh16 false true)) x y z) => enc16_len [104, 101, 108, 108, 111] false true x y z h)
  have HDD := Lib.hid (fun x y z (h : [(104 : UInt8), 101, 108, 108, 111].length ≠ 0 → T16 false true (found [104, 101, 108, 108, 111] (sh16 false true)) x y z) => dec16 [104, 101, 108, 108, 111] false true x y z h)
  rw [hello_len] at HDD
  have hcv := fun C => Lib.run_convert_bytes_const (P := Tryz.prog) w 22 5 C 5 5 Tryz.underlying22 Tryz.underlying5
  have hb : Bs (w.alloc (.cells #[.int .u8 104, .int .u8 101, .int .u8 108, .int .u8 108, .int .u8 111] 5 (5, 6))) (.slice (some ⟨w.heap.size, 0, none⟩) 5 5) [104, 101, 108, 108, 111] := Bs.litF w _ _ 5 (5, 6) rfl rfl (by decide)
  have HK := Lib.hid (((Keep.refl [] w).alloc (.cells #[.int .u8 104, .int .u8 101, .int .u8 108, .int .u8 108, .int .u8 111] 5 (5, 6))))
  have H1 := Lib.hid (H.out _ _ hb)
  clear hb H
  go_enter Tryz.func12, Tryz.ntmps12
  go_wp2_with fail
  refine H1.out.mono ?_; rintro e w2 ⟨v2, x, y, z, rfl, h2, k2, ht⟩
  have hl := HE.out x y z ht
  have hdd := HDD.out x y z ht
  have K2 := HK.out.trans k2 (by simp)
  generalize enc16 [104, 101, 108, 108, 111] false true x y z = L at h2 hl hdd
  have hl2 : L.length ≤ 100000 := by
    have : (392 : Nat) + 5 * [(104 : UInt8), 101, 108, 108, 111].length / 4 = 398 := rfl
    omega
  have h5 : (([(104 : UInt8), 101, 108, 108, 111].length : Nat) : Int) = 5 := rfl
  rw [h5] at hdd
  have hd := HD.out w2 v2 L h2 hl2
  rw [hdd] at hd
  dsimp only at hd
  have HD2 := Lib.hid hd
  clear hl hdd hl2 h5 hd HD HE HDD H1 HK ht h2 k2 hcv
  go_wp2_with fail
  refine HD2.out.mono ?_; rintro e w5 ⟨v5, rfl, h5, k5⟩
  have hx : (convert 22 9 v5).run Tryz.prog w5 = .ok (.string { data := #[104, 101, 108, 108, 111] }) w5 := h5.text
  have K5 := K2.trans k5 (by simp)
  obtain ⟨a5, c5, rfl, _⟩ := h5.shape
  have hx5 : (convert 22 9 (.slice a5 5 c5)).run Tryz.prog w5 = .ok (.string { data := #[104, 101, 108, 108, 111] }) w5 := hx
  clear HD2 h5 k5 K2 hx
  go_wp2_with fail
  go_ret
  exact ⟨rfl, K5⟩
set_option maxHeartbeats 2000000 in
theorem impwrites_w (W : World) (v0 : Value) (l0 : List UInt8) (h0 : Bs W v0 l0) (large : Bool) (trees : Bool) : Calls Tryz.prog 4 #[v0, .bool large, .bool trees] W fun e w' => e = .returned (.bool true) ∧ Keep [] W w' := by
  have HWRT := Lib.hid (refwrite15_c (large := large) (trees := trees))
  have HEN := Lib.hid (fun w v b hb hl => imp_encode w v b large trees hb hl)
  have HTK := Lib.hid (fun w v b hb hl => imp_tokens w v b large trees hb hl)
  have HTR := Lib.hid (fun w v ts h hf hn => imp_trees w v ts large trees h hf hn)
  go_enter Tryz.func4, Tryz.ntmps4
  go_wp2_with fail
  refine (cut_c W v0 l0 300 (by decide) h0).mono ?_; rintro e w1 ⟨v1, rfl, h1, -, rfl⟩
  have hlen : (l0.take 300).length ≤ 300 := by rw [List.length_take]; omega
  generalize l0.take 300 = l at h1 hlen
  clear h0
  obtain ⟨a1, c1, rfl, _⟩ := h1.shape
  have hen := HEN.out W _ l h1 (by omega)
  unfold enc16 at hen
  have HEN2 := Lib.hid hen
  have H1 := Lib.hid h1
  clear hen HEN h1
  go_wp2_with fail
  refine HEN2.out.mono ?_; rintro e w2 ⟨v2, x, y, z, rfl, h2, k2, ht⟩
  have HK2 := Lib.hid k2
  by_cases hl0 : l.length = 0
  · rw [if_pos hl0] at h2
    have z1 : ((l.length : Int) == 0) = true := by rw [hl0]; rfl
    have z2 : (l.length == 0) = true := by rw [hl0]; rfl
    obtain ⟨a2, c2, rfl, _⟩ := h2.shape
    clear HEN2 h2 k2 ht hl0
    go_wp2_with fail
    refine (lives16_c _).mono ?_; rintro e w3 ⟨rfl, k3⟩
    go_wp2_with fail
    go_ret
    exact ⟨rfl, HK2.out.trans k3 (by simp)⟩
  · rw [if_neg hl0] at h2
    have HT := Lib.hid (ht hl0)
    have z1 : ((l.length : Int) == 0) = false := by rw [beq_eq_false_iff_ne]; omega
    have z2 : (l.length == 0) = false := by rw [beq_eq_false_iff_ne]; omega
    have hfl := found16_len l large trees
    have hfk := found16 l large trees
    have hfit : fitsT (found l (sh16 large trees)) (sh16 large trees) = true := fd_fits (sh16_ok large trees) _ _
    have htk := HTK.out w2 _ l (H1.out.keep k2 (by simp)) (by omega)
    obtain ⟨ts, hts⟩ : ∃ ts, found l (sh16 large trees) = ts := ⟨_, rfl⟩
    rw [hts] at h2 htk hfl hfk hfit HT
    have HTK2 := Lib.hid htk
    have H2 := Lib.hid h2
    have HFK := Lib.hid hfk; have HFIT := Lib.hid hfit; have HFL := Lib.hid hfl
    obtain ⟨a2, c2, rfl, _⟩ := h2.shape
    clear HEN2 h2 k2 ht hl0 htk HTK hts hfl hfk hfit
    go_wp2_with fail
    refine HTK2.out.mono ?_; rintro e w3 ⟨v3, rfl, h3, k3⟩
    obtain ⟨a3, c3, rfl, _⟩ := h3.sh
    have htr := Lib.hid (HTR.out w3 _ ts h3 HFIT.out (by have := HFL.out; omega))
    have H3 := Lib.hid h3
    have HK3 := Lib.hid (HK2.out.trans k3 (by simp))
    have H23 := Lib.hid (H2.out.keep k3 (by simp))
    clear HTK2 h3 k3 HTR H2 HK2
    go_wp2_with fail
    refine htr.out.mono ?_; rintro e w4 ⟨vx, vy, vz, x', y', z', rfl, hx, hy, hz, k4, ht'⟩
    obtain ⟨rfl, rfl, rfl⟩ := HT.out.one ht'
    obtain ⟨o1, o2, o3⟩ := ht'.ok
    have hw := Lib.hid (HWRT.out w4 vx vy vz _ x y z ts hx hy hz (H3.out.keep k4 (by simp)) o1 o2 o3 HFK.out (by have := HFL.out; omega))
    have HK4 := Lib.hid (HK3.out.trans k4 (by simp))
    have H24 := Lib.hid (H23.out.keep k4 (by simp))
    obtain ⟨ax, cx, rfl, _⟩ := hx.sh
    obtain ⟨ay, cy, rfl, _⟩ := hy.sh
    obtain ⟨az, cz, rfl, _⟩ := hz.sh
    generalize wr15 trees (low15 large) (least15 trees) (Ln x) (Ln y) (Ln z) ts = L at *
    clear htr hx hy hz k4 ht' o1 o2 o3 HT HWRT HFK HFIT HFL H3 HK3 H23
    go_wp2_with fail
    refine hw.out.mono ?_; rintro e w5 ⟨v5, rfl, h5, k5⟩
    have s1 := same_c w5 _ v5 L L (H24.out.keep k5 (by simp)) h5
    simp only [decide_true] at s1
    have HS1 := Lib.hid s1
    have K5 := HK4.out.trans k5 (by simp)
    clear hw h5 k5 s1 H24 HK4
    go_wp2_with fail
    refine HS1.out.mono ?_; rintro e w6 ⟨rfl, n6, rfl⟩
    go_wp2_with fail
    refine (lives16_c _).mono ?_; rintro e w7 ⟨rfl, k7⟩
    go_wp2_with fail
    go_ret
    exact ⟨rfl, (K5.drewN n6).trans k7 (by simp)⟩
set_option maxHeartbeats 4000000 in
theorem impback_w (W : World) (v0 : Value) (l0 : List UInt8) (h0 : Bs W v0 l0) (large : Bool) (trees : Bool) : Calls Tryz.prog 5 #[v0, .bool large, .bool trees] W fun e w' => e = .returned (.bool true) ∧ Keep [] W w' := by
  have HEN := Lib.hid (fun w v b hb hl => imp_encode w v b large trees hb hl)
  have HD1 := Lib.hid (fun w v b size hb hl hs => exp_decode w v b large trees size hb hl hs)
  have HD2 := Lib.hid (fun w v b size hb hl hs => refdec15_c w v b large trees size hb hl hs)
  go_enter Tryz.func5, Tryz.ntmps5
  go_wp2_with fail
  refine (cut_c W v0 l0 2500 (by decide) h0).mono ?_; rintro e w1 ⟨v1, rfl, h1, -, rfl⟩
  have hlen : (l0.take 2500).length ≤ 2500 := by rw [List.length_take]; omega
  generalize l0.take 2500 = l at h1 hlen
  clear h0
  obtain ⟨a1, c1, rfl, _⟩ := h1.shape
  go_wp2_with fail
  refine (copy_c W _ l (by omega) h1).mono ?_; rintro e w2 ⟨v2, rfl, h2, k2, _⟩
  have H1 := Lib.hid (h1.keep k2 (by simp))
  have H2 := Lib.hid h2.bs
  have HEN2 := Lib.hid (HEN.out w2 v2 l h2.bs (by omega))
  have HK2 := Lib.hid k2
  obtain ⟨a2, c2, hv2, _⟩ := h2.bs.shape
  subst hv2
  clear HEN h1 h2 k2
  go_wp2_with fail
  refine HEN2.out.mono ?_; rintro e w3 ⟨v3, x, y, z, rfl, h3, k3, ht⟩
  have hL := enc16_len l large trees x y z ht
  have hdd := dec16 l large trees x y z ht
  generalize enc16 l large trees x y z = L at h3 hL hdd
  generalize (found l (sh16 large trees)).length = n at hdd
  have d1 := fun w v (hb : Bs w v L) => HD1.out w v L (l.length : Int) hb (by omega) (by simp [Lit.wf, IntKind.min, IntKind.max, IntKind.bits, IntKind.signed]; omega)
  have d2 := fun w v (hb : Bs w v L) => HD2.out w v L (l.length : Int) hb (by omega) (by simp [Lit.wf, IntKind.min, IntKind.max, IntKind.bits, IntKind.signed]; omega)
  rw [hdd] at d1 d2
  dsimp only at d1 d2
  have hd1 := Lib.hid (d1 w3 v3 h3)
  have D2 := Lib.hid d2
  have H3 := Lib.hid h3
  have HK3 := Lib.hid (HK2.out.trans k3 (by simp))
  have H13 := Lib.hid (H1.out.keep k3 (by simp))
  have H23 := Lib.hid (H2.out.keep k3 (by simp))
  obtain ⟨a3, c3, rfl, _⟩ := h3.shape
  clear HEN2 ht hdd d1 d2 HD1 HD2 h3 k3 H1 H2 HK2
  go_wp2_with fail
  refine hd1.out.mono ?_; rintro e w4 ⟨v4, rfl, h4, k4⟩
  have h4 : Bs w4 v4 l := h4
  have hd2 := Lib.hid (D2.out w4 _ (H3.out.keep k4 (by simp)))
  have HK4 := Lib.hid (HK3.out.trans k4 (by simp))
  have H14 := Lib.hid (H13.out.keep k4 (by simp))
  have H24 := Lib.hid (H23.out.keep k4 (by simp))
  have H44 := Lib.hid h4
  obtain ⟨a4, c4, rfl, _⟩ := h4.shape
  clear hd1 D2 H3 k4 HK3 H13 H23 h4
  go_wp2_with fail
  refine hd2.out.mono ?_; rintro e w5 ⟨v5, rfl, h5, k5⟩
  have h5 : Bs w5 v5 l := h5
  have HK5 := Lib.hid (HK4.out.trans k5 (by simp))
  have H15 := Lib.hid (H14.out.keep k5 (by simp))
  have H25 := Lib.hid (H24.out.keep k5 (by simp))
  have H45 := Lib.hid (H44.out.keep k5 (by simp))
  have H55 := Lib.hid h5
  obtain ⟨a5, c5, rfl, _⟩ := h5.shape
  clear hd2 k5 HK4 H14 H24 H44 h5
  have s1 := same_c w5 _ _ l l H45.out H15.out
  have s2 := fun m => same_c (w5.drewN m) _ _ l l (H55.out.keep ((Keep.refl [] w5).drewN m) (by simp)) (H15.out.keep ((Keep.refl [] w5).drewN m) (by simp))
  have s3 := fun m => same_c (w5.drewN m) _ _ l l (H25.out.keep ((Keep.refl [] w5).drewN m) (by simp)) (H15.out.keep ((Keep.refl [] w5).drewN m) (by simp))
  simp only [decide_true] at s1 s2 s3
  have S1 := Lib.hid s1; have S2 := Lib.hid s2; have S3 := Lib.hid s3
  clear s1 s2 s3 H15 H25 H45 H55
  go_wp2_with fail
  refine S1.out.mono ?_; rintro e w6 ⟨rfl, n6, rfl⟩
  go_wp2_with fail
  refine (S2.out n6).mono ?_; rintro e w7 ⟨rfl, n7, rfl⟩
  go_wp2_with fail
  refine (S3.out (n6 + n7)).mono ?_; rintro e w8 ⟨rfl, n8, rfl⟩
  have hmul : IntKind.i64.wrap (5 * (l.length : Int)) = 5 * (l.length : Int) := by rw [IntKind.wrap_i64]; omega
  have q1 : (5 * (l.length : Int)) / 4 = ((5 * l.length / 4 : Nat) : Int) := by omega
  have q2 : IntKind.i64.wrap (392 + (5 * (l.length : Int)) / 4) = 392 + (5 * (l.length : Int)) / 4 := by rw [IntKind.wrap_i64]; omega
  have q3 : decide ((L.length : Int) ≤ 392 + (5 * (l.length : Int)) / 4) = true := by simp; omega
  have q4 : (L.length : Int) ≤ 392 + (5 * (l.length : Int)) / 4 := by omega
  clear S1 S2 S3 q1
  go_wp2_with fail
  refine (lives16_c _).mono ?_; rintro e w9 ⟨rfl, k9⟩
  go_wp2_with fail
  go_ret
  exact ⟨rfl, by first | exact (HK5.out.drewN _).trans k9 (by simp) | exact ((HK5.out.drewN _).drewN _).trans k9 (by simp)⟩
end Go.Proofs.YthmojejiaeninaaGreat
namespace Go.Proofs.YthmojejiaeninaaGreat
set_option linter.unusedVariables false
set_option linter.unusedSimpArgs false
set_option maxRecDepth 100000
open Go.ChangeShapes Go.WideShapes Go.ChangeAt Go.RowKit

set_option maxHeartbeats 2000000 in
theorem imptokens_w (W : World) (v0 : Value) (l0 : List UInt8) (h0 : Bs W v0 l0) (large : Bool) (trees : Bool) : Calls Tryz.prog 3 #[v0, .bool large, .bool trees] W fun e w' => e = .returned (.bool true) ∧ Keep [] W w' := by
  have HTK := Lib.hid (fun w v b hb hl => imp_tokens w v b large trees hb hl)
  have HRT := Lib.hid (fun w v b hb hl => reftokens16_c w v b large trees hb hl)
  go_enter Tryz.func3, Tryz.ntmps3
  go_wp2_with fail
  refine (cut_c W v0 l0 200 (by decide) h0).mono ?_; rintro e w1 ⟨v1, rfl, h1, -, rfl⟩
  have hlen : (l0.take 200).length ≤ 200 := by rw [List.length_take]; omega
  generalize l0.take 200 = l at h1 hlen
  clear h0
  obtain ⟨a1, c1, rfl, _⟩ := h1.shape
  go_wp2_with fail
  refine (copy_c W _ l (by omega) h1).mono ?_; rintro e w2 ⟨v2, rfl, h2, k2, _⟩
  have h2 := h2.bs
  have H1 := Lib.hid (h1.keep k2 (by simp))
  have H2 := Lib.hid h2
  have c1 := Lib.hid (HTK.out w2 v2 l h2 (by omega))
  have c2 := Lib.hid (fun w v (hb : Bs w v l) => HRT.out w v l hb (by omega))
  generalize found l (sh16 large trees) = ts at c1 c2
  obtain ⟨a2, d2, rfl, _⟩ := h2.shape
  have HK2 := Lib.hid k2
  clear HTK HRT h1 h2 k2
  go_wp2_with fail
  refine c1.out.mono ?_; rintro e w3 ⟨v3, rfl, h3, k3⟩
  obtain ⟨a3, d3, rfl, _⟩ := h3.sh
  have H3 := Lib.hid h3
  have HK3 := Lib.hid (HK2.out.trans k3 (by simp))
  have H13 := Lib.hid (H1.out.keep k3 (by simp))
  have H23 := Lib.hid (H2.out.keep k3 (by simp))
  clear h3 k3 c1 HK2 H1 H2
  go_wp2_with fail
  refine (c2.out w3 _ H13.out).mono ?_; rintro e w4 ⟨v4, rfl, h4, k4⟩
  have s1 := Lib.hid (refsame8_c w4 _ v4 ts (H3.out.keep k4 (by simp)) h4)
  obtain ⟨a4, d4, rfl, _⟩ := h4.sh
  have HK4 := Lib.hid (HK3.out.trans k4 (by simp))
  have H14 := Lib.hid (H13.out.keep k4 (by simp))
  have H24 := Lib.hid (H23.out.keep k4 (by simp))
  clear h4 k4 c2 HK3 H13 H23 H3
  go_wp2_with fail
  refine s1.out.mono ?_; rintro e w5 ⟨rfl, n5, rfl⟩
  have s2 := same_c (w4.drewN n5) _ _ l l (H24.out.keep ((Keep.refl [] w4).drewN n5) (by simp)) (H14.out.keep ((Keep.refl [] w4).drewN n5) (by simp))
  simp only [decide_true] at s2
  have S2 := Lib.hid s2
  clear s1 s2
  go_wp2_with fail
  refine S2.out.mono ?_; rintro e w6 ⟨rfl, n6, rfl⟩
  go_wp2_with fail
  refine (lives16_c _).mono ?_; rintro e w7 ⟨rfl, k7⟩
  go_wp2_with fail
  go_ret
  exact ⟨rfl, by first | exact (HK4.out.drewN _).trans k7 (by simp) | exact ((HK4.out.drewN _).drewN _).trans k7 (by simp)⟩
end Go.Proofs.YthmojejiaeninaaGreat
