/- Contract of follow's count. No condition beyond each theorem's own premises. -/
import Derived.Test.YtlnknnmlepgjfaaFol1
namespace Go.Proofs.Ytlnknnmlepgjfaa
open Sg
set_option linter.unusedVariables false
set_option linter.unusedSimpArgs false
set_option maxRecDepth 100000
open Go.ChangeShapes Go.WideShapes Go.ChangeAt Go.RowKit

theorem Gs.at2 {w : World} {v : Value} {xs : List SEl} (h : Gs ESl w v xs) (i : Nat) (hi : i < xs.length) : ∃ b off cap, v = .slice (some ⟨b, off, none⟩) xs.length cap ∧
    w.cell? ⟨b, off + i * 2, none⟩ = some (.int .u8 (gn xs i).1.toNat) ∧ w.cell? ⟨b, off + i * 2 + 1, none⟩ = some (.int .i64 (gn xs i).2) := by
  obtain ⟨b, off, cap, e, hc⟩ := h.at ESlg i hi
  refine ⟨b, off, cap, e, ?_, ?_⟩
  · have := hc 0 (by decide)
    rw [gn_eq _ _ hi]; exact this
  · have := hc 1 (by decide)
    rw [gn_eq _ _ hi]; exact this
/-- how many of the first i are best -/
theorem bestR_step {n : Nat → Nat} {R : List SEl} (h : Rk n R) (i : Nat) (hi : i < min 32 R.length) (l f c : Nat) (hl : l = bestR n R i) (hf : f = cst n ((topF n 32).take l) 256)
    (hc : c = 8 * (i + 1) + am R R.length + am R (i + 1) * widthN (i + 1) + (am R R.length - am R (i + 1)) * 8) :
    (c < f → i + 1 = bestR n R (i + 1) ∧ c = cst n ((topF n 32).take (i + 1)) 256) ∧ (¬ c < f → l = bestR n R (i + 1)) := by
  have hcc : c = cst n ((topF n 32).take (i + 1)) 256 := by
    rw [h.take (i + 1) (by omega), h.cost (i + 1) (by omega) (by omega), hc]
  subst hl hf
  unfold bestR
  simp only [bl]
  rw [← hcc]
  refine ⟨fun hlt => ?_, fun hlt => ?_⟩
  · rw [if_pos hlt]; exact ⟨rfl, rfl⟩
  · rw [if_neg hlt]
theorem bestR_zero {n : Nat → Nat} {R : List SEl} (h : Rk n R) : 0 = bestR n R 0 ∧ am R R.length * 8 = cst n ((topF n 32).take 0) 256 := by
  refine ⟨rfl, ?_⟩
  rw [List.take_zero, h.cost0, Nat.mul_comm]
set_option maxHeartbeats 4000000 in
theorem count_c (w : World) (v : Value) (n : Nat → Nat) (R : List SEl) (h : Gs ESl w v R) (hR : Rk n R) (hA : am R R.length ≤ 1000000000) : Calls Try.prog 25 #[v] w fun e w' => e = .returned (.int .i64 (bestR n R (min 32 R.length))) ∧ Keep [] w w' := by
  have HI := Lib.hid (fun w' (k : Keep [] w w') i hi => (h.keep ESlg k (by simp)).at2 i hi)
  obtain ⟨a, cap, rfl, hl, hcap⟩ := h.sh
  have HR := Lib.hid hR
  have HW := Lib.hid (fun w n hn => fol_width w n hn)
  have HLE := Lib.hid (fun j => hR.am_le j)
  obtain ⟨res, hres⟩ : ∃ r, bestR n R (min 32 R.length) = r := ⟨_, rfl⟩
  have HRES := Lib.hid hres
  rw [hres]
  obtain ⟨N, hN⟩ : ∃ N, min R.length 32 = N := ⟨_, rfl⟩
  have hm : min (R.length : Int) 32 = (N : Int) := by omega
  have hN1 : N ≤ R.length := by omega
  have hN2 : N ≤ 32 := by omega
  have HN : Hid (min 32 R.length = N) := by unfold Hid; omega
  obtain ⟨A, hAe⟩ : ∃ A, am R R.length = A := ⟨_, rfl⟩
  rw [hAe] at hA HLE
  have HAE := Lib.hid hAe
  have hA8 : IntKind.i64.wrap ((A : Int) * 8) = ((A * 8 : Nat) : Int) := by rw [IntKind.wrap_i64]; omega
  clear h hR hres hN hAe
  go_enter Try.func25, Try.ntmps25
  go_wp2_with fail
  go_loopw [3, 15] (fun s i wr => ∃ (k z : Nat), k ≤ R.length ∧ i = .int .i64 k ∧ s = .int .i64 z ∧ Hid (z = am R k) ∧ Hid (Keep [] w wr)) (fun _ i _ => R.length - (intOf i).toNat)
  case atStart => exact ⟨0, 0, by omega, rfl, rfl, (am_zero R).symm, Keep.refl _ _⟩
  case round =>
    obtain ⟨k, z, hk, rfl, rfl, HZ, HK⟩ := hrel
    by_cases hlt : k < R.length
    · have z1 : (k : Int) < (R.length : Int) := by omega
      obtain ⟨b, off, cap1, hv, e1, e2⟩ := HI.out wr HK.out k hlt
      simp only [Value.slice.injEq] at hv
      obtain ⟨rfl, h2, rfl⟩ := hv
      clear h2
      have HST := am_succ R k hlt
      generalize gn R k = t at e1 e2 HST
      obtain ⟨t1, t2⟩ := t
      simp only at e1 e2 HST
      have HZ2 : Hid (z + t2 = am R (k + 1)) := by unfold Hid; have := HZ.out; omega
      have hzz : z + t2 ≤ 1000000000 := by have h1 := HZ2.out; have h2 := HLE.out (k + 1); omega
      have hw1 : IntKind.i64.wrap ((z : Int) + (t2 : Int)) = ((z + t2 : Nat) : Int) := by rw [IntKind.wrap_i64]; omega
      obtain ⟨z2, hz2⟩ : ∃ z2, z + t2 = z2 := ⟨_, rfl⟩
      rw [hz2] at hw1 HZ2
      clear HST hz2 HZ hzz
      go_wp2_with fail
      go_roundw
      case rel => exact ⟨k + 1, z2, by omega, by go_num, rfl, HZ2, by first | exact HK.out.alloc _ | exact (HK.out.alloc _).setRow' _⟩
      case measure => simp [intOf]; omega
    · obtain rfl : k = R.length := by omega
      have HE : Hid (z = A) := by have := HZ.out; have := HAE.out; unfold Hid; omega
      obtain rfl := HE.out
      clear HZ HE
      have H0 := Lib.hid (bestR_zero HR.out)
      rw [HAE.out] at H0
      obtain ⟨A8, hA8e⟩ : ∃ x, z * 8 = x := ⟨_, rfl⟩
      rw [hA8e] at hA8 H0
      go_wp2_with fail
      clear hA8 hA8e hk hlt hm
      go_loopw [6, 7, 8, 32] (fun lv fv sv i wr => ∃ (k l f s : Nat), k ≤ N ∧ i = .int .i64 k ∧ lv = .int .i64 l ∧ fv = .int .i64 f ∧ sv = .int .i64 s ∧ Hid (l = bestR n R k) ∧ Hid (f = cst n ((topF n 32).take l) 256) ∧ Hid (s = am R k) ∧ Hid (Keep [] w wr)) (fun _ _ _ i _ => N - (intOf i).toNat)
      case atStart => exact ⟨0, 0, A8, 0, by omega, rfl, rfl, rfl, rfl, H0.out.1, H0.out.2, (am_zero R).symm, HK.out⟩
      case round =>
        clear H0 HK
        obtain ⟨k, l, f, s, hk, rfl, rfl, rfl, rfl, HL, HF, HS, HK⟩ := hrel
        by_cases hlt : k < N
        · have z1 : (k : Int) < (N : Int) := by omega
          have z2 : (k : Int) < (R.length : Int) := by omega
          obtain ⟨b, off, cap1, hv, e1, e2⟩ := HI.out wr HK.out k (by omega)
          simp only [Value.slice.injEq] at hv
          obtain ⟨rfl, h2, rfl⟩ := hv
          clear h2
          have HST := am_succ R k (by omega)
          generalize gn R k = t at e1 e2 HST
          obtain ⟨t1, t2⟩ := t
          simp only at e1 e2 HST
          obtain ⟨s2, hs2⟩ : ∃ x, s + t2 = x := ⟨_, rfl⟩
          obtain ⟨n1, hn1⟩ : ∃ x, k + 1 = x := ⟨_, rfl⟩
          have HS2 : Hid (s2 = am R n1) := by unfold Hid; have := HS.out; rw [← hn1]; omega
          have hs2A : s2 ≤ z := by have h1 := HS2.out; have h2 := HLE.out n1; omega
          have hr1 : IntKind.i64.wrap ((s : Int) + (t2 : Int)) = (s2 : Int) := by rw [IntKind.wrap_i64]; omega
          have hr2 : IntKind.i64.wrap ((k : Int) + 1) = (n1 : Int) := by rw [IntKind.wrap_i64]; omega
          have hn1N : n1 ≤ 32 := by omega
          obtain ⟨c1, hc1⟩ : ∃ x, n1 * 8 = x := ⟨_, rfl⟩
          have hr3 : IntKind.i64.wrap ((n1 : Int) * 8) = (c1 : Int) := by rw [IntKind.wrap_i64]; omega
          obtain ⟨c2, hc2⟩ : ∃ x, c1 + z = x := ⟨_, rfl⟩
          have hr4 : IntKind.i64.wrap ((c1 : Int) + (z : Int)) = (c2 : Int) := by rw [IntKind.wrap_i64]; omega
          obtain ⟨W, hW⟩ : ∃ x, widthN n1 = x := ⟨_, rfl⟩
          have hW5 : W ≤ 5 := by rw [← hW]; exact widthN_le n1
          obtain ⟨c3, hc3⟩ : ∃ x, s2 * W = x := ⟨_, rfl⟩
          have hc3b : c3 ≤ z * 5 := by rw [← hc3]; exact Nat.mul_le_mul hs2A hW5
          have hr5 : IntKind.i64.wrap ((s2 : Int) * (W : Int)) = (c3 : Int) := by rw [IntKind.wrap_i64, ← Int.natCast_mul, hc3]; omega
          obtain ⟨c4, hc4⟩ : ∃ x, c2 + c3 = x := ⟨_, rfl⟩
          have hr6 : IntKind.i64.wrap ((c2 : Int) + (c3 : Int)) = (c4 : Int) := by rw [IntKind.wrap_i64]; omega
          obtain ⟨d, hd⟩ : ∃ x, z - s2 = x := ⟨_, rfl⟩
          have hr7 : IntKind.i64.wrap ((z : Int) - (s2 : Int)) = (d : Int) := by rw [IntKind.wrap_i64]; omega
          obtain ⟨c5, hc5⟩ : ∃ x, d * 8 = x := ⟨_, rfl⟩
          have hr8 : IntKind.i64.wrap ((d : Int) * 8) = (c5 : Int) := by rw [IntKind.wrap_i64]; omega
          obtain ⟨c, hc⟩ : ∃ x, c4 + c5 = x := ⟨_, rfl⟩
          have hr9 : IntKind.i64.wrap ((c4 : Int) + (c5 : Int)) = (c : Int) := by rw [IntKind.wrap_i64]; omega
          have HB := Lib.hid (bestR_step HR.out k (by have := HN.out; omega) l f c HL.out HF.out (by
            rw [HAE.out, hn1, ← HS2.out, hW, hc3]; omega))
          rw [hn1] at HB
          have HW2 := Lib.hid (fun w => HW.out w n1 (by omega))
          rw [hW] at HW2
          have hn1k : n1 ≤ N := by omega
          have hnk : k < n1 := by omega
          clear HST HL hs2 hn1 hc1 hc2 hW hW5 hc3 hc3b hc4 hd hc5 hc HS hs2A
          by_cases hcf : c < f
          · obtain ⟨k1, k2⟩ := HB.out.1 hcf
            have HB1 := Lib.hid k1
            have HB2 := Lib.hid k2
            clear k1 k2
            have hcfz : (c : Int) < (f : Int) := by omega
            clear HB HF hcf
            go_wp2_with fail
            refine (HW2.out _).mono ?_; rintro e w2 ⟨rfl, m, rfl⟩
            go_wp2_with fail
            go_roundw
            case rel => exact ⟨n1, n1, c, s2, hn1k, rfl, rfl, rfl, rfl, HB1, HB2, HS2, (HK.out.alloc _).drewN _⟩
            case measure => simp [intOf]; omega
          · have HB1 := Lib.hid (HB.out.2 hcf)
            have hcfz : ¬ (c : Int) < (f : Int) := by omega
            clear HB hcf
            go_wp2_with fail
            refine (HW2.out _).mono ?_; rintro e w2 ⟨rfl, m, rfl⟩
            go_wp2_with fail
            go_roundw
            case rel => exact ⟨n1, l, f, s2, hn1k, rfl, rfl, rfl, rfl, HB1, HF, HS2, (HK.out.alloc _).drewN _⟩
            case measure => simp [intOf]; omega
        · obtain rfl : k = N := by omega
          have HE : Hid (l = res) := by have h1 := HL.out; have h2 := HRES.out; rw [HN.out] at h2; unfold Hid; omega
          obtain rfl := HE.out
          clear HL HE
          go_wp2_with fail
          go_ret
          exact ⟨rfl, HK.out⟩
end Go.Proofs.Ytlnknnmlepgjfaa
