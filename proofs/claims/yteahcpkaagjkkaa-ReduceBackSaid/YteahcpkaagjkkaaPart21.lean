/- Texts put together: Fol1 Fol2 Fol3 Fol4 Fol5 Fol6 -/
import Derived.Test.YteahcpkaagjkkaaPart18
import Derived.Test.YteahcpkaagjkkaaPart1
import Derived.Test.YteahcpkaagjkkaaPart5
import Derived.Test.YteahcpkaagjkkaaPart20
import Derived.Lib.BytesEntry
import Derived.Lib.MinMax
import Derived.Test.YteahcpkaagjkkaaPart19
import Derived.Test.YteahcpkaagjkkaaPart3
namespace Go.Proofs.Yteahcpkaagjkkaa
open Sg
set_option linter.unusedVariables false
set_option linter.unusedSimpArgs false
set_option maxRecDepth 100000
open Go.ChangeShapes Go.WideShapes Go.ChangeAt Go.RowKit

theorem fol_width (w : World) (n : Nat) (hn : n ≤ 9223372036854775807) : Calls Try.prog 66 #[.int .i64 n] w fun e w' => e = .returned (.int .i64 (widthN n)) ∧ ∃ m, w' = w.drewN m := by
  by_cases h : 1 ≤ n ∧ n ≤ 32
  · obtain ⟨k, rfl⟩ : ∃ k, n = k + 1 := ⟨n - 1, by omega⟩
    have HL := Lib.hid (fun w => bitslen_c w k (by omega))
    have HW : Hid (max 1 (bitLen k) = widthN (k + 1)) := by
      have : k = 0 ∨ k = 1 ∨ k = 2 ∨ k = 3 ∨ k = 4 ∨ k = 5 ∨ k = 6 ∨ k = 7 ∨ k = 8 ∨ k = 9 ∨ k = 10 ∨ k = 11 ∨ k = 12 ∨ k = 13 ∨ k = 14 ∨ k = 15 ∨ k = 16 ∨ k = 17 ∨ k = 18 ∨ k = 19 ∨ k = 20 ∨ k = 21 ∨ k = 22 ∨ k = 23 ∨ k = 24 ∨ k = 25 ∨ k = 26 ∨ k = 27 ∨ k = 28 ∨ k = 29 ∨ k = 30 ∨ k = 31 := by omega
      rcases this with rfl | rfl | rfl | rfl | rfl | rfl | rfl | rfl | rfl | rfl | rfl | rfl | rfl | rfl | rfl | rfl | rfl | rfl | rfl | rfl | rfl | rfl | rfl | rfl | rfl | rfl | rfl | rfl | rfl | rfl | rfl | rfl <;> rfl
    obtain ⟨N, hN⟩ : ∃ N, N = k + 1 := ⟨_, rfl⟩
    obtain ⟨L, hL⟩ : ∃ L, bitLen k = L := ⟨_, rfl⟩
    rw [← hN] at HW h ⊢
    rw [hL] at HW HL
    obtain ⟨W, hW⟩ : ∃ W, widthN N = W := ⟨_, rfl⟩
    rw [hW] at HW ⊢
    have h1 : decide ((N : Int) < 1) = false := by simp; omega
    have h2 : decide ((N : Int) > 32) = false := by simp; omega
    have h3 : IntKind.i64.wrap ((N : Int) - 1) = (k : Int) := by rw [IntKind.wrap_i64]; omega
    have h4 : IntKind.u64.wrap (k : Int) = k := by simp [IntKind.wrap, IntKind.bits, IntKind.signed]; omega
    have h5 : max (1 : Int) (L : Int) = (W : Int) := by have := HW.out; omega
    clear hN hL hW h
    go_enter Try.func66, Try.ntmps66
    go_wp2_with fail
    refine (HL.out _).mono ?_; rintro e w' ⟨rfl, rfl⟩
    go_wp2_with fail
    go_ret
    exact ⟨rfl, 0, rfl⟩
  · have hW : widthN n = 0 := by unfold widthN; rw [if_pos (by omega)]
    by_cases h0 : n < 1
    · have h1 : decide ((n : Int) < 1) = true := by simp; omega
      rw [hW]
      clear hW h h0
      go_enter Try.func66, Try.ntmps66
      go_wp2_with fail
      go_ret
      exact ⟨rfl, 0, rfl⟩
    · have h1 : decide ((n : Int) < 1) = false := by simp; omega
      have h2 : decide ((n : Int) > 32) = true := by simp; omega
      rw [hW]
      clear hW h h0
      go_enter Try.func66, Try.ntmps66
      go_wp2_with fail
      go_ret
      exact ⟨rfl, 0, rfl⟩
theorem counted_c (w : World) (v : Value) (l : List UInt8) (h : Bs w v l) : Calls Try.prog 63 #[v] w fun e w' => ∃ v', e = .returned v' ∧ w' = w ∧ Bs w v' (l.take 32) ∧ ∀ b, v'.ownBlock = some b → v.ownBlock = some b := by
  obtain ⟨a, cap, rfl, h1, h2⟩ := h.shape
  obtain ⟨N, hN⟩ : ∃ N, min l.length 32 = N := ⟨_, rfl⟩
  have hm : min (l.length : Int) 32 = (N : Int) := by omega
  obtain ⟨v', hv, hb, ho⟩ := h.upto N N rfl (by omega)
  have hl : l.take N = l.take 32 := by
    by_cases e : l.length ≤ 32
    · rw [List.take_of_length_le (by omega), List.take_of_length_le (by omega)]
    · rw [show N = 32 by omega]
  rw [hl] at hb
  have HB := Lib.hid hb
  have HO := Lib.hid ho
  clear h hb ho hl
  go_enter Try.func63, Try.ntmps63
  go_wp2_with fail
  go_ret
  exact ⟨_, rfl, rfl, HB.out, fun b hb => by rw [← HO.out]; exact hb⟩
theorem indexbyte_ref (l : List UInt8) (c : UInt8) : Go.Lib.indexByte l c = atU l c := by
  unfold atU
  induction l with
  | nil => rfl
  | cons a t ih =>
    unfold Go.Lib.indexByte
    rw [List.findIdx?_cons]
    by_cases h : (a == c) = true
    · rw [if_pos h, if_pos h]; rfl
    · rw [if_neg h, if_neg h, ih]
      cases e : t.findIdx? (· == c) with
      | none => rfl
      | some i =>
        have h2 : ((i : Int) == -1) = false := by simp
        simp [h2]
theorem indexbyte_c (w : World) (v : Value) (l : List UInt8) (c : UInt8) (h : Bs w v l) (hl : 0 < l.length) : Calls Try.prog 65 #[v, .int .u8 c.toNat] w fun e w' => e = .returned (.int .i64 (atU l c)) ∧ w' = w := by
  obtain ⟨b, o, cap, rfl, _⟩ := h.spot 0 hl
  have hc : ∀ i, i < l.length → w.cell? ⟨b, o + i, none⟩ = some (.int .u8 ((l.map fun x => (x.toNat : Int)).getD i 0)) := by
    intro i hi
    obtain ⟨b', o', cap', e, hcell⟩ := h.spot i hi
    simp only [Value.slice.injEq, Option.some.injEq, Addr.mk.injEq] at e
    obtain ⟨⟨rfl, rfl, _⟩, _, _⟩ := e
    rw [hcell]; simp [hi]
  have hx := Go.Lib.run_indexByteSlice (P := Try.prog) w b o l.length cap (l.map fun x => (x.toNat : Int)) (by simp) hc c.toNat
  have e1 : Go.Lib.bytesOf (l.map fun x => (x.toNat : Int)) = l := by
    unfold Go.Lib.bytesOf
    rw [List.map_map]
    conv => rhs; rw [← List.map_id l]
    refine List.map_congr_left fun x _ => ?_
    simp [Nat.toUInt8]
  have e2 : (c.toNat : Int).toNat.toUInt8 = c := by simp [Nat.toUInt8]
  rw [e1, e2, indexbyte_ref] at hx
  have HX := Lib.hid hx
  obtain ⟨r, hr⟩ : ∃ r, atU l c = r := ⟨_, rfl⟩
  rw [hr] at HX ⊢
  clear h hc hx e1 e2 hr
  go_enter Try.func65, Try.ntmps65
  go_wp2
  rw [run_callFunc_extern Try.func93 (by kernel_rfl) (by kernel_rfl) (by kernel_rfl) (e := Extern.BytealgIndexByte.indexByte) (by kernel_rfl), HX.out]
  simp only [Result.andThen]
  rw [Oper.upon_value]
  go_wp2
  go_ret
  exact ⟨rfl, rfl⟩
theorem cmpk_c (w : World) (x y : Int) : Calls Try.prog 90 #[.int .i64 x, .int .i64 y] w fun e w' => e = .returned (.int .i64 (cmpK x y)) ∧ ∃ n, w' = w.drewN n := by
  by_cases h1 : x < y
  · have hc : Hid (cmpK x y = -1) := by unfold Hid cmpK; rw [if_pos h1]
    go_enter Try.func90, Try.ntmps90
    go_wp2
    go_ret
    exact ⟨by rw [hc.out]; rfl, 0, rfl⟩
  · by_cases h2 : y < x
    · have hc : Hid (cmpK x y = 1) := by unfold Hid cmpK; rw [if_neg h1, if_pos h2]
      have h3 : x > y := h2
      go_enter Try.func90, Try.ntmps90
      go_wp2
      go_ret
      exact ⟨by rw [hc.out]; rfl, 0, rfl⟩
    · have hc : Hid (cmpK x y = 0) := by unfold Hid cmpK; rw [if_neg h1, if_neg h2]
      have h3 : ¬ x > y := h2
      go_enter Try.func90, Try.ntmps90
      go_wp2
      go_ret
      exact ⟨by rw [hc.out]; rfl, 0, rfl⟩
theorem cmpK_neg (x y : Int) : cmpK y x = cmpK (-x) (-y) := by
  unfold cmpK
  repeat' split
  all_goals first | rfl | omega
theorem cmpseen_c (w0 : World) (g : Nat) : CmpG 89 #[] (fun _ => True) kcF w0 g := by
  refine ⟨fun args w => by kernel_rfl, fun w k x y hx hy => ?_⟩
  have HQ := Lib.hid (fun w => cmpk_c w y.2 x.2)
  rw [cmpK_neg x.2 y.2] at HQ
  change Hid (∀ w, Calls Try.prog _ _ _ fun e w' => e = .returned (.int .i64 (cmpK (kcF x) (kcF y))) ∧ _) at HQ
  generalize cmpK (kcF x) (kcF y) = c at HQ ⊢
  show Calls Try.prog _ #[.agg #[eA x, eB x], .agg #[eA y, eB y]] w _
  simp only [eA, eB]
  obtain ⟨x1, x2⟩ := x
  obtain ⟨y1, y2⟩ := y
  simp only at HQ ⊢
  clear k hx hy
  go_enter Try.func89, Try.ntmps89
  go_wp2_with fail
  refine (HQ.out _).mono ?_; rintro e w' ⟨rfl, n, rfl⟩
  go_wp2_with fail
  go_ret
  exact ⟨rfl, (((Keep.refl [] w).alloc _).alloc _).drewN _⟩
end Go.Proofs.Yteahcpkaagjkkaa
namespace Go.Proofs.Yteahcpkaagjkkaa
open Sg
set_option linter.unusedVariables false
set_option linter.unusedSimpArgs false
set_option maxRecDepth 100000
open Go.ChangeShapes Go.WideShapes Go.ChangeAt Go.RowKit

theorem Gs.at2 {w : World} {v : Value} {xs : List SEl} (h : Gs ESl w v xs) (i : Nat) (hi : i < xs.length) : ∃ b off cap, v = .slice (some ⟨b, off, none⟩) xs.length cap ∧
    w.cell? ⟨b, off + i * 2, none⟩ = some (.int .u8 (gn xs i).1.toNat) ∧ w.cell? ⟨b, off + i * 2 + 1, none⟩ = some (.int .i64 (gn xs i).2) := by
  obtain ⟨b, off, cap, e, hc⟩ := h.at ESlg i hi
  refine ⟨b, off, cap, e, ?_, ?_⟩
  · have := hc 0 (by decide)
    rw [gn_eq _ _ hi]; exact this
  · have := hc 1 (by decide)
    rw [gn_eq _ _ hi]; exact this
/-- how many of the first i are best -/
theorem bestR_step {n : Nat → Nat} {R : List SEl} (h : Rk n R) (i : Nat) (hi : i < min 32 R.length) (l f c : Nat) (hl : l = bestR n R i) (hf : f = cst n ((topF n 32).take l) 256)
    (hc : c = 8 * (i + 1) + am R R.length + am R (i + 1) * widthN (i + 1) + (am R R.length - am R (i + 1)) * 8) :
    (c < f → i + 1 = bestR n R (i + 1) ∧ c = cst n ((topF n 32).take (i + 1)) 256) ∧ (¬ c < f → l = bestR n R (i + 1)) := by
  have hcc : c = cst n ((topF n 32).take (i + 1)) 256 := by
    rw [h.take (i + 1) (by omega), h.cost (i + 1) (by omega) (by omega), hc]
  subst hl hf
  unfold bestR
  simp only [bl]
  rw [← hcc]
  refine ⟨fun hlt => ?_, fun hlt => ?_⟩
  · rw [if_pos hlt]; exact ⟨rfl, rfl⟩
  · rw [if_neg hlt]
theorem bestR_zero {n : Nat → Nat} {R : List SEl} (h : Rk n R) : 0 = bestR n R 0 ∧ am R R.length * 8 = cst n ((topF n 32).take 0) 256 := by
  refine ⟨rfl, ?_⟩
  rw [List.take_zero, h.cost0, Nat.mul_comm]
set_option maxHeartbeats 4000000 in
theorem count_c (w : World) (v : Value) (n : Nat → Nat) (R : List SEl) (h : Gs ESl w v R) (hR : Rk n R) (hA : am R R.length ≤ 1000000000) : Calls Try.prog 87 #[v] w fun e w' => e = .returned (.int .i64 (bestR n R (min 32 R.length))) ∧ Keep [] w w' := by
  have HI := Lib.hid (fun w' (k : Keep [] w w') i hi => (h.keep ESlg k (by simp)).at2 i hi)
  obtain ⟨a, cap, rfl, hl, hcap⟩ := h.sh
  have HR := Lib.hid hR
  have HW := Lib.hid (fun w n hn => fol_width w n hn)
  have HLE := Lib.hid (fun j => hR.am_le j)
  obtain ⟨res, hres⟩ : ∃ r, bestR n R (min 32 R.length) = r := ⟨_, rfl⟩
  have HRES := Lib.hid hres
  rw [hres]
  obtain ⟨N, hN⟩ : ∃ N, min R.length 32 = N := ⟨_, rfl⟩
  have hm : min (R.length : Int) 32 = (N : Int) := by omega
  have hN1 : N ≤ R.length := by omega
  have hN2 : N ≤ 32 := by omega
  have HN : Hid (min 32 R.length = N) := by unfold Hid; omega
  obtain ⟨A, hAe⟩ : ∃ A, am R R.length = A := ⟨_, rfl⟩
  rw [hAe] at hA HLE
  have HAE := Lib.hid hAe
  have hA8 : IntKind.i64.wrap ((A : Int) * 8) = ((A * 8 : Nat) : Int) := by rw [IntKind.wrap_i64]; omega
  clear h hR hres hN hAe
  go_enter Try.func87, Try.ntmps87
  go_wp2_with fail
  go_loopw [3, 15] (fun s i wr => ∃ (k z : Nat), k ≤ R.length ∧ i = .int .i64 k ∧ s = .int .i64 z ∧ Hid (z = am R k) ∧ Hid (Keep [] w wr)) (fun _ i _ => R.length - (intOf i).toNat)
  case atStart => exact ⟨0, 0, by omega, rfl, rfl, (am_zero R).symm, Keep.refl _ _⟩
  case round =>
    obtain ⟨k, z, hk, rfl, rfl, HZ, HK⟩ := hrel
    by_cases hlt : k < R.length
    · have z1 : (k : Int) < (R.length : Int) := by omega
      obtain ⟨b, off, cap1, hv, e1, e2⟩ := HI.out wr HK.out k hlt
      simp only [Value.slice.injEq] at hv
      obtain ⟨rfl, h2, rfl⟩ := hv
      clear h2
      have HST := am_succ R k hlt
      generalize gn R k = t at e1 e2 HST
      obtain ⟨t1, t2⟩ := t
      simp only at e1 e2 HST
      have HZ2 : Hid (z + t2 = am R (k + 1)) := by unfold Hid; have := HZ.out; omega
      have hzz : z + t2 ≤ 1000000000 := by have h1 := HZ2.out; have h2 := HLE.out (k + 1); omega
      have hw1 : IntKind.i64.wrap ((z : Int) + (t2 : Int)) = ((z + t2 : Nat) : Int) := by rw [IntKind.wrap_i64]; omega
      obtain ⟨z2, hz2⟩ : ∃ z2, z + t2 = z2 := ⟨_, rfl⟩
      rw [hz2] at hw1 HZ2
      clear HST hz2 HZ hzz
      go_wp2_with fail
      go_roundw
      case rel => exact ⟨k + 1, z2, by omega, by go_num, rfl, HZ2, by first | exact HK.out.alloc _ | exact (HK.out.alloc _).setRow' _⟩
      case measure => simp [intOf]; omega
    · obtain rfl : k = R.length := by omega
      have HE : Hid (z = A) := by have := HZ.out; have := HAE.out; unfold Hid; omega
      obtain rfl := HE.out
      clear HZ HE
      have H0 := Lib.hid (bestR_zero HR.out)
      rw [HAE.out] at H0
      obtain ⟨A8, hA8e⟩ : ∃ x, z * 8 = x := ⟨_, rfl⟩
      rw [hA8e] at hA8 H0
      go_wp2_with fail
      clear hA8 hA8e hk hlt hm
      go_loopw [6, 7, 8, 32] (fun lv fv sv i wr => ∃ (k l f s : Nat), k ≤ N ∧ i = .int .i64 k ∧ lv = .int .i64 l ∧ fv = .int .i64 f ∧ sv = .int .i64 s ∧ Hid (l = bestR n R k) ∧ Hid (f = cst n ((topF n 32).take l) 256) ∧ Hid (s = am R k) ∧ Hid (Keep [] w wr)) (fun _ _ _ i _ => N - (intOf i).toNat)
      case atStart => exact ⟨0, 0, A8, 0, by omega, rfl, rfl, rfl, rfl, H0.out.1, H0.out.2, (am_zero R).symm, HK.out⟩
      case round =>
        clear H0 HK
        obtain ⟨k, l, f, s, hk, rfl, rfl, rfl, rfl, HL, HF, HS, HK⟩ := hrel
        by_cases hlt : k < N
        · have z1 : (k : Int) < (N : Int) := by omega
          have z2 : (k : Int) < (R.length : Int) := by omega
          obtain ⟨b, off, cap1, hv, e1, e2⟩ := HI.out wr HK.out k (by omega)
          simp only [Value.slice.injEq] at hv
          obtain ⟨rfl, h2, rfl⟩ := hv
          clear h2
          have HST := am_succ R k (by omega)
          generalize gn R k = t at e1 e2 HST
          obtain ⟨t1, t2⟩ := t
          simp only at e1 e2 HST
          obtain ⟨s2, hs2⟩ : ∃ x, s + t2 = x := ⟨_, rfl⟩
          obtain ⟨n1, hn1⟩ : ∃ x, k + 1 = x := ⟨_, rfl⟩
          have HS2 : Hid (s2 = am R n1) := by unfold Hid; have := HS.out; rw [← hn1]; omega
          have hs2A : s2 ≤ z := by have h1 := HS2.out; have h2 := HLE.out n1; omega
          have hr1 : IntKind.i64.wrap ((s : Int) + (t2 : Int)) = (s2 : Int) := by rw [IntKind.wrap_i64]; omega
          have hr2 : IntKind.i64.wrap ((k : Int) + 1) = (n1 : Int) := by rw [IntKind.wrap_i64]; omega
          have hn1N : n1 ≤ 32 := by omega
          obtain ⟨c1, hc1⟩ : ∃ x, n1 * 8 = x := ⟨_, rfl⟩
          have hr3 : IntKind.i64.wrap ((n1 : Int) * 8) = (c1 : Int) := by rw [IntKind.wrap_i64]; omega
          obtain ⟨c2, hc2⟩ : ∃ x, c1 + z = x := ⟨_, rfl⟩
          have hr4 : IntKind.i64.wrap ((c1 : Int) + (z : Int)) = (c2 : Int) := by rw [IntKind.wrap_i64]; omega
          obtain ⟨W, hW⟩ : ∃ x, widthN n1 = x := ⟨_, rfl⟩
          have hW5 : W ≤ 5 := by rw [← hW]; exact widthN_le n1
          obtain ⟨c3, hc3⟩ : ∃ x, s2 * W = x := ⟨_, rfl⟩
          have hc3b : c3 ≤ z * 5 := by rw [← hc3]; exact Nat.mul_le_mul hs2A hW5
          have hr5 : IntKind.i64.wrap ((s2 : Int) * (W : Int)) = (c3 : Int) := by rw [IntKind.wrap_i64, ← Int.natCast_mul, hc3]; omega
          obtain ⟨c4, hc4⟩ : ∃ x, c2 + c3 = x := ⟨_, rfl⟩
          have hr6 : IntKind.i64.wrap ((c2 : Int) + (c3 : Int)) = (c4 : Int) := by rw [IntKind.wrap_i64]; omega
          obtain ⟨d, hd⟩ : ∃ x, z - s2 = x := ⟨_, rfl⟩
          have hr7 : IntKind.i64.wrap ((z : Int) - (s2 : Int)) = (d : Int) := by rw [IntKind.wrap_i64]; omega
          obtain ⟨c5, hc5⟩ : ∃ x, d * 8 = x := ⟨_, rfl⟩
          have hr8 : IntKind.i64.wrap ((d : Int) * 8) = (c5 : Int) := by rw [IntKind.wrap_i64]; omega
          obtain ⟨c, hc⟩ : ∃ x, c4 + c5 = x := ⟨_, rfl⟩
          have hr9 : IntKind.i64.wrap ((c4 : Int) + (c5 : Int)) = (c : Int) := by rw [IntKind.wrap_i64]; omega
          have HB := Lib.hid (bestR_step HR.out k (by have := HN.out; omega) l f c HL.out HF.out (by
            rw [HAE.out, hn1, ← HS2.out, hW, hc3]; omega))
          rw [hn1] at HB
          have HW2 := Lib.hid (fun w => HW.out w n1 (by omega))
          rw [hW] at HW2
          have hn1k : n1 ≤ N := by omega
          have hnk : k < n1 := by omega
          clear HST HL hs2 hn1 hc1 hc2 hW hW5 hc3 hc3b hc4 hd hc5 hc HS hs2A
          by_cases hcf : c < f
          · obtain ⟨k1, k2⟩ := HB.out.1 hcf
            have HB1 := Lib.hid k1
            have HB2 := Lib.hid k2
            clear k1 k2
            have hcfz : (c : Int) < (f : Int) := by omega
            clear HB HF hcf
            go_wp2_with fail
            refine (HW2.out _).mono ?_; rintro e w2 ⟨rfl, m, rfl⟩
            go_wp2_with fail
            go_roundw
            case rel => exact ⟨n1, n1, c, s2, hn1k, rfl, rfl, rfl, rfl, HB1, HB2, HS2, (HK.out.alloc _).drewN _⟩
            case measure => simp [intOf]; omega
          · have HB1 := Lib.hid (HB.out.2 hcf)
            have hcfz : ¬ (c : Int) < (f : Int) := by omega
            clear HB hcf
            go_wp2_with fail
            refine (HW2.out _).mono ?_; rintro e w2 ⟨rfl, m, rfl⟩
            go_wp2_with fail
            go_roundw
            case rel => exact ⟨n1, l, f, s2, hn1k, rfl, rfl, rfl, rfl, HB1, HF, HS2, (HK.out.alloc _).drewN _⟩
            case measure => simp [intOf]; omega
        · obtain rfl : k = N := by omega
          have HE : Hid (l = res) := by have h1 := HL.out; have h2 := HRES.out; rw [HN.out] at h2; unfold Hid; omega
          obtain rfl := HE.out
          clear HL HE
          go_wp2_with fail
          go_ret
          exact ⟨rfl, HK.out⟩
end Go.Proofs.Yteahcpkaagjkkaa
namespace Go.Proofs.Yteahcpkaagjkkaa
open Sg
set_option linter.unusedVariables false
set_option linter.unusedSimpArgs false
set_option maxRecDepth 100000
open Go.ChangeShapes Go.WideShapes Go.ChangeAt Go.RowKit

theorem take_fst (R : List SEl) (k : Nat) (h : k < R.length) : (R.take (k + 1)).map (·.1) = (R.take k).map (·.1) ++ [(gn R k).1] := by
  rw [List.take_succ_eq_append_getElem h, List.map_append, gn_eq _ _ h]; rfl
set_option maxHeartbeats 4000000 in
theorem best1_c (w : World) (v : Value) (n : Nat → Nat) (R : List SEl) (h : Gs ESl w v R) (hR : Rk n R) (hA : am R R.length ≤ 1000000000) : Calls Try.prog 60 #[v] w fun e w' => ∃ v', e = .returned v' ∧ OwnB w' v' (oneN n) ∧ Keep [] w w' ∧ ∀ b, v'.ownBlock = some b → w.heap.size ≤ b := by
  have HC := Lib.hid (count_c w v n R h hR hA)
  have HI := Lib.hid (fun w' (k : Keep [] w w') i hi => (h.keep ESlg k (by simp)).at2 i hi)
  obtain ⟨a, cap, rfl, hl, hcap⟩ := h.sh
  rw [hR.one]
  have hM1 : bestR n R (min 32 R.length) ≤ min 32 R.length := bl_le n _ _
  generalize bestR n R (min 32 R.length) = M at hM1 HC ⊢
  have hM : M ≤ R.length := by omega
  have hM32 : M ≤ 32 := by omega
  have hMz : (M : Int) ≤ (cap : Int) := by omega
  have hMc : M ≤ cap := by omega
  have HOUT : Hid (∀ v' w', (∃ v'', v' = v'' ∧ OwnB w' v'' ((R.take M).map (·.1)) ∧ Keep [] w w' ∧ ∀ b, v''.ownBlock = some b → w.heap.size ≤ b) → ∃ v'', v' = v'' ∧ OwnB w' v'' ((R.take M).map (·.1)) ∧ Keep [] w w' ∧ ∀ b, v''.ownBlock = some b → w.heap.size ≤ b) := fun _ _ h => h
  clear h hR hA hM1 HOUT
  obtain ⟨OUT, hOUT⟩ : ∃ o, (R.take M).map (·.1) = o := ⟨_, rfl⟩
  have HOUT := Lib.hid hOUT
  rw [hOUT]
  clear hOUT
  go_enter Try.func60, Try.ntmps60
  go_wp2_with fail
  refine HC.out.mono ?_; rintro e w1 ⟨rfl, k1⟩
  have HK1 := Lib.hid k1
  clear HC k1
  go_wp2_with fail
  go_loopw [3, 11] (fun lv i wr => ∃ (k : Nat) (out : List UInt8), k ≤ M ∧ i = .int .i64 k ∧ out.length ≤ 32 ∧ Hid (out = (R.take k).map (·.1)) ∧ Hid (OwnB wr lv out) ∧ Hid (Keep [] w wr) ∧ Hid (∀ b, lv.ownBlock = some b → w.heap.size ≤ b)) (fun _ i _ => M - (intOf i).toNat)
  case atStart => exact ⟨0, [], by omega, rfl, by simp, by simp [Hid], OwnB.nil _, HK1.out, by simp [Hid, Value.ownBlock]⟩
  case round =>
    clear HK1
    obtain ⟨k, out, hk, rfl, hol, HL, HO, HK, HB⟩ := hrel
    by_cases hlt : k < M
    · have z1 : (k : Int) < (M : Int) := by omega
      have z2 : (k : Int) < (R.length : Int) := by omega
      obtain ⟨b, off, cap1, hv, e1, e2⟩ := HI.out wr HK.out k (by omega)
      simp only [Value.slice.injEq] at hv
      obtain ⟨rfl, h2, rfl⟩ := hv
      clear h2
      have HST := take_fst R k (by omega)
      generalize gn R k = t at e1 e2 HST
      obtain ⟨c, t2⟩ := t
      simp only at e1 e2 HST
      have HL2 : Hid (out ++ [c] = (R.take (k + 1)).map (·.1)) := by unfold Hid; rw [HST, HL.out]
      have hol2 : out.length + 1 ≤ 32 := by have := congrArg List.length HL2.out; simp at this; omega
      have hO2 : Hid (OwnB ((wr.alloc (.cells #[.int .u8 c.toNat, .int .i64 t2] 145)).alloc (.cells #[.int .u8 c.toNat] 5)) u3 out) := HO.out.keep (((Keep.refl [] wr).alloc _).alloc _) (by simp)
      have hS2 : Hid (Bs ((wr.alloc (.cells #[.int .u8 c.toNat, .int .i64 t2] 145)).alloc (.cells #[.int .u8 c.toNat] 5)) (.slice (some ⟨wr.heap.size + 1, 0, none⟩) 1 1) [c]) := by
        have := Bs.new1 (wr.alloc (.cells #[.int .u8 c.toNat, .int .i64 t2] 145)) c
        simp only [World.size_alloc] at this
        exact this
      have hK2 : Hid (Keep [] w ((wr.alloc (.cells #[.int .u8 c.toNat, .int .i64 t2] 145)).alloc (.cells #[.int .u8 c.toNat] 5))) := (HK.out.alloc _).alloc _
      clear HST HL HO
      go_wp2_with (at_builtin; (refine wpList_appendB (.tmp 15) (.tmp 18) rfl rfl u3 out rfl hO2.out _ [c] rfl hS2.out (by simp; omega) ?_); (intro v3 w3 ho3 hk3 hb3 hz3))
      have HO3 := Lib.hid ho3
      have HK3 : Hid (Keep [] w w3) := hK2.out.trans hk3 (fun x hx => .inr (HB.out x (by simpa using hx)))
      have HB3 : Hid (∀ b, v3.ownBlock = some b → w.heap.size ≤ b) := fun b hb => by
        rcases hb3 b hb with h | h
        · exact HB.out b h
        · have := HK.out.size; simp only [World.size_alloc] at h; omega
      clear ho3 hk3 hb3 hz3 hO2 hS2 hK2 HB
      go_wp2_with fail
      go_roundw
      case rel => exact ⟨k + 1, out ++ [c], by omega, by go_num, by simp; omega, HL2, HO3, HK3, HB3⟩
      case measure => simp [intOf]; omega
    · obtain rfl : k = M := by omega
      have HE : Hid (out = OUT) := by unfold Hid; rw [HL.out, HOUT.out]
      obtain rfl := HE.out
      clear HL HE
      go_wp2_with fail
      go_ret
      exact ⟨_, rfl, HO.out, HK.out, HB.out⟩
end Go.Proofs.Yteahcpkaagjkkaa
namespace Go.Proofs.Yteahcpkaagjkkaa
open Sg
set_option linter.unusedVariables false
set_option linter.unusedSimpArgs false
set_option maxRecDepth 100000
open Go.ChangeShapes Go.WideShapes Go.ChangeAt Go.RowKit

set_option maxHeartbeats 4000000 in
theorem ranked_c (w : World) (g o : Nat) (n : Nat → Nat) (hc : ∀ x, x < 256 → w.cell? ⟨g, o + x, none⟩ = some (.int .i64 (n x))) : Calls Try.prog 61 #[.pointer (some ⟨g, o, none⟩)] w fun e w' => ∃ v R, e = .returned v ∧ Gs ESl w' v R ∧ Rk n R ∧ Keep [] w w' := by
  have HC := Lib.hid (fun w' (k : Keep [] w w') x hx => k.cell (hc x hx) (by simp))
  clear hc
  go_enter Try.func61, Try.ntmps61
  go_wp2_with fail
  go_loopw [3, 7] (fun lv i wr => ∃ (k : Nat), k ≤ 256 ∧ i = .int .i64 k ∧ Hid (OwnG ESl wr lv (sn n k)) ∧ Hid (Keep [] w wr) ∧ Hid (∀ b, lv.ownBlock = some b → w.heap.size ≤ b)) (fun _ i _ => 256 - (intOf i).toNat)
  case atStart => exact ⟨0, by omega, rfl, OwnG.nil _ _, Keep.refl _ _, by simp [Hid, Value.ownBlock]⟩
  case round =>
    obtain ⟨k, hk, rfl, HO, HK, HB⟩ := hrel
    by_cases hlt : k < 256
    · have z1 : (k : Int) < 256 := by omega
      have hcell := HC.out wr HK.out k hlt
      have hku : IntKind.u8.wrap (k : Int) = k := by rw [IntKind.wrap_u8']; omega
      have hs1 : IntKind.i64.wrap ((k : Int) + 1) = ((k + 1 : Nat) : Int) := by rw [IntKind.wrap_i64]; omega
      have hst : sn n (k + 1) = if 0 < n k then sn n k ++ [(UInt8.ofNat k, n k)] else sn n k := rfl
      have hln := sn_len n k
      have hT : (UInt8.ofNat k).toNat = k := by rw [UInt8.toNat_ofNat']; exact Nat.mod_eq_of_lt (by omega)
      generalize n k = nk at hcell hst
      by_cases h0 : 0 < nk
      · have h0z : (nk : Int) > 0 := by omega
        have h0d : decide ((nk : Int) > 0) = true := decide_eq_true h0z
        rw [if_pos h0] at hst
        have HST := Lib.hid hst
        have HT := Lib.hid hT
        obtain ⟨xs, hxs⟩ : ∃ xs, sn n k = xs := ⟨_, rfl⟩
        rw [hxs] at HO HST hln
        have HO2 := Lib.hid (fun m => HO.out.keep (S := []) ((Keep.refl [] wr).drewN m) (by simp))
        have HK2 := Lib.hid (fun m => HK.out.drewN m)
        clear hst hT h0 hxs HO HK
        go_wp2_with fail
        go_quiet (fail)
        have HO := Lib.hid (HO2.out nq)
        have HK := Lib.hid (HK2.out nq)
        clear HO2 HK2 hcell
        generalize wr.drewN nq = w2 at HO HK ⊢
        have HO3 : Hid (OwnG ESl (w2.alloc (.cells #[.int .u8 k, .int .i64 nk] 145)) u3 xs) := HO.out.keep ((Keep.refl [] w2).alloc _) (by simp)
        have HL3 : Hid (Gs ESl (w2.alloc (.cells #[.int .u8 k, .int .i64 nk] 145)) (.slice (some ⟨w2.heap.size, 0, none⟩) 1 1) [(UInt8.ofNat k, nk)]) := by
          refine Gs.lit ESlg [(UInt8.ofNat k, nk)] 1 (Blk.new w2 #[.int .u8 k, .int .i64 nk] 145) ?_ rfl (by unfold maxLen; omega)
          show _ = [Value.int .u8 (UInt8.ofNat k).toNat, Value.int .i64 nk]
          rw [HT.out]
        go_wp2_with (at_builtin; (refine wpList_appendG ESlg (.tmp 15) (.tmp 20) rfl rfl u3 xs rfl HO3.out _ [(UInt8.ofNat k, nk)] rfl HL3.out (by simp; omega) ?_); (intro v3 w3 ho3 hk3 hb3))
        have HO4 : Hid (OwnG ESl w3 v3 (sn n (k + 1))) := by unfold Hid; rw [HST.out]; exact ho3
        have HK4 : Hid (Keep [] w w3) := (HK.out.alloc _).trans hk3 (fun x hx => .inr (HB.out x (by simpa using hx)))
        have HB4 : Hid (∀ b, v3.ownBlock = some b → w.heap.size ≤ b) := fun b hb => by
          rcases hb3 b hb with h | h
          · exact HB.out b h
          · have := HK.out.size; simp only [World.size_alloc] at h; omega
        clear ho3 hk3 hb3 HO HO3 HL3 HST HB HK
        go_wp2_with fail
        go_roundw
        case rel => exact ⟨k + 1, by omega, rfl, HO4, HK4, HB4⟩
        case measure => simp [intOf]; omega
      · have h0z : ¬ (nk : Int) > 0 := by omega
        have h0d : decide ((nk : Int) > 0) = false := decide_eq_false h0z
        rw [if_neg h0] at hst
        have HO2 : Hid (∀ m, OwnG ESl (wr.drewN m) u3 (sn n (k + 1))) := fun m => by rw [hst]; exact HO.out.keep (S := []) ((Keep.refl [] wr).drewN m) (by simp)
        have HK2 := Lib.hid (fun m => HK.out.drewN m)
        clear hst hT h0 HO HK hln
        go_wp2_with fail
        go_quiet (fail)
        have HO := Lib.hid (HO2.out nq)
        have HK := Lib.hid (HK2.out nq)
        clear HO2 HK2 hcell
        generalize wr.drewN nq = w2 at HO HK ⊢
        go_wp2_with fail
        go_roundw
        case rel => exact ⟨k + 1, by omega, rfl, HO, HK, HB⟩
        case measure => simp [intOf]; omega
    · obtain rfl : k = 256 := by omega
      rcases HO.out.shape with ⟨rfl, he⟩ | ⟨g1, cp, rfl, hcp, hm⟩
      · have HS := Lib.hid (fun w => sortstable_nil (.func (.func 89) #[] #[]) w)
        have HR : Hid (Rk n []) := Rk.of (by rw [he]) (fun p q h1 h2 h3 => by simp at h3)
        clear he
        go_wp2_with fail
        refine (HS.out _).mono ?_; rintro e w2 ⟨rfl, k2⟩
        have HK2 : Hid (Keep [] w w2) := HK.out.trans k2 (by simp)
        clear k2
        go_wp2_with fail
        go_ret
        exact ⟨_, [], rfl, Gs.nil _ _, HR.out, HK2.out⟩
      · have hln := sn_len n 256
        have HS := Lib.hid (sortstable_c 89 #[] (fun _ => True) kcF keyF kcF_key wr g1 (sn n 256).length cp (sn n 256) HO.out (sn_sta n _ rfl) (cmpseen_c wr g1) (fun _ _ => trivial) (by omega))
        have hg1 : w.heap.size ≤ g1 := HB.out g1 rfl
        clear hcp hm hln
        go_wp2_with fail
        refine HS.out.mono ?_; rintro e w2 ⟨rfl, R, hO, k2, hp, hs⟩
        have hl := hO.ln
        have HR : Hid (Rk n R) := Rk.of hp (by rw [← hl]; exact hs)
        have HG : Hid (Gs ESl w2 (.slice (some ⟨g1, 0, none⟩) (sn n 256).length cp) R) := hO.gs
        have HK2 : Hid (Keep [] w w2) := HK.out.trans k2 (fun x hx => by simp at hx; subst hx; exact .inr hg1)
        clear hO k2 hp hs hl HS HO
        go_wp2_with fail
        go_ret
        exact ⟨_, R, rfl, HG.out, HR.out, HK2.out⟩
end Go.Proofs.Yteahcpkaagjkkaa
namespace Go.Proofs.Yteahcpkaagjkkaa
open Sg
set_option linter.unusedVariables false
set_option linter.unusedSimpArgs false
set_option maxRecDepth 100000
open Go.ChangeShapes Go.WideShapes Go.ChangeAt Go.RowKit

/-- sets in the block q, whose followers lie from block N on -/
def SQ (w : World) (q N : Nat) (f : Nat → List UInt8) : Prop := ∃ cs, Blk w q cs 66 ∧ cs.size = 256 ∧ ∀ c, c < 256 → ∃ v, cs[c]? = some v ∧ Bs w v (f c) ∧ ∀ x, v.ownBlock = some x → N ≤ x
theorem SQ.keep {w w' : World} {q N : Nat} {f : Nat → List UInt8} (h : SQ w q N f) (k : Keep [] w w') : SQ w' q N f := by
  obtain ⟨cs, h1, h2, h3⟩ := h
  refine ⟨cs, h1.keep k (by simp), h2, fun c hc => ?_⟩
  obtain ⟨v, a, b, d⟩ := h3 c hc
  exact ⟨v, a, b.keep k (by simp), d⟩
theorem SQ.free {w : World} {q N : Nat} {f : Nat → List UInt8} (h : SQ w q N f) (c : Nat) : w.frozen? ⟨q, c, none⟩ = false := by
  obtain ⟨cs, h1, _⟩ := h; exact h1.free c
theorem SQ.cell {w : World} {q N : Nat} {f : Nat → List UInt8} (h : SQ w q N f) (c : Nat) (hc : c < 256) : ∃ v, w.cell? ⟨q, c, none⟩ = some v := by
  obtain ⟨cs, h1, h2, h3⟩ := h
  obtain ⟨v, a, _⟩ := h3 c hc
  exact ⟨v, h1.cell c _ a⟩
theorem SQ.set {w : World} {q N : Nat} {f : Nat → List UInt8} (h : SQ w q N f) (hqN : q < N) (c : Nat) (hc : c < 256) (v : Value) (l : List UInt8) (hv : Bs w v l) (hN : ∀ x, v.ownBlock = some x → N ≤ x) : SQ (w.setCell ⟨q, c, none⟩ v) q N (fun i => if i = c then l else f i) := by
  obtain ⟨cs, h1, h2, h3⟩ := h
  have KC : Keep [q] w (w.setCell ⟨q, c, none⟩ v) := (Keep.refl [q] w).setCell (by simp) _
  have hbs : ∀ (u : Value) l', Bs w u l' → (∀ x, u.ownBlock = some x → N ≤ x) → Bs (w.setCell ⟨q, c, none⟩ v) u l' := fun u l' hb hn => hb.keep KC (fun b hb' hm => by
    have := hn b hb'
    have : b = q := by simpa using hm
    omega)
  refine ⟨_, h1.set c v, by simp [h2], fun i hi => ?_⟩
  rw [Array.getElem?_setIfInBounds, h2]
  by_cases e : i = c
  · subst e
    rw [if_pos rfl, if_pos hc]
    exact ⟨v, rfl, by show Bs _ v (if i = i then l else f i); rw [if_pos rfl]; exact hbs v l hv hN, hN⟩
  · rw [if_neg (fun h => e h.symm)]
    obtain ⟨u, a, b, d⟩ := h3 i hi
    exact ⟨u, a, by show Bs _ u (if i = c then l else f i); rw [if_neg e]; exact hbs u _ b d, d⟩
theorem SQ.congr {w : World} {q N : Nat} {f f' : Nat → List UInt8} (h : SQ w q N f) (e : ∀ c, c < 256 → f c = f' c) : SQ w q N f' := by
  obtain ⟨cs, h1, h2, h3⟩ := h
  exact ⟨cs, h1, h2, fun c hc => by rw [← e c hc]; exact h3 c hc⟩
theorem fsetsInfo : (Try.prog.info? 66).map (fun i => (i.zero, i.size)) = some (some (.agg zset), 256) := by kernel_rfl
theorem fsetsSize : (Try.prog.info? 66).map (·.size) = some 256 := by kernel_rfl
theorem SQ.zero {w : World} {q N : Nat} (h : Blk w q zset 66) : SQ w q N (fun _ => []) := by
  refine ⟨zset, h, by simp [zset], fun c hc => ⟨.slice none 0 0, ?_, Bs.nil _, by simp [Value.ownBlock]⟩⟩
  simp [zset, hc]
theorem am_bound (b : List UInt8) (c : Nat) (R : List SEl) (h : Rk (cnB 0 b c) R) (hl : b.length ≤ 1000000) : am R R.length ≤ 1000000000 := by
  rw [← h.all]
  have h1 := sm_le (cnB 0 b c) (fun _ => b.length) 256 (fun x _ => cnB_le 0 b c x)
  rw [sm_const] at h1
  omega
set_option maxHeartbeats 4000000 in
theorem fol_best (w : World) (v : Value) (b : List UInt8) (hb : Bs w v b) (hl : b.length ≤ 1000000) : Calls Try.prog 29 #[v] w fun e w' => ∃ V, e = .returned V ∧ SV w' V (one12 b) ∧ Keep [] w w' := by
  have hz := (zero_of_info (P := Try.prog) fsetsInfo).1
  have KA : Keep [] w ((w.alloc (.cells zset 66)).alloc (.cells zset 66)) := ((Keep.refl [] w).alloc _).alloc _
  have h2 : Blk ((w.alloc (.cells zset 66)).alloc (.cells zset 66)) w.heap.size zset 66 := (Blk.new w _ _).alloc _
  have h3 : SQ ((w.alloc (.cells zset 66)).alloc (.cells zset 66)) (w.heap.size + 1) (w.heap.size + 2) (fun _ => []) := by
    refine SQ.zero ?_
    have := Blk.new (w.alloc (.cells zset 66)) zset 66
    simpa using this
  have hsz : ((w.alloc (.cells zset 66)).alloc (.cells zset 66)).heap.size = w.heap.size + 2 := by simp
  have hz256 : zset.size = 256 := by simp [zset]
  have HTC := Lib.hid (fun w' (k : Keep [] w w') => tally_c w' v b (hb.keep k (by simp)) hl)
  have HR := Lib.hid (fun w' g c (hc : c < 256) (h : Blk w' g (TA (cnB 0 b)) 142) => ranked_c w' g (c * 256) (cnB 0 b c) (fun x hx => h.cell (c * 256 + x) _ (TA_at (cnB 0 b) c x hc hx)))
  have HBB := Lib.hid (fun w' v' c R (hg : Gs ESl w' v' R) (hr : Rk (cnB 0 b c) R) => best1_c w' v' (cnB 0 b c) R hg hr (am_bound b c R hr hl))
  generalize zset = Z at hz KA h2 h3 hsz hz256
  clear hb
  go_enter Try.func29, Try.ntmps29
  go_wp2_with fail
  generalize (w.alloc (.cells Z 66)).alloc (.cells Z 66) = w1 at KA h2 h3 hsz ⊢
  refine (HTC.out w1 KA).mono ?_; rintro e w3 ⟨g, rfl, hgl, hT, k3⟩
  have HH2 := Lib.hid (h2.keep k3 (by simp))
  have HH3 := Lib.hid (h3.keep k3)
  have HKK := Lib.hid (KA.trans k3 (by simp))
  have HGT := Lib.hid hT
  have hsz3 : w.heap.size + 2 ≤ w3.heap.size := by have := k3.size; omega
  have HSZ := Lib.hid hsz3
  have HGL : Hid (w.heap.size + 2 ≤ g) := by unfold Hid; omega
  clear KA h2 h3 hT k3 HTC hgl hsz hsz3
  obtain ⟨q2, hq2⟩ : ∃ q, w.heap.size = q := ⟨_, rfl⟩
  obtain ⟨q3, hq3⟩ : ∃ q, q2 + 1 = q := ⟨_, rfl⟩
  rw [hq2] at HH2 HH3 HSZ HGL ⊢
  rw [hq3] at HH3 ⊢
  have HQ : Hid (w.heap.size = q2 ∧ q2 + 1 = q3) := ⟨hq2, hq3⟩
  clear hq2 hq3
  go_wp2_with fail
  go_loopw [8] (fun i wr => ∃ (k : Nat), k ≤ 256 ∧ i = .int .i64 k ∧ Hid (SQ wr q3 (q2 + 2) (fun c => if c < k then one12 b c else [])) ∧ Hid (Blk wr q2 Z 66) ∧ Hid (Blk wr g (TA (cnB 0 b)) 142) ∧ Hid (Keep [] w wr) ∧ Hid (q2 + 2 ≤ wr.heap.size)) (fun i _ => 256 - (intOf i).toNat)
  case atStart => exact ⟨0, by omega, rfl, HH3.out.congr (fun c _ => by rw [if_neg (by omega)]), HH2.out, HGT.out, HKK.out, HSZ.out⟩
  case round =>
    clear HH3 HH2 HGT HKK HSZ
    obtain ⟨k, hk, rfl, HS, H2, HG, HK, HSZ⟩ := hrel
    by_cases hlt : k < 256
    · have z1 : (k : Int) < 256 := by omega
      have hs1 : IntKind.i64.wrap ((k : Int) + 1) = ((k + 1 : Nat) : Int) := by rw [IntKind.wrap_i64]; omega
      go_wp2_with fail
      refine (HR.out wr g k hlt HG.out).mono ?_; rintro e w4 ⟨v4, R, rfl, hg4, hr4, k4⟩
      have HB4 := Lib.hid (HBB.out w4 v4 k R hg4 hr4)
      clear hg4 hr4
      have K4 := Lib.hid k4
      clear k4
      go_wp2_with fail
      refine HB4.out.mono ?_; rintro e w5 ⟨v5, rfl, ho5, k5, hb5⟩
      have hKr : Keep [] wr w5 := K4.out.trans k5 (by simp)
      have HS5 := Lib.hid (HS.out.keep hKr)
      obtain ⟨u, hcell⟩ := HS5.out.cell k hlt
      have hfr := HS5.out.free k
      have hq : q2 + 2 ≤ w5.heap.size := Nat.le_trans HSZ.out hKr.size
      have hb5' : ∀ x, v5.ownBlock = some x → q2 + 2 ≤ x := fun x hx => by
        have h1 := hb5 x hx
        have h2 := K4.out.size
        have h3 := HSZ.out
        omega
      have HS6 : Hid (SQ (w5.setCell ⟨q3, k, none⟩ v5) q3 (q2 + 2) (fun c => if c < k + 1 then one12 b c else [])) := (HS5.out.set (by have := HQ.out.2; omega) k hlt v5 (one12 b k) ho5.bs hb5').congr (fun c _ => by
        by_cases e : c = k
        · subst e; rw [if_pos rfl, if_pos (by omega)]
        · rw [if_neg e]
          by_cases e2 : c < k
          · rw [if_pos e2, if_pos (by omega)]
          · rw [if_neg e2, if_neg (by omega)])
      have hKC : Keep [q3] w5 (w5.setCell ⟨q3, k, none⟩ v5) := (Keep.refl [q3] w5).setCell (by simp) _
      have H26 : Hid (Blk (w5.setCell ⟨q3, k, none⟩ v5) q2 Z 66) := (H2.out.keep hKr (by simp)).keep hKC (by have := HQ.out.2; simp; omega)
      have HG6 : Hid (Blk (w5.setCell ⟨q3, k, none⟩ v5) g (TA (cnB 0 b)) 142) := (HG.out.keep hKr (by simp)).keep hKC (by have := HQ.out.2; have := HGL.out; simp; omega)
      have HK6 : Hid (Keep [] w (w5.setCell ⟨q3, k, none⟩ v5)) := (HK.out.trans hKr (by simp)).setCell (.inr (by have := HQ.out; simp; omega)) _
      have HSZ6 : Hid (q2 + 2 ≤ (w5.setCell ⟨q3, k, none⟩ v5).heap.size) := by unfold Hid; simpa using hq
      obtain ⟨a5, c5, rfl, _⟩ := ho5.bs.shape
      clear HS5 hKr k5 hb5 hb5' ho5 hKC hq HB4 K4 HS H2 HG HK HSZ
      go_wp2_with fail
      go_roundw
      case rel => exact ⟨k + 1, by omega, rfl, HS6, H26, HG6, HK6, HSZ6⟩
      case measure => simp [intOf]; omega
    · obtain rfl : k = 256 := by omega
      obtain ⟨cs, b1, b2, b3⟩ := HS.out
      have HB3 : Hid (∀ c, c < 256 → ∃ v, cs[c]? = some v ∧ Bs wr v (one12 b c) ∧ ∀ x, v.ownBlock = some x → q2 + 2 ≤ x) := fun c hc => by
        obtain ⟨v, h1, h2, h3⟩ := b3 c hc
        simp only [if_pos hc] at h2
        exact ⟨v, h1, h2, h3⟩
      have hone : ∀ v ∈ cs.toList, v.oneCell' = true := by
        intro v hv
        obtain ⟨i, hi, rfl⟩ := List.getElem_of_mem hv
        have hi2 : i < 256 := by simp at hi; omega
        obtain ⟨v, h1, h2, _⟩ := HB3.out i hi2
        obtain ⟨a, cp, rfl, _⟩ := h2.shape
        have : cs.toList[i] = .slice a (one12 b i).length cp := by
          have := Array.getElem?_eq_some_iff.1 h1
          simpa using this.2
        rw [this]; rfl
      have h2b := H2.out
      have hbq := h2b.setRow cs
      have KQ : Keep [q2] wr (wr.setRow q2 cs) := Keep.setRow _
      have HSV : Hid (SV (wr.setRow q2 cs) (.agg cs) (one12 b)) := ⟨cs, rfl, b2, fun c hc => by
        obtain ⟨v, h1, h2, h3⟩ := HB3.out c hc
        exact ⟨v, h1, h2.keep KQ (fun x hx hm => by have := h3 x hx; have : x = q2 := by simpa using hm
                                                    omega)⟩⟩
      have HKF : Hid (Keep [] w (wr.setRow q2 cs)) := HK.out.trans KQ (fun x hx => by simp at hx; subst hx; right; have := HQ.out; omega)
      have hsz256 : (Try.prog.info? 66).map (·.size) = some cs.size := by rw [b2]; exact fsetsSize
      have hall : cs.all (·.oneCell') = true := Array.all_eq_true_iff_forall_mem.2 fun v hv => hone v (by simpa using hv)
      have hoe : Z.size = cs.size := by rw [hz256, b2]
      have HB3b := HB3
      clear b3 HS HB3 hone HR HBB HG hz KQ HSZ
      go_wp2_with (first | refine wpList_load_row rfl 66 _ rfl q3 rfl _ _ _ _ b1 Try.underlying66 rfl hsz256 ?_ | refine wpList_store_row rfl 66 _ _ rfl q2 _ rfl rfl _ _ h2b hsz256 hoe hall ?_)
      refine bodyPost_ret (results_cellA rfl _ rfl hbq _ Try.underlying66 rfl hsz256) rfl ?_
      exact ⟨_, rfl, HSV.out, HKF.out⟩
end Go.Proofs.Yteahcpkaagjkkaa
namespace Go.Proofs.Yteahcpkaagjkkaa
open Sg
set_option linter.unusedVariables false
set_option linter.unusedSimpArgs false
set_option maxRecDepth 100000
open Go.ChangeShapes Go.WideShapes Go.ChangeAt Go.RowKit

/-- sets as a value, none of whose followers lie in the blocks S -/
def SVo (w : World) (V : Value) (f : Nat → List UInt8) (S : List Nat) : Prop := ∃ cs, V = .agg cs ∧ cs.size = 256 ∧ ∀ c, c < 256 → ∃ v, cs[c]? = some v ∧ Bs w v (f c) ∧ (f c ≠ [] → ∀ x, v.ownBlock = some x → x ∉ S)
theorem SV.off {w : World} {V : Value} {f : Nat → List UInt8} {S : List Nat} (h : SV w V f) (w' : World) (k : Keep [] w w') (hS : ∀ x ∈ S, w.heap.size ≤ x) : SVo w' V f S := by
  obtain ⟨cs, rfl, h1, h2⟩ := h
  refine ⟨cs, rfl, h1, fun c hc => ?_⟩
  obtain ⟨v, a, b⟩ := h2 c hc
  exact ⟨v, a, b.keep k (by simp), fun hne x hx hm => by have := b.lt hne x hx; have := hS x hm; omega⟩
/-- a writer's blocks, one writing behind the other -/
theorem wr_trans {w w' w'' : World} {r : Nat} {v v' v'' : Value} (k1 : Keep (r :: v.ownBlock.toList) w w') (b1 : ∀ b, v'.ownBlock = some b → v.ownBlock = some b ∨ w.heap.size ≤ b) (k2 : Keep (r :: v'.ownBlock.toList) w' w'') (b2 : ∀ b, v''.ownBlock = some b → v'.ownBlock = some b ∨ w'.heap.size ≤ b) :
    Keep (r :: v.ownBlock.toList) w w'' ∧ ∀ b, v''.ownBlock = some b → v.ownBlock = some b ∨ w.heap.size ≤ b := by
  have hs := k1.size
  refine ⟨k1.trans k2 (fun x hx => ?_), fun b hb => ?_⟩
  · rcases List.mem_cons.1 hx with h | h
    · exact .inl (by rw [h]; simp)
    · rcases b1 x (by simpa using h) with h2 | h2
      · exact .inl (by simp [h2])
      · exact .inr h2
  · rcases b2 b hb with h | h
    · exact b1 b h
    · exact .inr (by omega)
theorem atU_lt (l : List UInt8) (c : UInt8) (h : 0 ≤ atU l c) : (atU l c).toNat < l.length := by
  unfold atU at h ⊢
  cases e : l.findIdx? (· == c) with
  | none => rw [e] at h; exact absurd h (by decide)
  | some i =>
    rw [List.findIdx?_eq_some_iff_getElem] at e
    simpa using e.1
theorem cln_small (n : Nat) (h : n ≤ 32) : cln (n : Int) = n := by unfold cln; omega
set_option maxHeartbeats 4000000 in
theorem fol_put (w : World) (r : Nat) (v : Value) (bs : List Bool) (V : Value) (s : Nat → List UInt8) (p c : UInt8) (H : Wr w r v bs) (hV : SVo w V s (r :: v.ownBlock.toList)) (hl : bs.length ≤ 1125899906841000) :
    Calls Try.prog 32 #[.pointer (some ⟨r, 0, none⟩), V, .int .u8 p.toNat, .int .u8 c.toNat] w fun e w' => ∃ v', e = .returned (.tuple #[]) ∧ Wr w' r v' (bs ++ fput (s p.toNat) c) ∧
      Keep (r :: v.ownBlock.toList) w w' ∧ (∀ b, v'.ownBlock = some b → v.ownBlock = some b ∨ w.heap.size ≤ b) := by
  obtain ⟨cs, rfl, h1, h2⟩ := hV
  obtain ⟨P, hP⟩ : ∃ P, p.toNat = P := ⟨_, rfl⟩
  have hp9 : P < 256 := by have := p.toNat_lt; omega
  have hp10 : (P : Int) < 256 := by omega
  rw [hP]
  clear hP
  obtain ⟨vp, hvp, hbp, _⟩ := h2 P hp9
  have hcell : (w.alloc (.cells cs 66)).cell? ⟨w.heap.size, P, none⟩ = some vp := (Blk.new w cs 66).cell P vp hvp
  have KA : Keep [] w (w.alloc (.cells cs 66)) := (Keep.refl [] w).alloc _
  have HW1 := Lib.hid (H.keep KA (by simp) (by simp))
  have hb1 := hbp.keep KA (by simp)
  have hsz : w.heap.size ≤ (w.alloc (.cells cs 66)).heap.size := KA.size
  unfold fput
  generalize s P = l at hbp hb1 ⊢
  obtain ⟨L, hL⟩ : ∃ L, l.take 32 = L := ⟨_, rfl⟩
  have hL32 : L.length ≤ 32 := by rw [← hL, List.length_take]; omega
  have HCN := Lib.hid (counted_c (w.alloc (.cells cs 66)) vp l hb1)
  rw [hL] at HCN ⊢
  obtain ⟨X, hX⟩ : ∃ X, (if L.length = 0 then bitsOf c.toNat 8 else if 0 ≤ atU L c then bitsOf 0 1 ++ bitsOf (atU L c).toNat (widthN L.length) else bitsOf 1 1 ++ bitsOf c.toNat 8) = X := ⟨_, rfl⟩
  have HX := Lib.hid hX
  rw [hX]
  clear hX
  obtain ⟨av, cpv, rfl, _⟩ := hbp.shape
  clear h2 hvp hbp hb1 hL H h1
  have hcu : IntKind.u32.wrap (c.toNat : Int) = c.toNat := by have := c.toNat_lt; simp [IntKind.wrap, IntKind.bits, IntKind.signed]; omega
  have hc9 : c.toNat < 4294967296 := by have := c.toNat_lt; omega
  go_enter Try.func32, Try.ntmps32
  go_wp2_with fail
  generalize w.alloc (.cells cs 66) = w1 at hcell KA HW1 HCN hsz ⊢
  have HKA := Lib.hid KA
  clear KA
  go_wp2_with fail
  refine HCN.out.mono ?_; rintro e w' ⟨v2, rfl, rfl, hb2, _⟩
  clear HCN hcell
  by_cases h0 : L.length = 0
  · obtain rfl : L = [] := List.eq_nil_of_length_eq_zero h0
    obtain ⟨a2, c2, rfl, _⟩ := hb2.shape
    have HP := Lib.hid (wput_c w' r v bs c.toNat 8 hc9 HW1.out (by omega))
    have HX2 : Hid (bitsOf c.toNat 8 = X) := by rw [← HX.out]; rfl
    clear h0 hb2 hL32 HX
    go_wp2_with fail
    refine HP.out.mono ?_; rintro e w3 ⟨v3, rfl, h3, k3, b3⟩
    have H3 := Lib.hid h3
    have K3 : Hid (Keep (r :: v.ownBlock.toList) w w3) := (HKA.out.mono (by simp)).trans k3 (fun x hx => .inl hx)
    have B3 : Hid (∀ b, v3.ownBlock = some b → v.ownBlock = some b ∨ w.heap.size ≤ b) := fun b hb => by
      rcases b3 b hb with h | h
      · exact .inl h
      · exact .inr (by omega)
    clear h3 k3 b3
    go_wp2_with fail
    refine bodyPost_ret (results_none rfl _ _ _) rfl ?_
    exact ⟨v3, rfl, by rw [← HX2.out]; exact H3.out, K3.out, B3.out⟩
  · have hpos : 0 < L.length := by omega
    have HIB := Lib.hid (indexbyte_c w' v2 L c hb2 hpos)
    obtain ⟨a2, c2, rfl, _⟩ := hb2.shape
    have hne : ((L.length : Int) == 0) = false := by rw [beq_eq_false_iff_ne]; omega
    have HX2 : Hid ((if 0 ≤ atU L c then bitsOf 0 1 ++ bitsOf (atU L c).toNat (widthN L.length) else bitsOf 1 1 ++ bitsOf c.toNat 8) = X) := by rw [← HX.out, if_neg h0]; rfl
    clear HX
    by_cases hat : 0 ≤ atU L c
    · have hlt := atU_lt L c hat
      rw [if_pos hat] at HX2
      obtain ⟨k, hk⟩ : ∃ k : Nat, atU L c = (k : Int) := ⟨(atU L c).toNat, by omega⟩
      rw [hk] at HIB hlt HX2
      rw [Int.toNat_natCast] at hlt HX2
      have hkd : ¬ ((k : Int) < 0) := by omega
      have hku : IntKind.u32.wrap (k : Int) = k := by simp [IntKind.wrap, IntKind.bits, IntKind.signed]; omega
      have HP := Lib.hid (wput_c w' r v bs 0 1 (by decide) HW1.out (by omega))
      have HWD := Lib.hid (fun w => fol_width w L.length (by omega))
      have hW5 := widthN_le L.length
      generalize widthN L.length = W at HWD hW5 HX2
      clear hat hk h0 hb2
      go_wp2_with fail
      refine HIB.out.mono ?_; rintro e w3 ⟨rfl, rfl⟩
      clear HIB
      go_wp2_with fail
      refine HP.out.mono ?_; rintro e w4 ⟨v4, rfl, h4, k4, b4⟩
      clear HP
      have H4 := Lib.hid h4
      have K4 := Lib.hid k4
      have B4 := Lib.hid b4
      clear h4 k4 b4
      go_wp2_with fail
      refine (HWD.out w4).mono ?_; rintro e w5 ⟨rfl, m, rfl⟩
      have H5 : Wr (w4.drewN m) r v4 (bs ++ bitsOf 0 (cln 1)) := H4.out.keep ((Keep.refl [] w4).drewN m) (by simp) (by simp)
      have HP := Lib.hid (wput_c (w4.drewN m) r v4 _ k (W : Int) (by omega) H5 (by rw [List.length_append, bitsOf_length]; have : cln 1 = 1 := rfl; omega))
      clear H5
      go_wp2_with fail
      refine HP.out.mono ?_; rintro e w6 ⟨v6, rfl, h6, k6, b6⟩
      rw [cln_small W (by omega), List.append_assoc] at h6
      have H6 : Hid (Wr w6 r v6 (bs ++ (bitsOf 0 1 ++ bitsOf k W))) := h6
      obtain ⟨k46, b46⟩ := wr_trans (K4.out.trans ((Keep.refl [] w4).drewN m) (by simp)) B4.out k6 (fun b hb => b6 b hb)
      have K6 : Hid (Keep (r :: v.ownBlock.toList) w w6) := (HKA.out.mono (by simp)).trans k46 (fun x hx => .inl hx)
      have B6 : Hid (∀ b, v6.ownBlock = some b → v.ownBlock = some b ∨ w.heap.size ≤ b) := fun b hb => by
        rcases b46 b hb with h | h
        · exact .inl h
        · exact .inr (by omega)
      clear h6 k6 b6 k46 b46 HP HWD
      go_wp2_with fail
      go_end0
      exact ⟨v6, rfl, by rw [← HX2.out]; exact H6.out, K6.out, B6.out⟩
    · rw [if_neg hat] at HX2
      obtain ⟨z, hz⟩ : ∃ z, atU L c = z := ⟨_, rfl⟩
      rw [hz] at HIB hat
      have hzd : z < 0 := by omega
      have HP := Lib.hid (wput_c w' r v bs 1 1 (by decide) HW1.out (by omega))
      clear hat hz h0 hb2
      go_wp2_with fail
      refine HIB.out.mono ?_; rintro e w3 ⟨rfl, rfl⟩
      clear HIB
      go_wp2_with fail
      refine HP.out.mono ?_; rintro e w4 ⟨v4, rfl, h4, k4, b4⟩
      clear HP
      have HP := Lib.hid (wput_c w4 r v4 _ c.toNat 8 hc9 h4 (by rw [List.length_append, bitsOf_length]; have : cln 1 = 1 := rfl; omega))
      have K4 := Lib.hid k4
      have B4 := Lib.hid b4
      clear h4 k4 b4
      go_wp2_with fail
      refine HP.out.mono ?_; rintro e w6 ⟨v6, rfl, h6, k6, b6⟩
      rw [List.append_assoc] at h6
      have H6 : Hid (Wr w6 r v6 (bs ++ (bitsOf 1 1 ++ bitsOf c.toNat 8))) := h6
      obtain ⟨k46, b46⟩ := wr_trans K4.out B4.out k6 b6
      have K6 : Hid (Keep (r :: v.ownBlock.toList) w w6) := (HKA.out.mono (by simp)).trans k46 (fun x hx => .inl hx)
      have B6 : Hid (∀ b, v6.ownBlock = some b → v.ownBlock = some b ∨ w.heap.size ≤ b) := fun b hb => by
        rcases b46 b hb with h | h
        · exact .inl h
        · exact .inr (by omega)
      clear h6 k6 b6 k46 b46 HP
      go_wp2_with fail
      refine bodyPost_ret (results_none rfl _ _ _) rfl ?_
      exact ⟨v6, rfl, by rw [← HX2.out]; exact H6.out, K6.out, B6.out⟩
end Go.Proofs.Yteahcpkaagjkkaa
