/- Texts put together: RefRed5 -/
import Derived.Test.YteahcpkaagjkkaaPart20
import Derived.Test.YteahcpkaagjkkaaPart12
import Derived.Test.YteahcpkaagjkkaaPart4
namespace Go.Proofs.Yteahcpkaagjkkaa
set_option linter.unusedVariables false
set_option linter.unusedSimpArgs false
set_option maxRecDepth 100000
open Go.ChangeShapes Go.WideShapes Go.ChangeAt Go.RowKit

theorem fputs_le (s : Nat → List UInt8) (p : UInt8) (l : List UInt8) : (fputs s p l).length ≤ 9 * l.length := by
  induction l generalizing p with
  | nil => exact Nat.le_refl _
  | cons c t ih => have := ih c; have := fput_le (s p.toNat) c; rw [fputs, List.length_append, List.length_cons]; omega
theorem last_snoc (l : List UInt8) (k : Nat) (hk : k < l.length) (p : UInt8) : (l.take (k + 1)).getLastD p = l[k] := by
  rw [List.take_succ_eq_append_getElem hk]; exact List.getLastD_concat
theorem refenc14_bad (w : World) (v : Value) (f : Int) (h : f < 1 ∨ 4 < f) : Calls Try.prog 15 #[v, .int .i64 f] w fun e w' => e = .returned (.tuple #[.slice none 0 0, .int .i64 2]) ∧ w = w' := by
  have HB := Lib.hid (refenc13_bad w v f h)
  clear h
  go_enter Try.func15, Try.ntmps15
  go_wp2_with fail
  refine HB.out.mono ?_; rintro e w1 ⟨rfl, rfl⟩
  go_wp2_with fail
  go_ret2
  exact ⟨rfl, rfl⟩
set_option maxHeartbeats 4000000 in
theorem refenc14_c (w : World) (v : Value) (b : List UInt8) (f : Nat) (hb : Bs w v b) (hl : b.length ≤ 100000) (h1 : 1 ≤ f) (h2 : f ≤ 4) :
    Calls Try.prog 15 #[v, .int .i64 f] w fun e w' => ∃ v', e = .returned (.tuple #[v', .int .i64 0]) ∧ Bs w' v' (enc14 f b) ∧ Keep [] w w' := by
  have HE := Lib.hid (refenc13_c w v b f hb hl h1 h2)
  have hle := (enc_tell f h1 h2 b).2
  have hd : enc14 f b = if (enc13 f b).length = 0 then [] else ofBits (bits14 (enc13 f b)) := rfl
  obtain ⟨R, hR⟩ : ∃ R, enc14 f b = R := ⟨_, rfl⟩
  rw [hR] at hd ⊢
  generalize enc13 f b = c at HE hle hd
  have HD := Lib.hid hd
  clear hd hR
  go_enter Try.func15, Try.ntmps15
  go_wp2_with fail
  refine HE.out.mono ?_; rintro e w1 ⟨vc, rfl, hc, k1, b1⟩
  have hcb := hc.bs
  obtain ⟨ac, cc, rfl, _, _⟩ := hcb.shape
  by_cases h0 : c.length = 0
  · have z1 : ((c.length : Int) == 0) = true := by rw [h0]; rfl
    have hR2 := HD.out
    rw [if_pos h0] at hR2
    have HR := Lib.hid hR2
    clear hR2 HD h0
    go_wp2_with fail
    go_ret2
    exact ⟨_, rfl, by rw [HR.out]; exact Bs.nil _, k1⟩
  · have z1 : ((c.length : Int) == 0) = false := by rw [beq_eq_false_iff_ne]; omega
    have hR2 := HD.out
    rw [if_neg h0] at hR2
    have HR := Lib.hid hR2
    have hc0 : 0 < c.length := by omega
    clear hR2 HD h0
    go_wp2_with fail
    refine (best12_c w1 _ c hcb (by omega)).mono ?_; rintro e w2 ⟨q, rfl, hS, k2⟩
    have HSO : Hid (∀ ww S, Keep [] w2 ww → (∀ x ∈ S, w2.heap.size ≤ x) → SBo ww q 94 (one12 c) S) := fun ww S k hs => (hS.off hs).keep (k.mono (by simp))
    have HCB := Lib.hid (hcb.keep k2 (by simp))
    have K02 : Keep [] w w2 := k1.trans k2 (by simp)
    have KA : Keep [] w2 (w2.alloc (.cells #[.slice none 0 0] 75)) := (Keep.refl [] w2).alloc _
    have hW : Rw (w2.alloc (.cells #[.slice none 0 0] 75)) w2.heap.size (.slice none 0 0) [] := ⟨Blk.new _ _ _, OwnB.nil _, by simp [Value.ownBlock]⟩
    clear hS hcb hc b1 k1 k2
    go_wp2_with fail
    obtain ⟨r, hr⟩ : ∃ r, w2.heap.size = r := ⟨_, rfl⟩
    have HSO2 : Hid (∀ ww S, Keep [] w2 ww → (∀ x ∈ S, r ≤ x) → SBo ww q 94 (one12 c) S) := fun ww S k hs => HSO.out ww S k (by rw [hr]; exact hs)
    have HRR := Lib.hid hr
    rw [hr] at hW ⊢
    clear hr HSO
    generalize w2.alloc (.cells #[.slice none 0 0] 75) = w3 at KA hW ⊢
    have HPS := Lib.hid (refputsets12_c w3 r _ [] q (one12 c) hW (HSO2.out w3 _ KA (by simp [Value.ownBlock])) (by simp))
    clear hW
    go_wp2_with fail
    refine HPS.out.mono ?_; rintro e w4 ⟨rfl, v4, h4, k4, b4⟩
    rw [List.nil_append] at h4
    have K24 : Keep [] w2 w4 := KA.trans k4 (fun z hz => by
      have : z = r := by simpa [Value.ownBlock] using hz
      have := HRR.out; exact .inr (by omega))
    have B4 : ∀ b, v4.ownBlock = some b → r ≤ b := fun b hb => by
      rcases b4 b hb with h | h
      · simp [Value.ownBlock] at h
      · have := KA.size; have := HRR.out; omega
    clear HPS k4 b4 KA
    go_wp2_with fail
    go_loopw [10, 11] (fun lv iv wr => ∃ (k : Nat) (vw : Value), k ≤ c.length ∧ lv = .int .u8 ((c.take k).getLastD 0).toNat ∧ iv = .int .i64 k ∧ Rw wr r vw (fss (one12 c) 256 ++ fputs (one12 c) 0 (c.take k)) ∧ Keep [] w2 wr ∧ (∀ b, vw.ownBlock = some b → r ≤ b)) (fun _ iv _ => c.length - (intOf iv).toNat)
    case atStart => exact ⟨0, v4, Nat.zero_le _, rfl, rfl, by rw [List.take_zero, fputs, List.append_nil]; exact h4, K24, B4⟩
    case round =>
      obtain ⟨k, vw, hk, rfl, rfl, hRw, KK, hvb⟩ := hrel
      have hfl : (fss (one12 c) 256 ++ fputs (one12 c) 0 (c.take k)).length ≤ 67072 + 9 * c.length := by
        have h1 := fss_le (one12 c) 256
        have h2 := fputs_le (one12 c) 0 (c.take k)
        rw [List.length_take] at h2
        rw [List.length_append]; omega
      by_cases hx : k < c.length
      · have q1 : decide (k < c.length) = true := by simpa using hx
        have hs9 : IntKind.i64.wrap ((k : Int) + 1) = ((k + 1 : Nat) : Int) := by rw [IntKind.wrap_i64]; omega
        obtain ⟨b0, o0, cp0, e0, cellW⟩ := HCB.out.spot k hx
        obtain ⟨rfl, -⟩ : ac = some ⟨b0, o0, none⟩ ∧ cc = cp0 := by simpa using e0
        have hsn := fputs_snoc (one12 c) 0 c k hx
        have hls := last_snoc c k hx 0
        obtain ⟨y, hy⟩ : ∃ y, c[k] = y := ⟨_, rfl⟩
        rw [hy] at cellW hsn hls
        obtain ⟨P, hP⟩ : ∃ P, (c.take k).getLastD 0 = P := ⟨_, rfl⟩
        rw [hP] at hsn ⊢
        have HSN := Lib.hid hsn; have HLS := Lib.hid hls; have HCW := Lib.hid cellW
        have cell := KK.cell cellW (by simp)
        have HPT := Lib.hid (refput12_c wr r vw _ q (one12 c) (r :: vw.ownBlock.toList) P y hRw (HSO2.out wr _ KK (by
          intro x hx
          rcases List.mem_cons.1 hx with h | h
          · omega
          · exact hvb x (by simpa using h))) (by omega))
        have KKH := Lib.hid KK; have HVB := Lib.hid hvb
        clear hsn hls hy hP hRw cellW e0 hfl KK hvb
        go_wp2_with fail
        refine HPT.out.mono ?_; rintro e w5 ⟨rfl, v5, h5, k5, b5⟩
        have K25 : Keep [] w2 w5 := KKH.out.trans k5 (fun z hz => .inr (by
          have := HRR.out
          rcases List.mem_cons.1 hz with h | h
          · omega
          · have := HVB.out z (by simpa using h); omega))
        have B5 : ∀ b, v5.ownBlock = some b → r ≤ b := fun b hb => by
          rcases b5 b hb with h | h
          · exact HVB.out b h
          · have := KKH.out.size; have := HRR.out; omega
        have cell5 := K25.cell HCW.out (by simp)
        rw [List.append_assoc] at h5
        clear HPT k5 b5 cell
        go_wp2_with fail
        go_roundw
        case rel => exact ⟨k + 1, v5, by omega, by rw [HLS.out], by first | rfl | simp, by rw [HSN.out]; exact h5, K25, B5⟩
        case measure => simp [intOf]; omega
      · have q1 : decide (k < c.length) = false := by simpa using hx
        have hkc : k = c.length := by omega
        subst hkc
        rw [List.take_length] at hRw hfl ⊢
        have HBY := Lib.hid (rwbytes_c wr r vw _ hRw (by omega))
        have KKH := Lib.hid KK
        clear hx hRw hfl KK
        go_wp2_with fail
        refine HBY.out.mono ?_; rintro e w5 ⟨v5, l5, rfl, h5, t5, k5, _⟩
        go_wp2_with fail
        go_ret2
        have hl5 : l5 = ofBits (bits14 c) := toBits_inj _ _ (by rw [t5, toBits_ofBits]; rfl)
        refine ⟨v5, rfl, ?_, (K02.trans KKH.out (by simp)).trans k5 (by simp)⟩
        rw [HR.out, ← hl5]; exact h5.bs
end Go.Proofs.Yteahcpkaagjkkaa
