/- Texts put together: Fol8 -/
import Derived.Test.YteahcpkaagjkkaaPart21
import Derived.Test.YteahcpkaagjkkaaPart4
import Derived.Test.YteahcpkaagjkkaaPart1
namespace Go.Proofs.Yteahcpkaagjkkaa
open Sg
set_option linter.unusedVariables false
set_option linter.unusedSimpArgs false
set_option maxRecDepth 100000
open Go.ChangeShapes Go.WideShapes Go.ChangeAt Go.RowKit

set_option maxHeartbeats 4000000 in
theorem fol_get (w : World) (r : Nat) (v : Value) (st : RS) (V : Value) (s : Nat → List UInt8) (p : UInt8) (H : Rd w r v st) (hV : SVo w V s [r]) :
    Calls Try.prog 45 #[.pointer (some ⟨r, 0, none⟩), V, .int .u8 p.toNat] w fun e w' => e = .returned (.tuple #[.int .u8 (get14 ((s p.toNat).take 32) st).1.toNat, .int .i64 (get14 ((s p.toNat).take 32) st).2.1]) ∧ Rd w' r v (get14 ((s p.toNat).take 32) st).2.2 ∧ Keep [r] w w' := by
  obtain ⟨cs, rfl, h1, h2⟩ := hV
  obtain ⟨P, hP⟩ : ∃ P, p.toNat = P := ⟨_, rfl⟩
  have hp9 : P < 256 := by have := p.toNat_lt; omega
  have hp10 : (P : Int) < 256 := by omega
  rw [hP]
  clear hP
  obtain ⟨vp, hvp, hbp, hno⟩ := h2 P hp9
  have hcell : (w.alloc (.cells cs 66)).cell? ⟨w.heap.size, P, none⟩ = some vp := (Blk.new w cs 66).cell P vp hvp
  have KA : Keep [] w (w.alloc (.cells cs 66)) := (Keep.refl [] w).alloc _
  have HH := Lib.hid (H.keep KA (by simp) (by simp))
  have hb1 := hbp.keep KA (by simp)
  generalize s P = l at hbp hb1 hno ⊢
  have hnl : l.take 32 ≠ [] → ∀ x, vp.ownBlock = some x → x ∉ [r] := fun hne => hno (fun e => hne (by rw [e]; rfl))
  obtain ⟨L, hL⟩ : ∃ L, l.take 32 = L := ⟨_, rfl⟩
  have hL32 : L.length ≤ 32 := by rw [← hL, List.length_take]; omega
  have HCN := Lib.hid (counted_c (w.alloc (.cells cs 66)) vp l hb1)
  rw [hL] at HCN hnl ⊢
  obtain ⟨R, hR⟩ : ∃ R, get14 L st = R := ⟨_, rfl⟩
  rw [hR]
  unfold get14 at hR
  have HR := Lib.hid hR
  have HNO := Lib.hid hnl
  obtain ⟨av, cpv, rfl, _⟩ := hbp.shape
  clear h2 hvp hbp hb1 hL H h1 hR hnl hno
  go_enter Try.func45, Try.ntmps45
  go_wp2_with fail
  generalize w.alloc (.cells cs 66) = w1 at hcell KA HH HCN ⊢
  have HKA := Lib.hid (KA.nil (S := [r]))
  have HB := Lib.hid (fun n => bits_c w1 r v st n HH.out)
  have HBI := Lib.hid (bit_c w1 r v st HH.out)
  clear KA
  go_wp2_with fail
  refine HCN.out.mono ?_; rintro e w2 ⟨v2, rfl, rfl, hb2, ho2⟩
  have HB2 := Lib.hid hb2
  have HO2 := Lib.hid ho2
  obtain ⟨a2, c2, rfl, _⟩ := hb2.shape
  clear HCN hcell hb2 ho2
  by_cases h0 : L.length = 0
  · have z1 : ((L.length : Int) == 0) = true := by rw [h0]; rfl
    have hR := HR.out
    rw [if_pos h0] at hR
    have h8 := bits_lt st 8
    have e8 : ((8 : Nat) : Int) = 8 := rfl
    rw [e8] at h8
    have HB8 := Lib.hid (HB.out 8)
    generalize st.bits 8 = B at hR h8 HB8
    obtain ⟨x, st2⟩ := B
    dsimp only at hR h8 HB8
    have hx8 : IntKind.u8.wrap (x : Int) = x := by rw [IntKind.wrap_u8]; omega
    have HR2 := Lib.hid hR
    clear hR HR HB HBI h0 HNO HB2 HO2
    go_wp2_with fail
    refine HB8.out.mono ?_; rintro e w3 ⟨rfl, h3, k3⟩
    have H3 := Lib.hid h3
    have K3 := Lib.hid (HKA.out.trans k3 (fun z hz => .inl hz))
    clear h3 HB8 k3
    go_wp2_with fail
    refine (err_c w3 r v st2 H3.out).mono ?_; rintro e w4 ⟨rfl, rfl⟩
    go_wp2_with fail
    go_ret2
    rw [← HR2.out]
    refine ⟨?_, H3.out, K3.out⟩
    dsimp only
    rw [UInt8.toNat_ofNat', Nat.mod_eq_of_lt (by omega)]
    rfl
  · have z1 : ((L.length : Int) == 0) = false := by rw [beq_eq_false_iff_ne]; omega
    have hR := HR.out
    rw [if_neg h0] at hR
    have h1 := bits_lt st 1
    have e1 : ((1 : Nat) : Int) = 1 := rfl
    rw [e1] at h1
    generalize st.bits 1 = B at hR h1 HBI
    obtain ⟨x, st2⟩ := B
    dsimp only at hR h1 HBI
    clear HR HB
    by_cases hx1 : x = 1
    · have y1 : ((x : Int) == 1) = true := by rw [hx1]; rfl
      rw [if_pos hx1] at hR
      have HR2 := Lib.hid hR
      clear hR h0 hx1 HNO HB2 HO2
      go_wp2_with fail
      refine HBI.out.mono ?_; rintro e w3 ⟨rfl, h3, k3⟩
      have h8 := bits_lt st2 8
      have HB8 := Lib.hid (bits_c w3 r v st2 8 h3)
      have e8 : ((8 : Nat) : Int) = 8 := rfl
      rw [e8] at h8
      have hR := HR2.out
      generalize st2.bits 8 = B at hR h8 HB8
      obtain ⟨z, st4⟩ := B
      dsimp only at hR h8 HB8
      have hx8 : IntKind.u8.wrap (z : Int) = z := by rw [IntKind.wrap_u8]; omega
      have HR4 := Lib.hid hR
      clear hR HR2 h3 HBI
      go_wp2_with fail
      refine HB8.out.mono ?_; rintro e w5 ⟨rfl, h5, k5⟩
      have H5 := Lib.hid h5
      have K5 := Lib.hid ((HKA.out.trans k3 (fun z hz => .inl hz)).trans k5 (fun z hz => .inl hz))
      clear h5 HB8 k3 k5
      go_wp2_with fail
      refine (err_c w5 r v st4 H5.out).mono ?_; rintro e w6 ⟨rfl, rfl⟩
      go_wp2_with fail
      go_ret2
      rw [← HR4.out]
      refine ⟨?_, H5.out, K5.out⟩
      dsimp only
      rw [UInt8.toNat_ofNat', Nat.mod_eq_of_lt (by omega)]
      rfl
    · have y1 : ((x : Int) == 1) = false := by rw [beq_eq_false_iff_ne]; omega
      rw [if_neg hx1] at hR
      have HR2 := Lib.hid hR
      have HWD := Lib.hid (fun w => fol_width w L.length (by omega))
      have hW5 := widthN_le L.length
      clear hR hx1
      go_wp2_with fail
      refine HBI.out.mono ?_; rintro e w3 ⟨rfl, h3, k3⟩
      have hR := HR2.out
      have h8 := bits_lt st2 (widthN L.length)
      have hlt8 : (st2.bits (widthN L.length)).1 < 32 := Nat.lt_of_lt_of_le h8 (show 2 ^ widthN L.length ≤ 2 ^ 5 from Nat.pow_le_pow_right (by decide) hW5)
      have HB8 := Lib.hid (fun m => bits_c (w3.drewN m) r v st2 (widthN L.length) (h3.drewN m))
      clear h8
      generalize widthN L.length = W at hR hlt8 HB8 HWD hW5
      generalize st2.bits (W : Int) = B at hR hlt8 HB8
      obtain ⟨z, st4⟩ := B
      dsimp only at hR hlt8 HB8
      have HR4 := Lib.hid hR
      clear hR HR2 h3 HBI
      go_wp2_with fail
      refine (HWD.out _).mono ?_; rintro e w4 ⟨rfl, m, rfl⟩
      go_wp2_with fail
      refine (HB8.out m).mono ?_; rintro e w5 ⟨rfl, h5, k5⟩
      have H5 := Lib.hid h5
      have hk5 : Keep [r] w2 w5 := (k3.drewN m).trans k5 (fun z hz => .inl hz)
      have K5 := Lib.hid (HKA.out.trans hk5 (fun z hz => .inl hz))
      have hzw : IntKind.i64.wrap (z : Int) = z := by rw [IntKind.wrap_i64]; omega
      clear h5 HB8 k3 k5
      go_wp2_with fail
      refine (err_c w5 r v st4 H5.out).mono ?_; rintro e w6 ⟨rfl, rfl⟩
      have hR := HR4.out
      by_cases hE : st4.E = 0
      · have y2 : ((st4.E : Int) != 0) = false := by rw [hE]; rfl
        rw [if_neg (by simpa using hE)] at hR
        by_cases hk : L.length ≤ z
        · have y3 : decide ((L.length : Int) ≤ (z : Int)) = true := by simp; omega
          have y3' : decide (L.length ≤ z) = true := by simp; omega
          rw [if_pos hk] at hR
          have HR5 := Lib.hid hR
          clear hR HR4 hE hk h0 HNO HB2 HO2
          go_wp2_with fail
          go_ret2
          rw [← HR5.out]
          exact ⟨rfl, H5.out, K5.out⟩
        · have y3 : decide ((L.length : Int) ≤ (z : Int)) = false := by simp; omega
          have y3' : decide (L.length ≤ z) = false := by simp; omega
          rw [if_neg hk] at hR
          have hzL : z < L.length := by omega
          have hzL' : (z : Int) < (L.length : Int) := by omega
          have hne : L ≠ [] := by intro e; rw [e] at h0; exact h0 rfl
          have hb5 := HB2.out.keep hk5 (fun b hb => HNO.out hne b (HO2.out b hb))
          obtain ⟨b0, o0, cp0, e0, cellW⟩ := hb5.spot z hzL
          obtain ⟨rfl, -⟩ : a2 = some ⟨b0, o0, none⟩ ∧ c2 = cp0 := by simpa using e0
          have hgd : L.getD z 0 = L[z] := by rw [List.getD_eq_getElem?_getD, List.getElem?_eq_getElem hzL]; rfl
          rw [hgd] at hR
          have HR5 := Lib.hid hR
          clear hR HR4 hE hk h0 HNO HB2 HO2 hgd hb5 e0 hne
          go_wp2_with fail
          go_ret2
          rw [← HR5.out]
          exact ⟨rfl, H5.out, K5.out⟩
      · have y2 : ((st4.E : Int) != 0) = true := by simp; omega
        rw [if_pos (by simpa using hE)] at hR
        have HR5 := Lib.hid hR
        clear hR HR4 hE h0 HNO HB2 HO2
        go_wp2_with fail
        go_ret2
        rw [← HR5.out]
        exact ⟨rfl, H5.out, K5.out⟩
end Go.Proofs.Yteahcpkaagjkkaa
