/- Contract of follow's Put. No condition beyond each theorem's own premises. -/
import Derived.Test.YtlnknnmlepgjfaaFol5
import Derived.Test.YtlnknnmlepgjfaaBitWr2
namespace Go.Proofs.Ytlnknnmlepgjfaa
open Sg
set_option linter.unusedVariables false
set_option linter.unusedSimpArgs false
set_option maxRecDepth 100000
open Go.ChangeShapes Go.WideShapes Go.ChangeAt Go.RowKit

/-- sets as a value, none of whose followers lie in the blocks S -/
def SVo (w : World) (V : Value) (f : Nat → List UInt8) (S : List Nat) : Prop := ∃ cs, V = .agg cs ∧ cs.size = 256 ∧ ∀ c, c < 256 → ∃ v, cs[c]? = some v ∧ Bs w v (f c) ∧ (f c ≠ [] → ∀ x, v.ownBlock = some x → x ∉ S)
theorem SV.off {w : World} {V : Value} {f : Nat → List UInt8} {S : List Nat} (h : SV w V f) (w' : World) (k : Keep [] w w') (hS : ∀ x ∈ S, w.heap.size ≤ x) : SVo w' V f S := by
  obtain ⟨cs, rfl, h1, h2⟩ := h
  refine ⟨cs, rfl, h1, fun c hc => ?_⟩
  obtain ⟨v, a, b⟩ := h2 c hc
  exact ⟨v, a, b.keep k (by simp), fun hne x hx hm => by have := b.lt hne x hx; have := hS x hm; omega⟩
/-- a writer's blocks, one writing behind the other -/
theorem wr_trans {w w' w'' : World} {r : Nat} {v v' v'' : Value} (k1 : Keep (r :: v.ownBlock.toList) w w') (b1 : ∀ b, v'.ownBlock = some b → v.ownBlock = some b ∨ w.heap.size ≤ b) (k2 : Keep (r :: v'.ownBlock.toList) w' w'') (b2 : ∀ b, v''.ownBlock = some b → v'.ownBlock = some b ∨ w'.heap.size ≤ b) :
    Keep (r :: v.ownBlock.toList) w w'' ∧ ∀ b, v''.ownBlock = some b → v.ownBlock = some b ∨ w.heap.size ≤ b := by
  have hs := k1.size
  refine ⟨k1.trans k2 (fun x hx => ?_), fun b hb => ?_⟩
  · rcases List.mem_cons.1 hx with h | h
    · exact .inl (by rw [h]; simp)
    · rcases b1 x (by simpa using h) with h2 | h2
      · exact .inl (by simp [h2])
      · exact .inr h2
  · rcases b2 b hb with h | h
    · exact b1 b h
    · exact .inr (by omega)
theorem atU_lt (l : List UInt8) (c : UInt8) (h : 0 ≤ atU l c) : (atU l c).toNat < l.length := by
  unfold atU at h ⊢
  cases e : l.findIdx? (· == c) with
  | none => rw [e] at h; exact absurd h (by decide)
  | some i =>
    rw [List.findIdx?_eq_some_iff_getElem] at e
    simpa using e.1
theorem cln_small (n : Nat) (h : n ≤ 32) : cln (n : Int) = n := by unfold cln; omega
set_option maxHeartbeats 4000000 in
theorem fol_put (w : World) (r : Nat) (v : Value) (bs : List Bool) (V : Value) (s : Nat → List UInt8) (p c : UInt8) (H : Wr w r v bs) (hV : SVo w V s (r :: v.ownBlock.toList)) (hl : bs.length ≤ 1125899906841000) :
    Calls Try.prog 13 #[.pointer (some ⟨r, 0, none⟩), V, .int .u8 p.toNat, .int .u8 c.toNat] w fun e w' => ∃ v', e = .returned (.tuple #[]) ∧ Wr w' r v' (bs ++ fput (s p.toNat) c) ∧
      Keep (r :: v.ownBlock.toList) w w' ∧ (∀ b, v'.ownBlock = some b → v.ownBlock = some b ∨ w.heap.size ≤ b) := by
  obtain ⟨cs, rfl, h1, h2⟩ := hV
  obtain ⟨P, hP⟩ : ∃ P, p.toNat = P := ⟨_, rfl⟩
  have hp9 : P < 256 := by have := p.toNat_lt; omega
  have hp10 : (P : Int) < 256 := by omega
  rw [hP]
  clear hP
  obtain ⟨vp, hvp, hbp, _⟩ := h2 P hp9
  have hcell : (w.alloc (.cells cs 28)).cell? ⟨w.heap.size, P, none⟩ = some vp := (Blk.new w cs 28).cell P vp hvp
  have KA : Keep [] w (w.alloc (.cells cs 28)) := (Keep.refl [] w).alloc _
  have HW1 := Lib.hid (H.keep KA (by simp) (by simp))
  have hb1 := hbp.keep KA (by simp)
  have hsz : w.heap.size ≤ (w.alloc (.cells cs 28)).heap.size := KA.size
  unfold fput
  generalize s P = l at hbp hb1 ⊢
  obtain ⟨L, hL⟩ : ∃ L, l.take 32 = L := ⟨_, rfl⟩
  have hL32 : L.length ≤ 32 := by rw [← hL, List.length_take]; omega
  have HCN := Lib.hid (counted_c (w.alloc (.cells cs 28)) vp l hb1)
  rw [hL] at HCN ⊢
  obtain ⟨X, hX⟩ : ∃ X, (if L.length = 0 then bitsOf c.toNat 8 else if 0 ≤ atU L c then bitsOf 0 1 ++ bitsOf (atU L c).toNat (widthN L.length) else bitsOf 1 1 ++ bitsOf c.toNat 8) = X := ⟨_, rfl⟩
  have HX := Lib.hid hX
  rw [hX]
  clear hX
  obtain ⟨av, cpv, rfl, _⟩ := hbp.shape
  clear h2 hvp hbp hb1 hL H h1
  have hcu : IntKind.u32.wrap (c.toNat : Int) = c.toNat := by have := c.toNat_lt; simp [IntKind.wrap, IntKind.bits, IntKind.signed]; omega
  have hc9 : c.toNat < 4294967296 := by have := c.toNat_lt; omega
  go_enter Try.func13, Try.ntmps13
  go_wp2_with fail
  generalize w.alloc (.cells cs 28) = w1 at hcell KA HW1 HCN hsz ⊢
  have HKA := Lib.hid KA
  clear KA
  go_wp2_with fail
  refine HCN.out.mono ?_; rintro e w' ⟨v2, rfl, rfl, hb2, _⟩
  clear HCN hcell
  by_cases h0 : L.length = 0
  · obtain rfl : L = [] := List.eq_nil_of_length_eq_zero h0
    obtain ⟨a2, c2, rfl, _⟩ := hb2.shape
    have HP := Lib.hid (wput_c w' r v bs c.toNat 8 hc9 HW1.out (by omega))
    have HX2 : Hid (bitsOf c.toNat 8 = X) := by rw [← HX.out]; rfl
    clear h0 hb2 hL32 HX
    go_wp2_with fail
    refine HP.out.mono ?_; rintro e w3 ⟨v3, rfl, h3, k3, b3⟩
    have H3 := Lib.hid h3
    have K3 : Hid (Keep (r :: v.ownBlock.toList) w w3) := (HKA.out.mono (by simp)).trans k3 (fun x hx => .inl hx)
    have B3 : Hid (∀ b, v3.ownBlock = some b → v.ownBlock = some b ∨ w.heap.size ≤ b) := fun b hb => by
      rcases b3 b hb with h | h
      · exact .inl h
      · exact .inr (by omega)
    clear h3 k3 b3
    go_wp2_with fail
    refine bodyPost_ret (results_none rfl _ _ _) rfl ?_
    exact ⟨v3, rfl, by rw [← HX2.out]; exact H3.out, K3.out, B3.out⟩
  · have hpos : 0 < L.length := by omega
    have HIB := Lib.hid (indexbyte_c w' v2 L c hb2 hpos)
    obtain ⟨a2, c2, rfl, _⟩ := hb2.shape
    have hne : ((L.length : Int) == 0) = false := by rw [beq_eq_false_iff_ne]; omega
    have HX2 : Hid ((if 0 ≤ atU L c then bitsOf 0 1 ++ bitsOf (atU L c).toNat (widthN L.length) else bitsOf 1 1 ++ bitsOf c.toNat 8) = X) := by rw [← HX.out, if_neg h0]; rfl
    clear HX
    by_cases hat : 0 ≤ atU L c
    · have hlt := atU_lt L c hat
      rw [if_pos hat] at HX2
      obtain ⟨k, hk⟩ : ∃ k : Nat, atU L c = (k : Int) := ⟨(atU L c).toNat, by omega⟩
      rw [hk] at HIB hlt HX2
      rw [Int.toNat_natCast] at hlt HX2
      have hkd : ¬ ((k : Int) < 0) := by omega
      have hku : IntKind.u32.wrap (k : Int) = k := by simp [IntKind.wrap, IntKind.bits, IntKind.signed]; omega
      have HP := Lib.hid (wput_c w' r v bs 0 1 (by decide) HW1.out (by omega))
      have HWD := Lib.hid (fun w => fol_width w L.length (by omega))
      have hW5 := widthN_le L.length
      generalize widthN L.length = W at HWD hW5 HX2
      clear hat hk h0 hb2
      go_wp2_with fail
      refine HIB.out.mono ?_; rintro e w3 ⟨rfl, rfl⟩
      clear HIB
      go_wp2_with fail
      refine HP.out.mono ?_; rintro e w4 ⟨v4, rfl, h4, k4, b4⟩
      clear HP
      have H4 := Lib.hid h4
      have K4 := Lib.hid k4
      have B4 := Lib.hid b4
      clear h4 k4 b4
      go_wp2_with fail
      refine (HWD.out w4).mono ?_; rintro e w5 ⟨rfl, m, rfl⟩
      have H5 : Wr (w4.drewN m) r v4 (bs ++ bitsOf 0 (cln 1)) := H4.out.keep ((Keep.refl [] w4).drewN m) (by simp) (by simp)
      have HP := Lib.hid (wput_c (w4.drewN m) r v4 _ k (W : Int) (by omega) H5 (by rw [List.length_append, bitsOf_length]; have : cln 1 = 1 := rfl; omega))
      clear H5
      go_wp2_with fail
      refine HP.out.mono ?_; rintro e w6 ⟨v6, rfl, h6, k6, b6⟩
      rw [cln_small W (by omega), List.append_assoc] at h6
      have H6 : Hid (Wr w6 r v6 (bs ++ (bitsOf 0 1 ++ bitsOf k W))) := h6
      obtain ⟨k46, b46⟩ := wr_trans (K4.out.trans ((Keep.refl [] w4).drewN m) (by simp)) B4.out k6 (fun b hb => b6 b hb)
      have K6 : Hid (Keep (r :: v.ownBlock.toList) w w6) := (HKA.out.mono (by simp)).trans k46 (fun x hx => .inl hx)
      have B6 : Hid (∀ b, v6.ownBlock = some b → v.ownBlock = some b ∨ w.heap.size ≤ b) := fun b hb => by
        rcases b46 b hb with h | h
        · exact .inl h
        · exact .inr (by omega)
      clear h6 k6 b6 k46 b46 HP HWD
      go_wp2_with fail
      go_end0
      exact ⟨v6, rfl, by rw [← HX2.out]; exact H6.out, K6.out, B6.out⟩
    · rw [if_neg hat] at HX2
      obtain ⟨z, hz⟩ : ∃ z, atU L c = z := ⟨_, rfl⟩
      rw [hz] at HIB hat
      have hzd : z < 0 := by omega
      have HP := Lib.hid (wput_c w' r v bs 1 1 (by decide) HW1.out (by omega))
      clear hat hz h0 hb2
      go_wp2_with fail
      refine HIB.out.mono ?_; rintro e w3 ⟨rfl, rfl⟩
      clear HIB
      go_wp2_with fail
      refine HP.out.mono ?_; rintro e w4 ⟨v4, rfl, h4, k4, b4⟩
      clear HP
      have HP := Lib.hid (wput_c w4 r v4 _ c.toNat 8 hc9 h4 (by rw [List.length_append, bitsOf_length]; have : cln 1 = 1 := rfl; omega))
      have K4 := Lib.hid k4
      have B4 := Lib.hid b4
      clear h4 k4 b4
      go_wp2_with fail
      refine HP.out.mono ?_; rintro e w6 ⟨v6, rfl, h6, k6, b6⟩
      rw [List.append_assoc] at h6
      have H6 : Hid (Wr w6 r v6 (bs ++ (bitsOf 1 1 ++ bitsOf c.toNat 8))) := h6
      obtain ⟨k46, b46⟩ := wr_trans K4.out B4.out k6 b6
      have K6 : Hid (Keep (r :: v.ownBlock.toList) w w6) := (HKA.out.mono (by simp)).trans k46 (fun x hx => .inl hx)
      have B6 : Hid (∀ b, v6.ownBlock = some b → v.ownBlock = some b ∨ w.heap.size ≤ b) := fun b hb => by
        rcases b46 b hb with h | h
        · exact .inl h
        · exact .inr (by omega)
      clear h6 k6 b6 k46 b46 HP
      go_wp2_with fail
      refine bodyPost_ret (results_none rfl _ _ _) rfl ?_
      exact ⟨v6, rfl, by rw [← HX2.out]; exact H6.out, K6.out, B6.out⟩
end Go.Proofs.Ytlnknnmlepgjfaa
