/- Texts put together: RefRed3 RefRed4 RefRed6 -/
import Derived.Test.YteahcpkaagjkkaaPart20
import Derived.Test.YteahcpkaagjkkaaPart4
import Derived.Test.YteahcpkaagjkkaaPart3
import Derived.Deep.RegionWith
namespace Go.Proofs.Yteahcpkaagjkkaa
set_option linter.unusedVariables false
set_option linter.unusedSimpArgs false
set_option maxRecDepth 100000
open Go.ChangeShapes Go.WideShapes Go.ChangeAt Go.RowKit

theorem Rr.err {w : World} {q : Nat} {v : Value} {s : RS} (h : Rr w q v s) : w.cell? ⟨q, 2, none⟩ = some (.int .i64 s.E) := by
  rw [h.E]; exact h.1.cell 2 _ rfl
set_option maxHeartbeats 4000000 in
theorem refget12_c (w : World) (r : Nat) (v : Value) (st : RS) (q : Nat) (s : Nat → List UInt8) (p : UInt8) (H : Rr w r v st) (hS : SBo w q 94 s [r]) :
    Calls Try.prog 25 #[.pointer (some ⟨r, 0, none⟩), .pointer (some ⟨q, 0, none⟩), .int .u8 p.toNat] w fun e w' => e = .returned (.tuple #[.int .u8 (get14 ((s p.toNat).take 32) st).1.toNat, .int .i64 (get14 ((s p.toNat).take 32) st).2.1]) ∧ Rr w' r v (get14 ((s p.toNat).take 32) st).2.2 ∧ Keep [r] w w' := by
  obtain ⟨P, hP⟩ : ∃ P, p.toNat = P := ⟨_, rfl⟩
  have hp9 : P < 256 := by have := p.toNat_lt; omega
  have hp10 : (P : Int) < 256 := by omega
  rw [hP]
  clear hP
  obtain ⟨vp, cell, hbp, hno⟩ := hS.cell P hp9
  generalize s P = l at hbp hno ⊢
  have HCN := Lib.hid (rcut12_c w vp l hbp)
  have hnl : l.take 32 ≠ [] → ∀ x, vp.ownBlock = some x → x ∉ [r] := fun hne => hno (fun e => hne (by rw [e]; rfl))
  obtain ⟨L, hL⟩ : ∃ L, l.take 32 = L := ⟨_, rfl⟩
  have hL32 : L.length ≤ 32 := by rw [← hL, List.length_take]; omega
  rw [hL] at HCN hnl ⊢
  obtain ⟨R, hR⟩ : ∃ R, get14 L st = R := ⟨_, rfl⟩
  rw [hR]
  unfold get14 at hR
  have HR := Lib.hid hR
  have HNO := Lib.hid hnl
  have HH := Lib.hid H
  have HB := Lib.hid (fun n => rbits_c w r v st n H)
  obtain ⟨av, cpv, rfl, _⟩ := hbp.shape
  clear hR hnl hL hbp hno hS H
  go_enter Try.func25, Try.ntmps25
  go_wp2_with fail
  refine HCN.out.mono ?_; rintro e w1 ⟨v2, rfl, hb2, ho2, rfl⟩
  have HB2 := Lib.hid hb2
  have HO2 := Lib.hid ho2
  obtain ⟨a2, c2, rfl, _⟩ := hb2.shape
  clear HCN cell hb2 ho2
  by_cases h0 : L.length = 0
  · have z1 : decide (0 < L.length) = false := by rw [h0]; rfl
    have z1' : decide ((0 : Int) < (L.length : Int)) = false := by rw [h0]; rfl
    have hR := HR.out
    rw [if_pos h0] at hR
    have h8 := bits_lt st 8
    have HB8 := Lib.hid (HB.out 8)
    have e8 : ((8 : Nat) : Int) = 8 := rfl
    rw [e8] at h8
    generalize st.bits 8 = B at hR h8 HB8
    obtain ⟨x, st2⟩ := B
    dsimp only at hR h8 HB8
    have hx8 : IntKind.u8.wrap (x : Int) = x := by rw [IntKind.wrap_u8]; omega
    have HR2 := Lib.hid hR
    clear hR HR HB h0 HNO HB2 HO2
    go_wp2_with fail
    refine HB8.out.mono ?_; rintro e w3 ⟨rfl, h3, k3⟩
    have c9 := h3.err
    have H3 := Lib.hid h3
    clear h3 HB8
    go_wp2_with fail
    go_quiet (fail)
    go_wp2_with fail
    go_ret2
    rw [← HR2.out]
    refine ⟨?_, H3.out.drewN _, k3.drewN _⟩
    dsimp only
    rw [UInt8.toNat_ofNat', Nat.mod_eq_of_lt (by omega)]
    rfl
  · have z1 : decide (0 < L.length) = true := by simp; omega
    have z1' : decide ((0 : Int) < (L.length : Int)) = true := by simp; omega
    have hR := HR.out
    rw [if_neg h0] at hR
    have h1 := bits_lt st 1
    have HB1 := Lib.hid (HB.out 1)
    have e1 : ((1 : Nat) : Int) = 1 := rfl
    rw [e1] at h1
    generalize st.bits 1 = B at hR h1 HB1
    obtain ⟨x, st2⟩ := B
    dsimp only at hR h1 HB1
    clear HR HB
    by_cases hx1 : x = 1
    · have y1 : ((x : Int) == 0) = false := by simp; omega
      rw [if_pos hx1] at hR
      have HR2 := Lib.hid hR
      clear hR h0 hx1 HNO HB2 HO2
      go_wp2_with fail
      refine HB1.out.mono ?_; rintro e w3 ⟨rfl, h3, k3⟩
      have h8 := bits_lt st2 8
      have HB8 := Lib.hid (rbits_c w3 r v st2 8 h3)
      have e8 : ((8 : Nat) : Int) = 8 := rfl
      rw [e8] at h8
      have hR := HR2.out
      generalize st2.bits 8 = B at hR h8 HB8
      obtain ⟨z, st4⟩ := B
      dsimp only at hR h8 HB8
      have hx8 : IntKind.u8.wrap (z : Int) = z := by rw [IntKind.wrap_u8]; omega
      have HR4 := Lib.hid hR
      clear hR HR2 h3 HB1
      go_wp2_with fail
      refine HB8.out.mono ?_; rintro e w5 ⟨rfl, h5, k5⟩
      have c9 := h5.err
      have H5 := Lib.hid h5
      have K5 := Lib.hid (k3.trans k5 (fun z hz => .inl hz))
      clear h5 HB8 k3 k5
      go_wp2_with fail
      go_quiet (fail)
      go_wp2_with fail
      go_ret2
      rw [← HR4.out]
      refine ⟨?_, H5.out.drewN _, K5.out.drewN _⟩
      dsimp only
      rw [UInt8.toNat_ofNat', Nat.mod_eq_of_lt (by omega)]
      rfl
    · have hx0 : x = 0 := by omega
      have y1 : ((x : Int) == 0) = true := by simp; omega
      rw [if_neg hx1] at hR
      have HR2 := Lib.hid hR
      have HWD := Lib.hid (fun w => width_c w L.length (by omega))
      have hW5 := widthN_le L.length
      clear hR hx1 hx0
      go_wp2_with fail
      refine HB1.out.mono ?_; rintro e w3 ⟨rfl, h3, k3⟩
      have hR := HR2.out
      have h8 := bits_lt st2 (widthN L.length)
      have HB8 := Lib.hid (rbits_c w3 r v st2 (widthN L.length) h3)
      have hlt8 : (st2.bits (widthN L.length)).1 < 32 := Nat.lt_of_lt_of_le h8 (show 2 ^ widthN L.length ≤ 2 ^ 5 from Nat.pow_le_pow_right (by decide) hW5)
      clear h8
      generalize widthN L.length = W at hR hlt8 HB8 HWD hW5
      generalize st2.bits (W : Int) = B at hR hlt8 HB8
      obtain ⟨z, st4⟩ := B
      dsimp only at hR hlt8 HB8
      have HR4 := Lib.hid hR
      clear hR HR2 h3 HB1
      go_wp2_with fail
      refine (HWD.out _).mono ?_; rintro e w4 ⟨rfl, rfl⟩
      go_wp2_with fail
      refine HB8.out.mono ?_; rintro e w5 ⟨rfl, h5, k5⟩
      have c9 := h5.err
      have H5 := Lib.hid h5
      have hk5 := k3.trans k5 (fun z hz => .inl hz)
      have K5 := Lib.hid hk5
      have hzw : IntKind.i64.wrap (z : Int) = z := by rw [IntKind.wrap_i64]; omega
      clear h5 HB8 k3 k5
      have hR := HR4.out
      by_cases hE : st4.E = 0
      · have y2 : ((st4.E : Int) != 0) = false := by rw [hE]; rfl
        rw [if_neg (by simpa using hE)] at hR
        by_cases hk : L.length ≤ z
        · have y3 : decide ((L.length : Int) ≤ (z : Int)) = true := by simp; omega
          have y3' : decide (L.length ≤ z) = true := by simp; omega
          rw [if_pos hk] at hR
          have HR5 := Lib.hid hR
          clear hR HR4 hE hk h0 HNO HB2 HO2
          go_wp2_with fail
          go_ret2
          rw [← HR5.out]
          exact ⟨rfl, H5.out, K5.out⟩
        · have y3 : decide ((L.length : Int) ≤ (z : Int)) = false := by simp; omega
          have y3' : decide (L.length ≤ z) = false := by simp; omega
          rw [if_neg hk] at hR
          have hzL : z < L.length := by omega
          have hzL' : (z : Int) < (L.length : Int) := by omega
          have hne : L ≠ [] := by intro e; rw [e] at h0; exact h0 rfl
          have hb5 := HB2.out.keep hk5 (fun b hb => HNO.out hne b (by rw [← HO2.out]; exact hb))
          obtain ⟨b0, o0, cp0, e0, cellW⟩ := hb5.spot z hzL
          obtain ⟨rfl, -⟩ : a2 = some ⟨b0, o0, none⟩ ∧ c2 = cp0 := by simpa using e0
          have hgd : L.getD z 0 = L[z] := by rw [List.getD_eq_getElem?_getD, List.getElem?_eq_getElem hzL]; rfl
          rw [hgd] at hR
          have HR5 := Lib.hid hR
          clear hR HR4 hE hk h0 HNO HB2 HO2 hgd hb5 e0 hne
          go_wp2_with fail
          go_ret2
          rw [← HR5.out]
          exact ⟨rfl, H5.out, K5.out⟩
      · have y2 : ((st4.E : Int) != 0) = true := by simp; omega
        rw [if_pos (by simpa using hE)] at hR
        have HR5 := Lib.hid hR
        clear hR HR4 hE h0 HNO HB2 HO2
        go_wp2_with fail
        go_quiet (fail)
        go_wp2_with fail
        go_ret2
        rw [← HR5.out]
        exact ⟨rfl, H5.out.drewN _, K5.out.drewN _⟩
end Go.Proofs.Yteahcpkaagjkkaa
namespace Go.Proofs.Yteahcpkaagjkkaa
set_option linter.unusedVariables false
set_option linter.unusedSimpArgs false
set_option maxRecDepth 100000
open Go.ChangeShapes Go.WideShapes Go.ChangeAt Go.RowKit

theorem gs14_form (r : RS) (j : Nat) (hj : j ≤ 256) (h : (gsF r j).1 ≠ 0) : gs14 r = ((gsF r j).1, fun _ => [], (gsF r j).2.2) := by
  have e := gsF_form r j (256 - j) h
  rw [Nat.add_sub_cancel' hj] at e
  show gsEnd (gsF r 256) = _
  rw [e]
  unfold gsEnd
  rw [if_pos h]
theorem gs14_err (r : RS) (j : Nat) (hj : j ≤ 256) (h0 : (gsF r j).1 = 0) (h : (gsF r j).2.2.E ≠ 0) : gs14 r = ((gsF r j).2.2.E, fun _ => [], (gsF r j).2.2) := by
  have e := gsF_err r j (256 - j) h0 h
  rw [Nat.add_sub_cancel' hj] at e
  show gsEnd (gsF r 256) = _
  unfold gsEnd
  rw [if_neg (by rw [e.1]; simp), e.2, if_pos h]
theorem gs14_done (r : RS) (h0 : (gsF r 256).1 = 0) (h : (gsF r 256).2.2.E = 0) : gs14 r = (0, (gsF r 256).2.1, (gsF r 256).2.2) := by
  show gsEnd (gsF r 256) = _
  unfold gsEnd
  rw [if_neg (by rw [h0]; simp), if_neg (by rw [h]; simp)]
/-- sets in the block q, all in blocks from N on -/
def SBn (w : World) (q : Nat) (t : TypeId) (f : Nat → List UInt8) (N : Nat) : Prop := ∃ cs, Blk w q cs t ∧ cs.size = 256 ∧ N ≤ q ∧ ∀ c, c < 256 → ∃ v, cs[c]? = some v ∧ Bs w v (f c) ∧ (∀ x, v.ownBlock = some x → N ≤ x ∧ x ≠ q)
theorem SBn.off {w : World} {q N : Nat} {t : TypeId} {f : Nat → List UInt8} (h : SBn w q t f N) (S : List Nat) (hS : ∀ x ∈ S, x < N) : SBo w q t f S := by
  obtain ⟨cs, h1, h2, h3, h4⟩ := h
  refine ⟨cs, h1, h2, fun hm => by have := hS q hm; omega, fun c hc => ?_⟩
  obtain ⟨v, a, b, d⟩ := h4 c hc
  exact ⟨v, a, b, fun _ x hx hm => by have := (d x hx).1; have := hS x hm; omega⟩
theorem SBn.keep {w w' : World} {q N : Nat} {t : TypeId} {f : Nat → List UInt8} {S : List Nat} (h : SBn w q t f N) (k : Keep S w w') (hS : ∀ x ∈ S, x < N) : SBn w' q t f N := by
  obtain ⟨cs, h1, h2, h3, h4⟩ := h
  refine ⟨cs, h1.keep k (fun hm => by have := hS q hm; omega), h2, h3, fun c hc => ?_⟩
  obtain ⟨v, a, b, d⟩ := h4 c hc
  exact ⟨v, a, b.keep k (fun x hx hm => by have := (d x hx).1; have := hS x hm; omega), d⟩
theorem SBn.congr {w : World} {q N : Nat} {t : TypeId} {f f' : Nat → List UInt8} (h : SBn w q t f N) (e : ∀ c, c < 256 → f c = f' c) : SBn w q t f' N := by
  obtain ⟨cs, h1, h2, h3, h4⟩ := h
  exact ⟨cs, h1, h2, h3, fun c hc => by rw [← e c hc]; exact h4 c hc⟩
theorem SBn.cell {w : World} {q N : Nat} {t : TypeId} {f : Nat → List UInt8} (h : SBn w q t f N) (c : Nat) (hc : c < 256) : ∃ v, w.cell? ⟨q, c, none⟩ = some v := by
  obtain ⟨cs, h1, h2, h3, h4⟩ := h
  obtain ⟨v, a, b, d⟩ := h4 c hc
  exact ⟨v, h1.cell c _ a⟩
theorem SBn.free {w : World} {q N : Nat} {t : TypeId} {f : Nat → List UInt8} (h : SBn w q t f N) (c : Nat) : w.frozen? ⟨q, c, none⟩ = false := by
  obtain ⟨cs, h1, _⟩ := h; exact h1.free c
theorem SBn.set {w : World} {q N : Nat} {t : TypeId} {f : Nat → List UInt8} (h : SBn w q t f N) (c : Nat) (v : Value) (l : List UInt8) (hv : Bs w v l) (hq : ∀ x, v.ownBlock = some x → N ≤ x ∧ x ≠ q) : SBn (w.setCell ⟨q, c, none⟩ v) q t (fun i => if i = c then l else f i) N := by
  obtain ⟨cs, h1, h2, h3, h4⟩ := h
  have KC : Keep [q] w (w.setCell ⟨q, c, none⟩ v) := (Keep.refl [q] w).setCell (by simp) _
  refine ⟨_, h1.set c v, by simp [h2], h3, fun i hi => ?_⟩
  rw [Array.getElem?_setIfInBounds, h2]
  by_cases e : i = c
  · subst e
    rw [if_pos rfl, if_pos hi]
    exact ⟨v, rfl, by show Bs _ v (if i = i then l else f i); rw [if_pos rfl]; exact hv.keep KC (by intro b hb; have := (hq b hb).2; simpa using this), hq⟩
  · rw [if_neg (fun h => e h.symm)]
    obtain ⟨u, a, b, d⟩ := h4 i hi
    exact ⟨u, a, by show Bs _ u (if i = c then l else f i); rw [if_neg e]; exact b.keep KC (by intro z hz; have := (d z hz).2; simpa using this), d⟩
theorem SBn.zero {w : World} {q N : Nat} {t : TypeId} (h : Blk w q zset t) (hN : N ≤ q) : SBn w q t (fun _ => []) N := by
  refine ⟨zset, h, by simp [zset], hN, fun c hc => ⟨.slice none 0 0, ?_, Bs.nil _, by simp [Value.ownBlock]⟩⟩
  simp [zset, hc]
set_option maxHeartbeats 4000000 in
theorem refgetsets12_c (w : World) (r : Nat) (v : Value) (st : RS) (H : Rr w r v st) (hv : st.l ≠ [] → ∀ b, v.ownBlock = some b → b < w.heap.size) :
    Calls Try.prog 23 #[.pointer (some ⟨r, 0, none⟩)] w fun e w' => ∃ q, e = .returned (.tuple #[.pointer (some ⟨q, 0, none⟩), .int .i64 (gs14 st).1]) ∧ Rr w' r v (gs14 st).2.2 ∧ Keep [r] w w' ∧ ((gs14 st).1 = 0 → SBn w' q 94 (gs14 st).2.1 w.heap.size) := by
  obtain ⟨R, hR⟩ : ∃ R, gs14 st = R := ⟨_, rfl⟩
  have HR := Lib.hid hR
  rw [hR]
  clear hR
  have hz := (zero_of_info (P := Try.prog) setsInfo).1
  have hrs := H.1.lt
  have KA : Keep [] w (w.alloc (.cells zset 94)) := (Keep.refl [] w).alloc _
  have HZ0 : SBn (w.alloc (.cells zset 94)) w.heap.size 94 (fun _ => []) w.heap.size := SBn.zero (Blk.new w _ _) (Nat.le_refl _)
  have H1 := H.keep KA (by simp) (by simp)
  generalize zset = Z at hz KA HZ0 H1
  go_enter Try.func23, Try.ntmps23
  go_wp2_with fail
  obtain ⟨N, hN⟩ : ∃ N, w.heap.size = N := ⟨_, rfl⟩
  rw [hN] at HZ0 hrs hv ⊢
  generalize w.alloc (.cells Z 94) = w0 at KA HZ0 H1 ⊢
  have hbad : ∀ (wr : World) (S : World → Prop), True := fun _ _ => trivial
  go_loopw [5] (fun iv wr => ∃ (j : Nat), j ≤ 256 ∧ iv = .int .i64 (255 - (j : Int)) ∧ (gsF st j).1 = 0 ∧ Rr wr r v (gsF st j).2.2 ∧ (j = 0 ∨ (gsF st j).2.2.E = 0) ∧ Keep [r] w wr ∧ SBn wr N 94 (gsF st j).2.1 N) (fun iv _ => ((intOf iv) + 1).toNat)
  case atStart => exact ⟨0, by omega, rfl, by rw [gsF], by rw [gsF]; exact H1, .inl rfl, KA.nil, by rw [gsF]; exact HZ0⟩
  case round =>
    obtain ⟨j, hj, rfl, hg0, hRr, hE, KK, hSB⟩ := hrel
    obtain ⟨wo, rfl⟩ : ∃ wo, wo = wr := ⟨_, rfl⟩
    by_cases hj2 : j = 256
    · subst hj2
      have e : (255 - ((256 : Nat) : Int)) = -1 := rfl
      rw [e]
      have hE2 : (gsF st 256).2.2.E = 0 := by rcases hE with h | h; exact absurd h (by decide); exact h
      have hd := gs14_done st hg0 hE2
      rw [HR.out] at hd
      have HD := Lib.hid hd
      generalize gsF st 256 = G at *
      clear hd hE hE2 hg0 hz
      go_wp2_with fail
      go_ret2
      rw [HD.out]
      exact ⟨N, rfl, hRr, KK, fun _ => by rw [hN]; exact hSB⟩
    · obtain ⟨c, hc⟩ : ∃ c, 255 - j = c := ⟨_, rfl⟩
      have e : (255 - (j : Int)) = (c : Int) := by omega
      rw [e]
      have q0 : decide ((0 : Int) ≤ (c : Int)) = true := by simp
      have hc1 : (c : Int) < 256 := by omega
      have hc2 : c < 256 := by omega
      have hs1 : IntKind.i64.wrap ((c : Int) - 1) = (c : Int) - 1 := by rw [IntKind.wrap_i64]; omega
      have hnx : gsF st (j + 1) = (if 32 < ((gsF st j).2.2.bits 6).1 then (4, fun _ => [], ((gsF st j).2.2.bits 6).2)
        else (0, fun i => if i = c then (((gsF st j).2.2.bits 6).2.byt ((gsF st j).2.2.bits 6).1).1 else (gsF st j).2.1 i, (((gsF st j).2.2.bits 6).2.byt ((gsF st j).2.2.bits 6).1).2)) := by
        rw [gsF, if_neg (by rw [hg0]; simp), hc]
      have hform := gs14_form st (j + 1) (by omega)
      have herr := gs14_err st (j + 1) (by omega)
      rw [HR.out] at hform herr
      obtain ⟨G1, hG1⟩ : ∃ G1, gsF st (j + 1) = G1 := ⟨_, rfl⟩
      have HG1 := Lib.hid hG1
      rw [hG1] at hnx hform herr
      have HB6 := rbits_c wo r v _ 6 hRr
      have h6 := bits_lt (gsF st j).2.2 6
      have e6 : ((6 : Nat) : Int) = 6 := rfl
      rw [e6] at h6
      obtain ⟨f0, hf0⟩ : ∃ f0, (gsF st j).2.1 = f0 := ⟨_, rfl⟩
      rw [hf0] at hnx hSB
      have hst1 : ((gsF st j).2.2.bits 6).2.l = st.l := ((gsF st j).2.2.bits_keep 6).1.trans (gsF_keep st j).1
      generalize (gsF st j).2.2.bits 6 = B at HB6 h6 hnx hst1
      obtain ⟨n, st1⟩ := B
      dsimp only at HB6 h6 hnx hst1
      have HB6 := Lib.hid HB6; have HNX := Lib.hid hnx; have HFM := Lib.hid hform; have HER := Lib.hid herr
      have hnw : IntKind.i64.wrap (n : Int) = n := by rw [IntKind.wrap_i64]; omega
      have HSB := Lib.hid hSB
      have hr0 : ∀ x ∈ [r], x < N := by simpa using hrs
      clear hnx hform herr hG1 hg0 hRr hE hf0 hSB hc
      by_cases hn : 32 < n
      · have y1 : decide ((32 : Int) < (n : Int)) = true := by simp; omega
        have y1' : decide (32 < n) = true := by simpa using hn
        have hx := HNX.out
        rw [if_pos hn] at hx
        have hfm := HFM.out (by rw [hx]; simp)
        rw [hx] at hfm
        have HF2 := Lib.hid hfm
        clear hn hx hfm HNX HFM HER HG1
        go_wp2_with fail
        refine HB6.out.mono ?_; rintro e w3 ⟨rfl, h3, k3⟩
        have H3 := Lib.hid h3
        have K3 := Lib.hid (KK.trans k3 (fun z hz => .inl hz))
        clear h3 k3 HB6 KK
        go_wp2_with fail
        go_ret2
        rw [HF2.out]
        exact ⟨_, rfl, H3.out.keep ((Keep.refl [] w3).alloc _) (by simp) (by simp), K3.out.alloc _, fun h => by cases h⟩
      · have y1 : decide ((32 : Int) < (n : Int)) = false := by simp; omega
        have y1' : decide (32 < n) = false := by simpa using hn
        have hx := HNX.out
        rw [if_neg hn] at hx
        have HX := Lib.hid hx
        have hn32 : n ≤ 32 := by omega
        clear hn hx HNX HFM
        go_wp2_with fail
        refine HB6.out.mono ?_; rintro e w3 ⟨rfl, h3, k3⟩
        have hS3 := HSB.out.keep k3 hr0
        have hK3 := KK.trans k3 (fun z hz => .inl hz)
        have hN3 : N < w3.heap.size := by obtain ⟨cs, b, _⟩ := hS3; exact b.lt
        clear k3 HB6 KK HSB
        go_wp2_with fail
        go_loopw [7, 8] (fun lv kv wr => ∃ (k : Nat), k ≤ n ∧ kv = .int .i64 k ∧ OwnB wr lv (st1.byt k).1 ∧ Rr wr r v (st1.byt k).2 ∧ Keep [r] w3 wr ∧ (∀ x, lv.ownBlock = some x → w3.heap.size ≤ x)) (fun _ kv _ => n - (intOf kv).toNat)
        case atStart => exact ⟨0, Nat.zero_le _, rfl, OwnB.nil _, h3, Keep.refl _ _, by simp [Value.ownBlock]⟩
        case round =>
          obtain ⟨k, hk, rfl, hO, hR2, K2, hlo⟩ := hrel
          by_cases hkn : k < n
          · have q1 : decide (k < n) = true := by simpa using hkn
            have hs9 : IntKind.i64.wrap ((k : Int) + 1) = ((k + 1 : Nat) : Int) := by rw [IntKind.wrap_i64]; omega
            have HB8 := rbits_c wr r v _ 8 hR2
            have h8 := bits_lt (st1.byt k).2 8
            have e8 : ((8 : Nat) : Int) = 8 := rfl
            rw [e8] at h8
            have hby : st1.byt (k + 1) = ((st1.byt k).1 ++ [UInt8.ofNat ((st1.byt k).2.bits 8).1], ((st1.byt k).2.bits 8).2) := rfl
            have hbl := st1.byt_len k
            have hl5 : ((st1.byt k).2.bits 8).2.l = st.l := ((st1.byt k).2.bits_keep 8).1.trans ((st1.byt_keep k).1.trans hst1)
            generalize (st1.byt k).2.bits 8 = B at HB8 h8 hby hl5
            obtain ⟨z, st5⟩ := B
            dsimp only at HB8 h8 hby hl5
            have hz8 : IntKind.u8.wrap (z : Int) = z := by rw [IntKind.wrap_u8]; omega
            have HB8 := Lib.hid HB8; have HBY := Lib.hid hby
            generalize (st1.byt k).1 = l at hO hbl HBY
            have yz : (UInt8.ofNat z).toNat = z := by rw [UInt8.toNat_ofNat']; omega
            clear hby
            go_wp2_with fail
            refine HB8.out.mono ?_; rintro e w5 ⟨rfl, h5, k5⟩
            have hl3 := Bs.new1 w5 (UInt8.ofNat z)
            rw [yz] at hl3
            have HL3 := Lib.hid hl3
            have KA5 := (Keep.refl [] w5).alloc (.cells #[.int .u8 (z : Int)] 5)
            have hO5 := (hO.keep k5 (by intro b hb hm; have := hlo b hb; have : b = r := by simpa using hm
                                        omega)).keep KA5 (by simp)
            have HLL : Hid (l.length + [UInt8.ofNat z].length ≤ 140737488355328) := by unfold Hid; simp; omega
            have K5 : Keep [r] w3 w5 := K2.trans k5 (fun z hz => .inl hz)
            clear hl3 HB8 k5 K2 hO
            go_wp2_with (at_builtin; (refine wpList_appendB (.tmp 27) (.tmp 31) rfl rfl u7 l rfl hO5 _ [UInt8.ofNat z] rfl HL3.out HLL.out ?_); (intro v6 w6 ho6 hk6 hb6 hz6))
            go_roundw
            case rel =>
              have hk56 : Keep u7.ownBlock.toList w5 w6 := (KA5.nil (S := u7.ownBlock.toList)).trans hk6 (fun z hz => .inl hz)
              have hlt : ∀ x ∈ u7.ownBlock.toList, x ≠ r ∧ w3.heap.size ≤ x := fun x hx => by
                have := hlo x (by simpa using hx)
                exact ⟨by omega, this⟩
              refine ⟨k + 1, by omega, by first | rfl | simp, by rw [HBY.out]; exact ho6, by rw [HBY.out]; exact h5.keep hk56 (fun hm => (hlt r hm).1 rfl) (fun hne b hb hm => by have := hv (by rw [← hl5]; exact hne) b hb; have := (hlt b hm).2; omega), ?_, ?_⟩
              · exact K5.trans hk56 (fun x hx => .inr (hlt x hx).2)
              · intro x hx
                rcases hb6 x hx with h | h
                · exact hlo x h
                · rw [h]; simp; have := K5.size; omega
            case measure => simp [intOf]; omega
          · have q1 : decide (k < n) = false := by simpa using hkn
            have hkk : k = n := by omega
            subst hkk
            clear hkn
            have hx := HX.out
            have hes := hR2.err
            have hS4 := hS3.keep K2 hr0
            have hK4 := hK3.trans K2 (fun z hz => .inl hz)
            have herr := HER.out
            rw [hx] at herr
            dsimp only at herr
            have hG := HG1.out
            rw [hx] at hG
            have hl6 : (st1.byt k).2.l = st.l := (st1.byt_keep k).1.trans hst1
            generalize st1.byt k = B at hO hR2 hes herr hG hl6
            obtain ⟨l, st6⟩ := B
            dsimp only at hO hR2 hes herr hG hl6
            have HG := Lib.hid hG
            by_cases hE6 : st6.E = 0
            · have y5 : ((st6.E : Int) != 0) = false := by rw [hE6]; rfl
              have HE6 := Lib.hid hE6
              obtain ⟨vc, cellc⟩ := hS4.cell c hc2
              have fc := hS4.free c
              have hS5 := hS4.set c u7 l hO.bs (fun x hx => by have := hlo x hx; omega)
              obtain ⟨a7, n7, c7, rfl⟩ := hO.shape
              have HOB := Lib.hid hO
              have hNr : r ≠ N := by omega
              have KS : Keep [r] w (wr.setCell ⟨N, c, none⟩ (.slice a7 n7 c7)) := hK4.setCell (.inr (by show w.heap.size ≤ N; omega)) _
              have hR5 : Rr (wr.setCell ⟨N, c, none⟩ (.slice a7 n7 c7)) r v st6 := hR2.keep ((Keep.refl [N] wr).setCell (by simp) _) (by simpa using hNr) (fun hne b hb => by have := hv (by rw [← hl6]; exact hne) b hb; simp; omega)
              clear hx herr hE6 hG HX HER HG1 hO
              go_wp2_with fail
              go_roundw
              case rel => exact ⟨j + 1, by omega, by congr 1; omega, by rw [HG.out], by rw [HG.out]; exact hR5, .inr (by rw [HG.out]; exact HE6.out), KS, by rw [HG.out]; exact hS5⟩
              case measure => simp [intOf] <;> omega
            · have y5 : ((st6.E : Int) != 0) = true := by simp; omega
              have hre := herr rfl hE6
              have HRE := Lib.hid hre
              have HE6 := Lib.hid hE6
              have hA : ∀ o, (wr.alloc o).cell? ⟨r, 2, none⟩ = some (.int .i64 st6.E) := fun o => by rw [World.cell?_alloc_lt _ _ _ (by have := hR2.1.lt; exact this)]; exact hes
              have hA2 : ∀ o, (wr.drew.alloc o).cell? ⟨r, 2, none⟩ = some (.int .i64 st6.E) := fun o => by rw [World.cell?_alloc_lt _ _ _ (by have := hR2.1.lt; exact this)]; exact hes
              clear hx herr hE6 hG HX HER HG1 hre
              go_wp2_with fail
              go_region_with fail
              all_goals
                go_wp2_with fail
                go_ret2
                rw [HRE.out]
                refine ⟨_, rfl, ?_, ?_, fun h => absurd h HE6.out⟩
                · exact (hR2.keep ((Keep.refl [] wr).drew) (by simp) (by simp)).keep ((Keep.refl [] _).alloc _) (by simp) (by simp)
                · exact (hK4.drew).alloc _
end Go.Proofs.Yteahcpkaagjkkaa
namespace Go.Proofs.Yteahcpkaagjkkaa
set_option linter.unusedVariables false
set_option linter.unusedSimpArgs false
set_option maxRecDepth 100000
open Go.ChangeShapes Go.WideShapes Go.ChangeAt Go.RowKit

theorem refdec14_bad (w : World) (v : Value) (f size : Int) (h : MBad f size) : Calls Try.prog 11 #[v, .int .i64 f, .int .i64 size] w fun e w' => e = .returned (.tuple #[.slice none 0 0, .int .i64 0, .int .i64 2]) ∧ Keep [] w w' := by
  have HB := Lib.hid (refm_bad w f size h)
  clear h
  go_enter Try.func11, Try.ntmps11
  go_wp2_with fail
  refine HB.out.mono ?_; rintro e w1 ⟨rfl, rfl⟩
  go_wp2_with fail
  go_ret3
  exact ⟨rfl, Keep.refl _ _⟩
set_option maxHeartbeats 4000000 in
theorem refdec14_c (w : World) (v : Value) (b : List UInt8) (f size : Nat) (hb : Bs w v b) (hl : b.length ≤ 100000) (h1 : 1 ≤ f) (h4 : f ≤ 4) (hs : (size : Int) ≤ 9223372036854775807) :
    Calls Try.prog 11 #[v, .int .i64 f, .int .i64 size] w fun e w' => ∃ v', e = .returned (.tuple #[v', .int .i64 (dec14 b f size).2.1, .int .i64 (dec14 b f size).2.2]) ∧ Bs w' v' (dec14 b f size).1 ∧ Keep [] w w' := by
  have HM := Lib.hid (refm_new w f size h1 h4 hs)
  have hnb : ¬ ((f : Int) < 1 ∨ 4 < (f : Int) ∨ (size : Int) < 0) := by omega
  obtain ⟨R, hR⟩ : ∃ R, dec14 b f size = R := ⟨_, rfl⟩
  rw [hR]
  unfold dec14 at hR
  rw [if_neg hnb] at hR
  have HR := Lib.hid hR
  clear hR hnb
  obtain ⟨av, cv, rfl, _, _⟩ := hb.shape
  have HB := Lib.hid hb
  clear hb
  go_enter Try.func11, Try.ntmps11
  go_wp2_with fail
  refine HM.out.mono ?_; rintro e w1 ⟨rfl, hMx, k1⟩
  clear HM
  by_cases hz : (size : Int) = 0
  · have hz0 : size = 0 := by omega
    have z1 : ((size : Int) == 0) = true := by rw [hz]; rfl
    have hR := HR.out
    rw [if_pos hz] at hR
    by_cases hb0 : b.length = 0
    · have z2 : decide (0 < b.length) = false := by rw [hb0]; rfl
      have z2' : decide ((0 : Int) < (b.length : Int)) = false := by rw [hb0]; rfl
      rw [if_pos hb0] at hR
      have HR2 := Lib.hid hR
      clear hR HR hb0 hz hz0 hMx
      go_wp2_with fail
      go_ret3
      exact ⟨.slice none 0 0, by rw [← HR2.out]; rfl, by rw [← HR2.out]; exact Bs.nil _, k1⟩
    · have z2 : decide (0 < b.length) = true := by simp; omega
      have z2' : decide ((0 : Int) < (b.length : Int)) = true := by simp; omega
      rw [if_neg hb0] at hR
      have HR2 := Lib.hid hR
      clear hR HR hb0 hz hz0 hMx
      go_wp2_with fail
      go_ret3
      exact ⟨.slice none 0 0, by rw [← HR2.out]; rfl, by rw [← HR2.out]; exact Bs.nil _, k1⟩
  · have z1 : ((size : Int) == 0) = false := by rw [beq_eq_false_iff_ne]; exact hz
    have hR := HR.out
    rw [if_neg hz] at hR
    have HR2 := Lib.hid hR
    clear hR HR hz
    obtain ⟨x, hx⟩ : ∃ x, w.heap.size + 1 = x := ⟨_, rfl⟩
    obtain ⟨o, ho⟩ : ∃ o, w.heap.size = o := ⟨_, rfl⟩
    rw [hx, ho] at hMx
    rw [hx]
    have hxo : x = o + 1 := by omega
    have HXO := Lib.hid hxo; have HO := Lib.hid ho
    clear hx hxo
    have hx1 := hMx.1.lt
    go_wp2_with fail
    have KA : Keep [] w1 (w1.alloc (.cells #[.slice av b.length cv, .int .i64 0, .int .i64 0] 53)) := (Keep.refl [] w1).alloc _
    have hRd : Rr (w1.alloc (.cells #[.slice av b.length cv, .int .i64 0, .int .i64 0] 53)) w1.heap.size (.slice av b.length cv) ⟨b, 0, true, 0⟩ :=
      ⟨Blk.new _ _ _, HB.out.keep (k1.trans KA (by simp)) (by simp), ⟨Nat.zero_le _, by show b.length ≤ _; omega, by show 0 < 100; omega⟩, rfl, fun hne y hy => by
        have := HB.out.lt hne y hy; have := k1.size; omega⟩
    obtain ⟨r, hr⟩ : ∃ r, w1.heap.size = r := ⟨_, rfl⟩
    rw [hr] at hRd hx1 ⊢
    have HRR := Lib.hid hr
    have hM2 := hMx.keep KA (by simp) (by simp) (by simp)
    have K2 : Keep [] w (w1.alloc (.cells #[.slice av b.length cv, .int .i64 0, .int .i64 0] 53)) := k1.trans KA (by simp)
    have hrw : r < (w1.alloc (.cells #[.slice av b.length cv, .int .i64 0, .int .i64 0] 53)).heap.size := by rw [← hr]; simp
    clear hr KA hMx k1
    generalize w1.alloc (.cells #[.slice av b.length cv, .int .i64 0, .int .i64 0] 53) = w2 at hRd hM2 K2 hrw ⊢
    have HGS := Lib.hid (refgetsets12_c w2 r _ _ hRd (fun hne y hy => by have := HB.out.lt hne y hy; have := K2.size; omega))
    have hgE := gs14_E ⟨b, 0, true, 0⟩
    clear hRd
    obtain ⟨G, hG⟩ : ∃ G, gs14 ⟨b, 0, true, 0⟩ = G := ⟨_, rfl⟩
    have hR := HR2.out
    rw [hG] at HGS hgE hR
    obtain ⟨e0, S, st⟩ := G
    dsimp only at HGS hgE hR
    have hlen := gs14_len ⟨b, 0, true, 0⟩
    rw [hG] at hlen
    dsimp only at hlen
    have HR3 := Lib.hid hR
    clear hR HR2 hG
    go_wp2_with fail
    refine HGS.out.mono ?_; rintro e w3 ⟨q, rfl, hRd, k3, hSB⟩
    have K3 : Keep [] w w3 := K2.trans k3 (fun z hz => by have : z = r := by simpa using hz
                                                          have := HO.out; have := HXO.out; exact .inr (by omega))
    by_cases he : e0 = 0
    · have y1 : ((e0 : Int) != 0) = false := by rw [he]; rfl
      have hs0 := hSB he
      obtain ⟨hE0, hl0, hmd⟩ := hgE he
      have hR := HR3.out
      rw [if_neg (by simpa using he)] at hR
      rw [Int.toNat_natCast, Int.toNat_natCast] at hR
      have hxo := HXO.out
      have hM3 := hM2.keep k3 (by simp; omega) (by simp; omega) (by simp [Value.ownBlock])
      have HSO := Lib.hid (hs0.off [x, o, r] (by simp; omega))
      clear hxo
      have HRE := Lib.hid hR
      subst he
      clear hR HR3 hs0 hSB HGS hgE hM2
      go_wp2_with fail
      have hst : st.pos ≤ 8 * b.length := by have := hRd.2.2.1.1; rw [hl0] at this; exact this
      have HVB : Hid (b ≠ [] → ∀ y, (Value.slice av b.length cv).ownBlock = some y → y < w.heap.size) := fun hne y hy => HB.out.lt hne y hy
      go_loopw [14, 15] (fun lv nv wr => ∃ (m : MS) (vm : Value) (s' : RS) (p : UInt8) (n F : Nat), lv = .int .u8 p.toNat ∧ nv = .int .i64 n ∧ Mx wr x o vm m ∧ Rr wr r (.slice av b.length cv) s' ∧ Keep [x, o, r] w3 wr ∧ (∀ y, vm.ownBlock = some y → w3.heap.size ≤ y) ∧ Hid (dec14L S F m s' p n = R) ∧ F + n = 8 * b.length + 1 ∧ 2 * n ≤ s'.pos ∧ s'.l = b ∧ m.o.b.length ≤ 400 * n) (fun _ nv _ => 8 * b.length + 1 - (intOf nv).toNat)
      case atStart => exact ⟨_, _, st, 0, 0, 8 * b.length + 1, rfl, rfl, hM3, hRd, Keep.refl _ _, by simp [Value.ownBlock], HRE.out, by omega, Nat.zero_le _, hl0, Nat.zero_le _⟩
      case round =>
        obtain ⟨m, vm, s', p, n, F, rfl, rfl, hMx, hRr, KK, hvm, HI, hFn, hpos, hsl, hmb⟩ := hrel
        have hp8 : s'.pos ≤ 8 * b.length := by have := hRr.2.2.1.1; rw [hsl] at this; exact this
        obtain ⟨F', rfl⟩ : ∃ F', F = F' + 1 := ⟨F - 1, by omega⟩
        have hI := HI.out
        rw [dec14L] at hI
        have HFU := refm_full wr x o vm m hMx
        obtain ⟨bf, hbf⟩ : ∃ bf, m.full = bf := ⟨_, rfl⟩
        rw [hbf] at HFU hI
        have HFU := Lib.hid HFU
        have HM := Lib.hid hMx; have HRD := Lib.hid hRr; have HK := Lib.hid KK; have HVM := Lib.hid hvm
        clear HI hbf hMx hRr KK hvm
        cases bf with
        | true =>
          rw [if_pos rfl] at hI
          have HI2 := Lib.hid hI
          clear hI
          go_wp2_with fail
          refine HFU.out.mono ?_; rintro e w5 ⟨rfl, n5, rfl⟩
          have hR5 := HRD.out.drewN n5
          have hM5 := HM.out.drewN n5
          have K5 := HK.out.drewN n5
          generalize wr.drewN n5 = w5 at hR5 hM5 K5 ⊢
          have HLF := Lib.hid (rleft_c w5 r _ s' hR5)
          clear hR5 HFU
          go_wp2_with fail
          refine HLF.out.mono ?_; rintro e w6 ⟨rfl, n6, rfl⟩
          have hM6 := hM5.drewN n6
          have K6 := K5.drewN n6
          generalize w5.drewN n6 = w6 at hM6 K6 ⊢
          have K06 : Keep [] w w6 := K3.trans K6 (fun z hz => by have := HO.out; have := HXO.out; simp at hz; exact .inr (by omega))
          have x1 := hM6.1.cell 1 _ rfl
          have x3 := hM6.2.1.1.cell 3 _ rfl
          simp only [List.getElem_toArray, List.getElem_cons_zero, List.getElem_cons_succ] at x1 x3
          have hO6 := hM6.2.1.2.1.bs
          clear HLF hM5 K5 hM6
          by_cases h8 : 8 ≤ s'.left
          · have q1 : decide ((8 : Int) ≤ (s'.left : Int)) = true := by simp; omega
            have q1' : decide (8 ≤ s'.left) = true := by simpa using h8
            have hI := HI2.out
            rw [if_pos h8] at hI
            have HI3 := Lib.hid hI
            clear hI HI2 h8
            go_wp2_with fail
            go_ret3
            exact ⟨.slice none 0 0, by rw [← HI3.out]; rfl, by rw [← HI3.out]; exact Bs.nil _, K06⟩
          · have q1 : decide ((8 : Int) ≤ (s'.left : Int)) = false := by simp; omega
            have q1' : decide (8 ≤ s'.left) = false := by simpa using h8
            have hI := HI2.out
            rw [if_neg h8] at hI
            have HI3 := Lib.hid hI
            clear hI HI2 h8
            go_wp2_with fail
            go_ret3
            exact ⟨vm, by rw [← HI3.out]; rfl, by rw [← HI3.out]; exact hO6, K06⟩
        | false =>
          rw [if_neg (by simp)] at hI
          have HI2 := Lib.hid hI
          clear hI
          go_wp2_with fail
          refine HFU.out.mono ?_; rintro e w5 ⟨rfl, n5, rfl⟩
          have hR5 := HRD.out.drewN n5
          have hM5 := HM.out.drewN n5
          have K5 := HK.out.drewN n5
          generalize wr.drewN n5 = w5 at hR5 hM5 K5 ⊢
          have hS5 := (HSO.out.keep K5).more (S' := [r]) (fun z hz => .inl (by simp at hz; simp [hz]))
          have HG := refget12_c w5 r _ s' q S p hR5 hS5
          rw [take32 (hlen _)] at HG
          have hgc := get14_cost (S p.toNat) s' (hlen _)
          obtain ⟨GG, hGG⟩ : ∃ GG, get14 (S p.toNat) s' = GG := ⟨_, rfl⟩
          have hI := HI2.out
          rw [hGG] at HG hgc hI
          obtain ⟨c, eg, s2⟩ := GG
          dsimp only at HG hgc hI
          have HG := Lib.hid HG; have HI3 := Lib.hid hI
          clear hI HI2 hGG hS5 hR5 HFU
          go_wp2_with fail
          refine HG.out.mono ?_; rintro e w6 ⟨rfl, hR6, k6⟩
          have hxo := HXO.out
          have hM6 := hM5.keep k6 (by simp; omega) (by simp; omega) (by
            intro y hy; have := HVM.out y hy; have := k3.size; simp; omega)
          have K6 : Keep [x, o, r] w3 w6 := K5.trans k6 (fun z hz => .inl (by simp at hz; simp [hz]))
          have K06 : Keep [] w w6 := K3.trans K6 (fun z hz => by have := HO.out; simp at hz; exact .inr (by omega))
          clear hxo hM5 K5 k6 HG
          by_cases heg : eg = 0
          · have y3 : ((eg : Int) != 0) = false := by rw [heg]; rfl
            obtain ⟨g1, g2, g3, g4, g5, g6⟩ := hgc heg
            have hI := HI3.out
            rw [if_neg (by simpa using heg)] at hI
            have hN : m.N ≤ 382 := hM6.2.2.2.2.2.2.2.2.1
            have hgr := feed_grow m c
            have HFD := refm_feed w6 x o vm m c hM6 (by omega)
            generalize m.feed c = MM at HFD hI hgr
            obtain ⟨ef, m2⟩ := MM
            dsimp only at HFD hI hgr
            have HFD := Lib.hid HFD; have HI4 := Lib.hid hI
            clear hI HI3 hgc heg hM6
            go_wp2_with fail
            refine HFD.out.mono ?_; rintro e w7 ⟨rfl, vm2, hM7, k7, hv7⟩
            have hxo := HXO.out
            have hvo : ∀ z ∈ x :: o :: vm.ownBlock.toList, z = x ∨ z = o ∨ w3.heap.size ≤ z := fun z hz => by
              rcases List.mem_cons.1 hz with h | h
              · exact .inl h
              · rcases List.mem_cons.1 h with h | h
                · exact .inr (.inl h)
                · exact .inr (.inr (HVM.out z (by simpa using h)))
            have hw3 : r < w3.heap.size := by have := k3.size; omega
            have hR7 : Rr w7 r (.slice av b.length cv) s2 := hR6.keep k7 (fun hm => by rcases hvo r hm with h | h | h <;> omega) (fun hne y hy hm => by
              have h1 := HVB.out (by rw [← hsl, ← g5]; exact hne) y hy
              have h2 := HO.out
              have h3 := K3.size
              rcases hvo y hm with h | h | h <;> omega)
            have K7 : Keep [x, o, r] w3 w7 := K6.trans k7 (fun z hz => by rcases hvo z hz with h | h | h; exact .inl (by simp [h]); exact .inl (by simp [h]); exact .inr h)
            have K07 : Keep [] w w7 := K3.trans K7 (fun z hz => by have := HO.out; simp at hz; exact .inr (by omega))
            have hvm2 : ∀ y, vm2.ownBlock = some y → w3.heap.size ≤ y := fun y hy => by
              rcases hv7 y hy with h | h
              · exact HVM.out y h
              · have := K6.size; omega
            clear hxo hvo HFD k7 hv7
            by_cases hef : ef = 0
            · have y4 : ((ef : Int) != 0) = false := by rw [hef]; rfl
              have hI := HI4.out
              rw [if_neg (by simpa using hef)] at hI
              have hs9 : IntKind.i64.wrap ((n : Int) + 1) = ((n + 1 : Nat) : Int) := by rw [IntKind.wrap_i64]; omega
              have HI5 := Lib.hid hI
              have HM7 := Lib.hid hM7; have HR7 := Lib.hid hR7
              clear hI HI4 hef hM7 hR7 hR6
              go_wp2_with fail
              go_roundw
              case rel => exact ⟨m2, vm2, s2, c, n + 1, F', rfl, by first | rfl | simp, HM7.out, HR7.out, K7, hvm2, HI5.out, by omega, by omega, g5.trans hsl, by omega⟩
              case measure => simp [intOf]; omega
            · have y4 : ((ef : Int) != 0) = true := by simp; omega
              have hI := HI4.out
              rw [if_pos (by simpa using hef)] at hI
              have HI5 := Lib.hid hI
              clear hI HI4 hef hM7 hR7 hR6
              go_wp2_with fail
              go_ret3
              exact ⟨.slice none 0 0, by rw [← HI5.out]; rfl, by rw [← HI5.out]; exact Bs.nil _, K07⟩
          · have y3 : ((eg : Int) != 0) = true := by simp; omega
            have hI := HI3.out
            rw [if_pos (by simpa using heg)] at hI
            have HI4 := Lib.hid hI
            clear hI HI3 hgc heg hM6 hR6
            go_wp2_with fail
            go_ret3
            exact ⟨.slice none 0 0, by rw [← HI4.out]; rfl, by rw [← HI4.out]; exact Bs.nil _, K06⟩
    · have y1 : ((e0 : Int) != 0) = true := by simp; omega
      have hR := HR3.out
      rw [if_pos (by simpa using he)] at hR
      have HR4 := Lib.hid hR
      clear hR HR3 he hSB HGS hgE hM2
      go_wp2_with fail
      go_ret3
      exact ⟨.slice none 0 0, by rw [← HR4.out]; rfl, by rw [← HR4.out]; exact Bs.nil _, K3⟩
end Go.Proofs.Yteahcpkaagjkkaa
