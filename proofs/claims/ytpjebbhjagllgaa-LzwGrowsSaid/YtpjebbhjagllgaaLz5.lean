/- The landed table of layer 10: Clear. -/
import Derived.Test.YtpjebbhjagllgaaLz4
namespace Go.Proofs.Ytpjebbhjagllgaa
set_option linter.unusedVariables false
set_option linter.unusedSimpArgs false
open Go.ChangeShapes Go.WideShapes Go.ChangeAt Go.RowKit

/-- the beginning of a row of the call's own -/
theorem OwnG.pre {α : Type} {E : El α} (G : E.Good) {w : World} {a : Option Addr} {l : List α} {cap : Nat} (h : OwnG E w (.slice a l.length cap) l) (n : Nat) (hn : n ≤ l.length) : OwnG E w (.slice a n cap) (l.take n) := by
  have e : (l.take n).length = n := by rw [List.length_take]; omega
  refine ⟨by rw [El.cells_len G], ?_⟩
  rcases h.2 with ⟨hv, hz⟩ | ⟨g, cap', cur, hv, hb0, hh, h1, h2, h3, h4⟩
  · left
    simp only [Value.slice.injEq] at hv
    obtain ⟨rfl, hl, rfl⟩ := hv
    obtain rfl : n = 0 := by omega
    exact ⟨rfl, by simp⟩
  · right
    simp only [Value.slice.injEq] at hv
    obtain ⟨rfl, _, rfl⟩ := hv
    refine ⟨g, cap, cur, by rw [e], hb0, hh, by rw [e]; omega, h2, h3, ?_⟩
    rw [e, El.cells_take G, ← h4, List.take_take]
    have := Nat.mul_le_mul_right E.sz hn
    rw [Nat.min_eq_left this]
/-- append of one code where there is room -/
theorem wpList_append_in {w : World} {ops : Array Oper} {rest : List Oper} {o : Oper} {a : Act} {Q : Exit → Act → World → Prop} (s x : Operand) (hgd : o.guard = none)
    (ho : o.op = .call { callee := .builtin .append, args := #[s, x], argTypes := #[50, 50] })
    (b n cap m : Nat) (zs : List Nat) (hown : OwnG EI w (.slice (some ⟨b, 0, none⟩) n cap) zs) (hm : m < zs.length) (hs : a.eval s = .slice (some ⟨b, 0, none⟩) m cap) (xv : Value) (c : Nat) (hx : a.eval x = xv) (hsrc : Gs EI w xv [c])
    (h : wpList Try.prog ops Q rest (a.put o.dst (.slice (some ⟨b, 0, none⟩) (m + 1) cap)) (w.setCell ⟨b, m, none⟩ (.int .i64 c))) : wpList Try.prog ops Q (o :: rest) a w := by
  obtain ⟨i0, hi, hzz⟩ := Option.map_eq_some_iff.1 EIg.info
  simp only [Prod.mk.injEq] at hzz
  have hcap : zs.length ≤ cap := by
    obtain ⟨_, _, hv, h1, _⟩ := hown.gs
    simp only [Value.slice.injEq] at hv
    omega
  have hsz : i0.size = 1 := hzz.2.1
  obtain ⟨hl, h1, ⟨_, hm0⟩ | ⟨ad, cp, rfl, hnews⟩⟩ := hsrc.src EIg
  · simp at hm0
  have hcells : EI.cells [c] = [.int .i64 c] := rfl
  rw [hcells] at hl h1 hnews
  have hcl := hown.cell EIg m 0 hm (by decide)
  have hcl' : w.cell? ⟨b, m, none⟩ = some (.int .i64 (zs[m] : Nat)) := by simpa [EI] using hcl
  have hrun := run_append_room_cells (P := Try.prog) w 50 o.type 3 i0 Try.underlying50 hi b 0 m cap ad 1 cp [.int .i64 c] (by rw [hsz]; rfl) hnews h1 (by omega)
    (fun j hj => by
      obtain rfl : j = 0 := by simpa using hj
      rw [hsz, Nat.zero_add, Nat.mul_one, Nat.add_zero, hcl']; rfl)
    (fun j hj => hown.free _)
  rw [hsz, Nat.zero_add, Nat.mul_one] at hrun
  refine wpList_plain hgd fun K hK => ?_
  unfold Oper.wp execOp
  have hlen1 : ([c] : List Nat).length = 1 := rfl
  rw [hlen1] at hx
  simp only [ho, resolve, invoke, builtin, Sem.run_bind, Sem.run_pure, Result.andThen_ok, List.map_toArray, List.map_cons, List.map_nil, hs, hx, hrun]
  exact hK _ _ h
/-- the row of codes, i codes into Clear: m codes are kept -/
def Flt (P : Nat → Bool) (gs zs : List Nat) (i m : Nat) : Prop := zs.length = gs.length ∧ zs.take m = (gs.take i).filter P ∧ zs.drop i = gs.drop i ∧ m ≤ i
theorem Flt.zero (P : Nat → Bool) (gs : List Nat) : Flt P gs gs 0 0 := ⟨rfl, by simp, rfl, Nat.le_refl _⟩
theorem Flt.at {P : Nat → Bool} {gs zs : List Nat} {i m : Nat} (h : Flt P gs zs i m) (hi : i < gs.length) : zs[i]'(by rw [h.1]; exact hi) = gs[i] := by
  have h1 : (zs.drop i)[0]? = (gs.drop i)[0]? := by rw [h.2.2.1]
  rw [List.getElem?_drop, List.getElem?_drop, Nat.add_zero, List.getElem?_eq_getElem hi, List.getElem?_eq_getElem (by rw [h.1]; exact hi)] at h1
  exact Option.some.inj h1
theorem Flt.keep {P : Nat → Bool} {gs zs : List Nat} {i m : Nat} (h : Flt P gs zs i m) (hi : i < gs.length) (hp : P gs[i] = true) : Flt P gs (zs.set m gs[i]) (i + 1) (m + 1) := by
  obtain ⟨h1, h2, h3, h4⟩ := h
  have hm : m < zs.length := by omega
  refine ⟨by rw [List.length_set]; exact h1, ?_, ?_, by omega⟩
  · have e : (gs.take (i + 1)) = gs.take i ++ [gs[i]] := by rw [List.take_add_one, List.getElem?_eq_getElem hi]; rfl
    rw [e, List.filter_append, ← h2]
    have e2 : ([gs[i]] : List Nat).filter P = [gs[i]] := by simp [hp]
    rw [e2, List.take_add_one, List.take_set_of_le (Nat.le_refl _), List.getElem?_set, if_pos rfl, if_pos hm]; rfl
  · rw [List.drop_set, if_pos (by omega)]
    have h5 : zs.drop (i + 1) = (zs.drop i).drop 1 := by rw [List.drop_drop]
    have h6 : gs.drop (i + 1) = (gs.drop i).drop 1 := by rw [List.drop_drop]
    rw [h5, h6, h3]
theorem Flt.drop {P : Nat → Bool} {gs zs : List Nat} {i m : Nat} (h : Flt P gs zs i m) (hi : i < gs.length) (hp : P gs[i] = false) : Flt P gs zs (i + 1) m := by
  obtain ⟨h1, h2, h3, h4⟩ := h
  refine ⟨h1, ?_, ?_, by omega⟩
  · have e : (gs.take (i + 1)) = gs.take i ++ [gs[i]] := by rw [List.take_add_one, List.getElem?_eq_getElem hi]; rfl
    rw [e, List.filter_append, ← h2]
    have e2 : ([gs[i]] : List Nat).filter P = [] := by simp [hp]
    rw [e2, List.append_nil]
  · have h5 : zs.drop (i + 1) = (zs.drop i).drop 1 := by rw [List.drop_drop]
    have h6 : gs.drop (i + 1) = (gs.drop i).drop 1 := by rw [List.drop_drop]
    rw [h5, h6, h3]
/-- a slot let go -/
theorem slot_free {w : World} {sb : Nat} {f : Nat → Slt} (h : OwnG ES w (.slice (some ⟨sb, 0, none⟩) 8192 8192) (slots f)) (n : Nat) (hn : n < 8192) :
    OwnG ES (((w.setCell ⟨sb, n * 3, none⟩ (.int .i16 0)).setCell ⟨sb, n * 3 + 1, none⟩ (.int .u8 0)).setCell ⟨sb, n * 3 + 2, none⟩ (.bool false)) (.slice (some ⟨sb, 0, none⟩) 8192 8192) (slots fun k => if k = n then Slt.no else f k) :=
  slot_store h n hn 0 0 false
set_option maxRecDepth 100000 in
set_option maxHeartbeats 4000000 in
theorem lclear_c (w : World) (q sb : Nat) (vg : Value) (g k : Nat) (gs : List Nat) (s : LT) (h : LTb w q sb vg g k gs s) : Calls Try.prog 13 #[.pointer (some ⟨q, 0, none⟩)] w fun e w' => e = .returned (.tuple #[]) ∧
    ∃ vg', LTb w' q sb vg' g 0 (gs.filter (isPar s.rows)) s.clear ∧ Keep (q :: sb :: g :: vg.ownBlock.toList) w w' ∧ vg'.ownBlock = vg.ownBlock := by
  have c0 : w.cell? ⟨q, 0, none⟩ = some (.slice (some ⟨sb, 0, none⟩) 8192 8192) := h.box.cell 0 _ rfl
  have HM := Lib.hid (lmade_c w q sb c0)
  have HPA := Lib.hid (lparents_c w q sb vg g k gs s h)
  obtain ⟨a, cap, hvg, hcap, _⟩ := h.giv.gs.sh
  subst hvg
  have hz := (zero_of_info (P := Try.prog) baInfo).1
  obtain ⟨Z, hZ⟩ : ∃ Z, BA (fun _ => false) = Z := ⟨_, rfl⟩
  rw [hZ] at hz
  have hzs : Z.size = 8192 := by rw [← hZ, BA_size]
  have HH := Lib.hid h
  have HSMA := Lib.hid (fun c hc => h.per.small h.ok (c := c) hc)
  clear hZ h c0
  go_enter Try.func13, Try.ntmps13
  go_wp2_with fail
  refine HM.out.mono ?_; rintro e w' ⟨rfl, rfl⟩
  clear HM
  go_wp2_with fail
  refine HPA.out.mono ?_; rintro e w1 ⟨rfl, k1⟩
  clear HPA
  have hb0 := Blk.new w1 Z 65
  have KA : Keep [] w (w1.alloc (.cells Z 65)) := k1.alloc _
  obtain ⟨pb, hpb⟩ : ∃ pb, w1.heap.size = pb := ⟨_, rfl⟩
  have hpw : w.heap.size ≤ pb := by rw [← hpb]; exact k1.size
  rw [hpb] at hb0
  have hP := hb0.setRow (BA (isPar s.rows))
  have KP : Keep [] w ((w1.alloc (.cells Z 65)).setRow pb (BA (isPar s.rows))) := KA.trans (Keep.setRow _) (fun x hx => by simp at hx; subst hx; exact .inr hpw)
  have HT2 := Lib.hid (HH.out.keep KP (by simp) (by simp) (by simp) (by simp))
  have c21 : ((w1.alloc (.cells Z 65)).setRow pb (BA (isPar s.rows))).cell? ⟨q, 1, none⟩ = some (.slice a gs.length cap) := HT2.out.box.cell 1 _ rfl
  have HKP := Lib.hid KP
  have HP := Lib.hid hP
  have HPW := Lib.hid hpw
  clear KP hP hpw
  go_wp2_with (refine wpList_storeBA rfl _ _ rfl _ _ (by rw [← hpb]; rfl) rfl _ _ hb0 hzs ?_)
  generalize (w1.alloc (.cells Z 65)).setRow pb (BA (isPar s.rows)) = w2 at *
  clear hb0 KA hz hzs hpb k1 c21
  have HVB : Hid (∀ b ∈ sb :: (Value.slice a gs.length cap).ownBlock.toList, b < w.heap.size ∧ b ≠ q ∧ b ≠ g ∧ b ≠ pb) := by
    intro b hb
    have hlt : b < w.heap.size := by
      rcases List.mem_cons.1 hb with rfl | hb
      · exact HH.out.slo.lt _ rfl
      · exact HH.out.giv.lt b (by simpa using hb)
    refine ⟨hlt, ?_, ?_, by have := HPW.out; omega⟩
    · rcases List.mem_cons.1 hb with rfl | hb
      · exact HH.out.qs.symm
      · exact (HH.out.vb b (by simpa using hb)).1
    · rcases List.mem_cons.1 hb with rfl | hb
      · exact HH.out.sg
      · exact (HH.out.vb b (by simpa using hb)).2.2
  have HS0 : Hid (OwnG ES w2 (.slice (some ⟨sb, 0, none⟩) 8192 8192) (slots (cleF s.rows []))) := by rw [cleF_nil]; exact HT2.out.slo
  have HG0 : Hid (OwnG EI w2 (.slice a gs.length cap) gs) := HT2.out.giv
  go_loopw [3, 21] (fun kv iv wr => ∃ (i m : Nat) (zs : List Nat), kv = .slice a m cap ∧ iv = .int .i64 i ∧ i ≤ gs.length ∧ Hid (Flt (isPar s.rows) gs zs i m) ∧ Hid (OwnG EI wr (.slice a gs.length cap) zs) ∧ Hid (OwnG ES wr (.slice (some ⟨sb, 0, none⟩) 8192 8192) (slots (cleF s.rows (gs.take i)))) ∧ Hid (Keep (sb :: (Value.slice a gs.length cap).ownBlock.toList) w2 wr)) (fun _ iv _ => gs.length - (intOf iv).toNat)
  case atStart => exact ⟨0, 0, gs, rfl, rfl, Nat.zero_le _, Flt.zero _ _, HG0, by rw [List.take_zero]; exact HS0, Keep.refl _ _⟩
  case round =>
    obtain ⟨i, m, zs, rfl, rfl, hi, hf, ho, hs, hk⟩ := hrel
    clear HS0 HG0
    by_cases hlt : i < gs.length
    · have hlt2 : (i : Int) < gs.length := by omega
      have hzl := hf.out.1
      have hmi := hf.out.2.2.2
      obtain ⟨b, hb⟩ : ∃ b, a = some ⟨b, 0, none⟩ := by
        rcases ho.out.shape with ⟨_, h2⟩ | ⟨b, c, h2, _⟩
        · rw [h2] at hzl; simp at hzl; omega
        · simp only [Value.slice.injEq] at h2; exact ⟨b, h2.1⟩
      subst hb
      have hcl := ho.out.cell EIg i 0 (by rw [hzl]; exact hlt) (by decide)
      rw [hf.out.at hlt] at hcl
      have hcl' : wr.cell? ⟨b, i, none⟩ = some (.int .i64 (gs[i] : Nat)) := by simpa [EI] using hcl
      have hsm := HSMA.out gs[i] (List.getElem_mem hlt)
      have hcz : ((gs[i] : Nat) : Int) < 8192 := by omega
      have HPR := Lib.hid (HP.out.keep hk.out (fun hp => (HVB.out _ hp).2.2.2 rfl))
      have hpc := HPR.out.cell _ _ (BA_get (isPar s.rows) gs[i] hsm.2)
      have htk : gs.take (i + 1) = gs.take i ++ [gs[i]] := by rw [List.take_add_one, List.getElem?_eq_getElem hlt]; rfl
      have HTK := Lib.hid htk
      have hc0 : wr.cell? ⟨q, 0, none⟩ = some (.slice (some ⟨sb, 0, none⟩) 8192 8192) := (HT2.out.box.keep hk.out (fun hp => (HVB.out _ hp).2.1 rfl)).cell 0 _ rfl
      cases hp : isPar s.rows gs[i] with
      | true =>
        have HF2 := Lib.hid (hf.out.keep hlt hp)
        have HS2 : Hid (slots (cleF s.rows (gs.take i)) = slots (cleF s.rows (gs.take (i + 1)))) := by rw [HTK.out, cleF_keep hp]; rfl
        have HOA : Hid (OwnG EI (wr.alloc (.cells #[.int .i64 (gs[i] : Nat)] 3)) (.slice (some ⟨b, 0, none⟩) gs.length cap) zs) := ho.out.keep ((Keep.refl [] wr).alloc _) (by simp)
        have HL4 : Hid (Gs EI (wr.alloc (.cells #[.int .i64 (gs[i] : Nat)] 3)) (.slice (some ⟨wr.heap.size, 0, none⟩) 1 1) [gs[i]]) := Gs.lit EIg [gs[i]] 1 (Blk.new wr #[.int .i64 (gs[i] : Nat)] 3) rfl rfl (by unfold maxLen; omega)
        have hmz : m < zs.length := by omega
        have HST := Lib.hid (HOA.out.store EIg m 0 hmz (by decide) gs[i] (.int .i64 (gs[i] : Nat)) rfl)
        have e0 : m * EI.sz + 0 = m := by simp [EI]
        rw [e0] at HST
        have HKA : Hid (Keep (sb :: (Value.slice (some ⟨b, 0, none⟩) gs.length cap).ownBlock.toList) w2 ((wr.alloc (.cells #[.int .i64 (gs[i] : Nat)] 3)).setCell ⟨b, m, none⟩ (.int .i64 (gs[i] : Nat)))) := (hk.out.alloc _).setCell (.inl (by simp [Value.ownBlock])) _
        have HSA : Hid (OwnG ES ((wr.alloc (.cells #[.int .i64 (gs[i] : Nat)] 3)).setCell ⟨b, m, none⟩ (.int .i64 (gs[i] : Nat))) (.slice (some ⟨sb, 0, none⟩) 8192 8192) (slots (cleF s.rows (gs.take (i + 1))))) := by
          rw [← HS2.out]
          refine hs.out.keep (S := [b]) (((Keep.refl [b] wr).alloc _).setCell (.inl (by simp)) _) ?_
          intro b' hb'
          simp [Value.ownBlock] at hb'
          subst hb'
          have := (HH.out.vb b rfl).2.1
          simpa using this.symm
        rw [hp] at hpc
        have HMZ := Lib.hid hmz
        clear hp hf ho hs hk htk HTK hcl e0 hmz HS2 hsm hzl hmi
        generalize gs[i] = cc at *
        go_wp2_with (at_builtin; refine wpList_append_in (.tmp 28) (.tmp 30) rfl rfl b gs.length cap m zs HOA.out HMZ.out rfl _ cc rfl HL4.out ?_)
        go_roundw
        case rel => exact ⟨i + 1, m + 1, _, rfl, by go_num, by omega, HF2, HST, HSA, HKA⟩
        case measure => simp [intOf]; omega
      | false =>
        have HF2 := Lib.hid (hf.out.drop hlt hp)
        have HSA := Lib.hid (slot_free hs.out gs[i] hsm.2)
        rw [← cleF_drop hp, ← htk] at HSA
        have hl : gs[i] < (slots (cleF s.rows (gs.take i))).length := by rw [slots_len]; exact hsm.2
        have x0 := hs.out.cell ESg gs[i] 0 hl (by decide)
        have x1 := hs.out.cell ESg gs[i] 1 hl (by decide)
        have x2 := hs.out.cell ESg gs[i] 2 hl (by decide)
        rw [slots_get] at x0 x1 x2
        have y0 : wr.cell? ⟨sb, gs[i] * 3, none⟩ = some (.int .i16 (cleF s.rows (gs.take i) gs[i]).par) := x0
        have y1 : wr.cell? ⟨sb, gs[i] * 3 + 1, none⟩ = some (.int .u8 (cleF s.rows (gs.take i) gs[i]).byt.toNat) := x1
        have y2 : wr.cell? ⟨sb, gs[i] * 3 + 2, none⟩ = some (.bool (cleF s.rows (gs.take i) gs[i]).on) := x2
        have f0 := hs.out.free (gs[i] * 3)
        have f1 := hs.out.free (gs[i] * 3 + 1)
        have f2 := hs.out.free (gs[i] * 3 + 2)
        have hsbb : sb ∈ sb :: (Value.slice (some ⟨b, 0, none⟩) gs.length cap).ownBlock.toList := by simp
        have HKA := Lib.hid ((((hk.out.setCell (p := ⟨sb, gs[i] * 3, none⟩) (.inl hsbb) (.int .i16 0)).setCell (p := ⟨sb, gs[i] * 3 + 1, none⟩) (.inl hsbb) (.int .u8 0)).setCell (p := ⟨sb, gs[i] * 3 + 2, none⟩) (.inl hsbb) (.bool false)))
        have HOA : Hid (OwnG EI (((wr.setCell ⟨sb, gs[i] * 3, none⟩ (.int .i16 0)).setCell ⟨sb, gs[i] * 3 + 1, none⟩ (.int .u8 0)).setCell ⟨sb, gs[i] * 3 + 2, none⟩ (.bool false)) (.slice (some ⟨b, 0, none⟩) gs.length cap) zs) := by
          refine ho.out.keep (S := [sb]) ((((Keep.refl [sb] wr).setCell (.inl (by simp)) _).setCell (.inl (by simp)) _).setCell (.inl (by simp)) _) ?_
          intro b' hb'
          have := (HH.out.vb b' hb').2.1
          simpa using this
        rw [hp] at hpc
        have hcs := hsm.2
        clear hp hf ho hs hk htk HTK hcl hsm hzl hmi x0 x1 x2 hl hsbb
        generalize cleF s.rows (gs.take i) gs[i] = old at *
        generalize gs[i] = cc at *
        go_wp2_with fail
        go_roundw
        case rel => exact ⟨i + 1, m, zs, rfl, by go_num, by omega, HF2, HOA, HSA, HKA⟩
        case measure => simp [intOf]; omega
    · have hlt2 : ¬ (i : Int) < gs.length := by omega
      have hie : gs.take i = gs := List.take_of_length_le (by omega)
      rw [hie] at hs
      have hzm : zs.take m = gs.filter (isPar s.rows) := by have := hf.out.2.1; rw [hie] at this; exact this
      have hml : m ≤ zs.length := by have h1 := hf.out.1; have h2 := hf.out.2.2.2; omega
      have hzl := hf.out.1
      have HOK : Hid (OwnG EI wr (.slice a m cap) (gs.filter (isPar s.rows))) := by
        have := ho.out
        rw [← hzl] at this
        have := this.pre EIg m hml
        rw [hzm] at this
        exact this
      rw [cleF_all HH.out.ok HH.out.per] at hs
      obtain ⟨L, hL, _⟩ := HT2.out.lea
      have HBX := Lib.hid (HT2.out.box.keep hk.out (fun hp => (HVB.out _ hp).2.1 rfl))
      have HLX := Lib.hid (hL.keep hk.out (fun hp => (HVB.out _ hp).2.2.1 rfl))
      have c1 := HBX.out.cell 1 _ rfl
      have c2 := HBX.out.cell 2 _ rfl
      have f1 := HBX.out.free 1
      have hqg := HH.out.qg
      have HB6 := Lib.hid (HBX.out.set 1 (.slice a m cap))
      have K6 : Hid (Keep [q] wr (wr.setCell ⟨q, 1, none⟩ (.slice a m cap))) := (Keep.refl _ _).setCell (.inl (by simp)) _
      have HL6 := Lib.hid (HLX.out.keep K6.out (by simpa using hqg.symm))
      clear hL HLX hie hf ho hzm hml hzl hlt
      obtain ⟨w7, hrun, hl7, hk7⟩ := HL6.out.wipe 0
      have HB7 := Lib.hid (HB6.out.keep hk7 (by simpa using hqg))
      have f7 := HB7.out.free 3
      have c7 := HB7.out.cell 3 _ rfl
      have HL7 := Lib.hid hl7
      have HK7 := Lib.hid hk7
      clear hl7 hk7
      go_wp2_with fail
      clear hrun
      have HB8 := Lib.hid (HB7.out.set 3 (.int .i64 0))
      have K8 : Hid (Keep [q] w7 (w7.setCell ⟨q, 3, none⟩ (.int .i64 0))) := (Keep.refl _ _).setCell (.inl (by simp)) _
      have K68 : Hid (Keep [q, g] wr (w7.setCell ⟨q, 3, none⟩ (.int .i64 0))) := ((K6.out.mono (S' := [q, g]) (by simp)).trans HK7.out (fun x hx => .inl (by simp at hx; simp [hx]))).trans K8.out (fun x hx => .inl (by simp at hx; simp [hx]))
      have hqs := HH.out.qs
      have hsg := HH.out.sg
      have HS8 : Hid (OwnG ES (w7.setCell ⟨q, 3, none⟩ (.int .i64 0)) (.slice (some ⟨sb, 0, none⟩) 8192 8192) (slots (sloF s.clear.rows))) := hs.out.keep K68.out (by intro b hb; simp [Value.ownBlock] at hb; subst hb; simpa using ⟨hqs.symm, hsg⟩)
      have hfr := lfree_c (w7.setCell ⟨q, 3, none⟩ (.int .i64 0)) q sb s.clear.rows 256 (HB8.out.cell 0 _ rfl) (by omega) (fun j hj => by
        have := HS8.out.cell ESg j 2 (by rw [slots_len]; exact hj) (by decide)
        rw [slots_get] at this
        exact this)
      obtain ⟨nx, hnx⟩ : ∃ nx, s.clear.next = nx := ⟨_, rfl⟩
      have hnx2 : LT.next ⟨s.clear.rows, 256⟩ = nx := hnx
      rw [hnx2, show (((256 : Nat) : Int) + 1) = 257 from rfl] at hfr
      have HNX := Lib.hid hnx
      clear hnx hnx2 f1 c1 c2 f7 c7
      refine hfr.mono ?_; rintro e w9 ⟨rfl, rfl⟩
      have f8 := HB8.out.free 4
      have c8 := HB8.out.cell 4 _ rfl
      clear hfr
      go_wp2_with fail
      have HB9 := Lib.hid (HB8.out.set 4 (.int .i64 nx))
      have K9 : Hid (Keep [q] (w7.setCell ⟨q, 3, none⟩ (.int .i64 0)) ((w7.setCell ⟨q, 3, none⟩ (.int .i64 0)).setCell ⟨q, 4, none⟩ (.int .i64 nx))) := (Keep.refl _ _).setCell (.inl (by simp)) _
      go_end0
      have K69 : Hid (Keep [q, g] wr ((w7.setCell ⟨q, 3, none⟩ (.int .i64 0)).setCell ⟨q, 4, none⟩ (.int .i64 nx))) := K68.out.trans K9.out (fun x hx => .inl (by simp at hx; simp [hx]))
      have KALL : Keep (q :: sb :: g :: (Value.slice a gs.length cap).ownBlock.toList) w ((w7.setCell ⟨q, 3, none⟩ (.int .i64 0)).setCell ⟨q, 4, none⟩ (.int .i64 nx)) := by
        refine ((HKP.out.mono (S' := q :: sb :: g :: (Value.slice a gs.length cap).ownBlock.toList) (by simp)).trans hk.out (fun x hx => .inl ?_)).trans K69.out (fun x hx => .inl ?_)
        · rcases List.mem_cons.1 hx with rfl | hx
          · simp
          · exact List.mem_cons_of_mem _ (List.mem_cons_of_mem _ (List.mem_cons_of_mem _ hx))
        · simp at hx; rcases hx with rfl | rfl <;> simp
      have hvo : (Value.slice a m cap).ownBlock = (Value.slice a gs.length cap).ownBlock := by cases a <;> rfl
      refine ⟨rfl, .slice a m cap, ⟨?_, ?_, ?_, ⟨_, HL7.out.keep (K8.out.trans K9.out (S' := [q]) (fun x hx => .inl hx)) (by simpa using hqg.symm), by rw [List.take_zero]; exact Lst.nil _⟩, HH.out.per.clear, Nat.zero_le _, LT.clear_ok HH.out.ok, hqs, hqg, hsg, fun b hb => HH.out.vb b (by rw [← hvo]; exact hb)⟩, KALL, hvo⟩
      · rw [HNX.out]; exact HB9.out
      · exact HS8.out.keep K9.out (by intro b hb; simp [Value.ownBlock] at hb; subst hb; simpa using hqs.symm)
      · refine HOK.out.keep K69.out (fun b hb => ?_)
        have := HH.out.vb b (by rw [← hvo]; exact hb)
        simpa using ⟨this.1, this.2.2⟩
end Go.Proofs.Ytpjebbhjagllgaa
