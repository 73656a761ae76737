/- The walk of the law FieldWrites: it returns true at every input. -/
import Derived.Test.YtgohdhpokehflaaFldLives
import Derived.Test.YtgohdhpokehflaaRefFld
import Derived.Test.YtgohdhpokehflaaFldWr
import Derived.Test.YtgohdhpokehflaaWithin
import Derived.Test.YtgohdhpokehflaaPtr
namespace Go.Proofs.Ytgohdhpokehflaa
set_option linter.unusedVariables false
set_option linter.unusedSimpArgs false
open Go.ChangeShapes Go.WideShapes Go.ChangeAt Go.RowKit

/-- a row in state s, and what is wanted of it (in state so) -/
def WSt (W w : World) (r : Nat) (vw : Value) (s so : WS) : Prop := ∃ v, Ro w r v s ∧ OwnB w vw so.out ∧ Keep [] W w ∧ (∀ b, v.ownBlock = some b → W.heap.size ≤ b ∧ vw.ownBlock ≠ some b) ∧ (∀ b, vw.ownBlock = some b → W.heap.size ≤ b ∧ b ≠ r)
theorem WSt.keep {W w w' : World} {r : Nat} {vw : Value} {s so : WS} (h : WSt W w r vw s so) (k : Keep [] w w') : WSt W w' r vw s so := by
  obtain ⟨v, h1, h2, h3, h4, h5⟩ := h
  exact ⟨v, h1.keep k (by simp) (by simp), h2.keep k (by simp), h3.trans k (by simp), h4, h5⟩
theorem WSt.step {W w w' : World} {r : Nat} {v v' vw : Value} {s s' so : WS} (hr : W.heap.size ≤ r) (h1 : Ro w r v s) (h2 : OwnB w vw so.out) (h3 : Keep [] W w) (h4 : ∀ b, v.ownBlock = some b → W.heap.size ≤ b ∧ vw.ownBlock ≠ some b) (h5 : ∀ b, vw.ownBlock = some b → W.heap.size ≤ b ∧ b ≠ r)
    (k1 : Ro w' r v' s') (k2 : Keep (r :: v.ownBlock.toList) w w') (k3 : ∀ b, v'.ownBlock = some b → v.ownBlock = some b ∨ w.heap.size ≤ b) :
    Ro w' r v' s' ∧ OwnB w' vw so.out ∧ Keep [] W w' ∧ (∀ b, v'.ownBlock = some b → W.heap.size ≤ b ∧ vw.ownBlock ≠ some b) ∧ (∀ b, vw.ownBlock = some b → W.heap.size ≤ b ∧ b ≠ r) := by
  have hlt := h2.lt
  have hs := h3.size
  refine ⟨k1, h2.keep k2 ?_, h3.trans k2 ?_, ?_, h5⟩
  · intro b hb hm
    simp at hm
    rcases hm with rfl | hm
    · exact (h5 _ hb).2 rfl
    · exact (h4 b hm).2 hb
  · intro b hm
    right
    simp at hm
    rcases hm with rfl | hm
    · exact hr
    · exact (h4 b hm).1
  · intro b hb
    rcases k3 b hb with h | h
    · exact h4 b h
    · exact ⟨by omega, fun e => by have := hlt b e; omega⟩
theorem WS.put_len (s : WS) (b : List UInt8) : (s.put b).l.length ≤ s.l.length + b.length := by unfold WS.put; split <;> simp
theorem WS.put_out (s : WS) (b : List UInt8) : (s.put b).out = if (s.put b).err = 0 then s.out ++ b else [] := by
  unfold WS.put WS.out
  by_cases h : s.err = 0 <;> simp [h]
theorem WS.u16_good (s : WS) (x : Int) (h : 0 ≤ x) (h2 : x ≤ 65535) : s.u16 x = s.put (lb 2 (max 0 (min x 65535)).toNat) := by
  have e : max 0 (min x 65535) = x := by omega
  rw [e]
  unfold WS.u16; rw [if_neg (by omega)]
theorem WS.put_err (s : WS) (b : List UInt8) : (s.put b).err = s.err := by unfold WS.put; split <;> rfl
theorem WS.u16_bad (s : WS) (x : Int) (h : x < 0 ∨ 65535 < x) (h0 : s.err = 0) : s.u16 x = { s with err := 18 } := by
  unfold WS.u16 WS.fail; rw [if_pos h, if_pos h0]
theorem WS.u16_stay (s : WS) (x : Int) (h0 : s.err ≠ 0) : s.u16 x = s := by
  unfold WS.u16 WS.fail WS.put; simp [h0]
theorem rowInfo : (Try.prog.info? 61).isSome = true := by kernel_rfl
theorem rowSame (w : World) (a : Addr) : (binOp .neq 44 (.pointer (some a)) (.pointer (some a))).run Try.prog w = .ok (.bool false) w := by
  obtain ⟨i, hi⟩ := Option.isSome_iff_exists.1 rowInfo
  exact run_neq_same w _ _ i a Try.underlying44 hi
/-- behind one writing -/
def WMid (W w : World) (r : Nat) (vw vm ve : Value) (s : WS) : Prop := ∃ (s' : WS) (mb : List UInt8), ve = .int .i64 s'.err ∧ WSt W w r vw s' s ∧ OwnB w vm mb ∧ mb.length ≤ 44 ∧ s'.out = (if s'.err = 0 then s.out ++ mb else []) ∧ s'.l.length ≤ s.l.length + 44
set_option maxRecDepth 100000 in
set_option maxHeartbeats 4000000 in
theorem writes_w (W : World) (v0 : Value) (x : WL) (h0 : isWrites W v0 x) : Calls Try.prog 4 #[v0] W fun e w' => e = .returned (.bool true) ∧ Keep [] W w' := by
  obtain ⟨hn, a1, cap1, rfl, hpos⟩ := h0
  go_enter Try.func4, Try.ntmps4
  go_wp2_with fail
  refine (roNew_c W).mono ?_; rintro e w1 ⟨r, rfl, hw, hk, hrW⟩
  have HW : WSt W w1 r (.slice none 0 0) ⟨[], 0⟩ ⟨[], 0⟩ := ⟨_, hw, OwnB.nil _, hk, by simp [Value.ownBlock], by simp [Value.ownBlock]⟩
  have Hpos := Lib.hid hpos; clear hpos hw hk
  go_wp2_with fail
  go_loopw [4, 5, 6] (fun vw ve i wr => ∃ (k : Nat) (s : WS), k ≤ x.n ∧ k ≤ 60 ∧ i = .int .i64 k ∧ ve = .int .i64 s.err ∧ s.l.length ≤ 44 * k ∧ WSt W wr r vw s s) (fun _ _ i _ => 60 - (intOf i).toNat)
  case atStart => exact ⟨0, ⟨[], 0⟩, by omega, by omega, rfl, rfl, by simp, HW⟩
  case round =>
    obtain ⟨k, s, hk, hk6, rfl, rfl, hsl, HS⟩ := hrel
    have key : (k < x.n ∧ k < 60) ∨ ¬ k < x.n ∨ (k < x.n ∧ ¬ k < 60) := by omega
    rcases key with ⟨hlt, hlt2⟩ | hlt | ⟨hlt, hlt2⟩
    · obtain ⟨b1, off1, rfl, hcells⟩ := Hpos.out (by omega)
      have C := Lib.hid (hcells k hlt)
      have K1 : Keep [] W wr := by obtain ⟨v, _, _, h, _⟩ := HS; exact h
      have e0 := K1.cellW C.out.1
      have e1 := K1.cellW C.out.2.1
      have e2 := K1.cellW C.out.2.2.1
      have e3 := K1.cellW C.out.2.2.2.2.1
      clear hcells Hpos
      generalize x.K k = z at e0 C
      generalize x.N k = y at e1 C
      generalize x.X k = yy at e2 C
      generalize x.V k = vB at e3 C
      generalize x.B k = lB at C
      have hs40 : s.l.length ≤ 2640 := by omega
      obtain ⟨v, h1, h2, h3, h4, h5⟩ := HS
      have H4 := Lib.hid h4; have H5 := Lib.hid h5; clear h4 h5
      go_upto_block 2 with fail
      go_cut [5, 7, 8] (fun ve vp vm wx => vp = .pointer (some ⟨r, 0, none⟩) ∧ WMid W wx r u4 vm ve s)
      case first =>
        by_cases z0 : z = 0
        · subst z0
          go_wp2_with fail
          refine (roU16_c wr r v s y h1 (by omega)).mono ?_; rintro e w2 ⟨v2, rfl, k1, k2, k3⟩
          obtain ⟨g1, g2, g3, g4, g5⟩ := WSt.step hrW h1 h2 h3 H4.out H5.out k1 k2 k3
          have f1 := g3.cellW C.out.2.1
          clear e0 e1 e2 e3 k1 k2 k3
          have G4 := Lib.hid g4; have G5 := Lib.hid g5; clear g4 g5
          go_wp2_with fail
          refine (within_c y 0 65535 _ (by decide)).mono ?_; rintro e w' ⟨rfl, rfl⟩
          obtain ⟨c, hc⟩ : ∃ c : Nat, max 0 (min y 65535) = c := ⟨(max 0 (min y 65535)).toNat, by omega⟩
          have hc2 : c ≤ 65535 := by omega
          rw [hc]
          have HC := Lib.hid hc; clear hc
          go_wp2_with fail
          refine (refput_c _ c 2 (by omega) (by omega)).mono ?_; rintro e w3 ⟨vm, rfl, ho3, hk3, hv3⟩
          have f2 := hk3.cell f1 (by simp)
          have hMid : ∀ e : Nat, e = (s.u16 y).err → WMid W w3 r u4 vm (.int .i64 e) s := by
            intro e he
            refine ⟨s.u16 y, lb 2 c, by rw [he], WSt.keep ⟨v2, g1, g2, g3, G4.out, G5.out⟩ hk3, ho3, by rw [lb_length]; omega, ?_, ?_⟩
            · by_cases hy : 0 ≤ y ∧ y ≤ 65535
              · rw [WS.u16_good s y hy.1 hy.2, HC.out]; exact WS.put_out s _
              · by_cases h0 : s.err = 0
                · rw [WS.u16_bad s y (by omega) h0]; simp [WS.out]
                · rw [WS.u16_stay s y h0]; simp [WS.out, h0]
            · by_cases hy : 0 ≤ y ∧ y ≤ 65535
              · rw [WS.u16_good s y hy.1 hy.2]; have := WS.put_len s (lb 2 (max 0 (min y 65535)).toNat); rw [lb_length] at this; omega
              · by_cases h0 : s.err = 0
                · rw [WS.u16_bad s y (by omega) h0]; simp
                · rw [WS.u16_stay s y h0]; omega
          have HM := Lib.hid hMid; clear hMid
          clear g1 g2 g3 h1 h2 h3 f1 ho3 hk3 hv3
          by_cases h0 : s.err = 0
          · have hb0 : ((s.err : Int) == 0) = true := by simp [h0]
            have key2 : (0 ≤ y ∧ y ≤ 65535) ∨ y < 0 ∨ (0 ≤ y ∧ 65535 < y) := by omega
            rcases key2 with ⟨hy1, hy2⟩ | hy | ⟨hy1, hy2⟩
            · have he : s.err = (s.u16 y).err := by rw [WS.u16_good s y hy1 hy2, WS.put_err]
              have HE := Lib.hid he; clear he h0
              go_wp2_with fail
              go_meet
              exact ⟨rfl, HM.out _ HE.out⟩
            · have he : 18 = (s.u16 y).err := by rw [WS.u16_bad s y (by omega) h0]
              have HE := Lib.hid he; clear he h0
              go_wp2_with fail
              go_meet
              exact ⟨rfl, HM.out _ HE.out⟩
            · have he : 18 = (s.u16 y).err := by rw [WS.u16_bad s y (by omega) h0]
              have HE := Lib.hid he; clear he h0
              go_wp2_with fail
              go_meet
              exact ⟨rfl, HM.out _ HE.out⟩
          · have hb0 : ((s.err : Int) == 0) = false := by simp; omega
            have he : s.err = (s.u16 y).err := by rw [WS.u16_stay s y h0]
            have HE := Lib.hid he; clear he h0
            go_wp2_with fail
            go_meet
            exact ⟨rfl, HM.out _ HE.out⟩
        · have z0' : (z == 0) = false := by simpa using z0
          by_cases z1 : z = 1
          · subst z1
            have hyy := C.out.2.2.2.1
            go_wp2_with fail
            refine (roU32_c wr r v s yy hyy h1 (by omega)).mono ?_; rintro e w2 ⟨v2, rfl, k1, k2, k3⟩
            obtain ⟨g1, g2, g3, g4, g5⟩ := WSt.step hrW h1 h2 h3 H4.out H5.out k1 k2 k3
            have f1 := g3.cellW C.out.2.2.1
            clear e0 e1 e2 e3 k1 k2 k3
            have G4 := Lib.hid g4; have G5 := Lib.hid g5; clear g4 g5
            go_wp2_with fail
            refine (refput_c _ yy 4 hyy (by omega)).mono ?_; rintro e w3 ⟨vm, rfl, ho3, hk3, hv3⟩
            have HM : WMid W w3 r u4 vm (.int .i64 s.err) s :=
              ⟨s.put (lb 4 yy), lb 4 yy, by rw [WS.put_err], WSt.keep ⟨v2, g1, g2, g3, G4.out, G5.out⟩ hk3, ho3, by rw [lb_length]; omega, WS.put_out s _, by have := WS.put_len s (lb 4 yy); rw [lb_length] at this; omega⟩
            clear g1 g2 g3 h1 h2 h3 f1 ho3 hk3 hv3
            go_wp2_with fail
            go_meet
            exact ⟨rfl, HM⟩
          · have z1' : (z == 1) = false := by simpa using z1
            clear z0 z1
            have hB0 : Bs wr vB lB := C.out.2.2.2.2.2.keep K1 (by simp)
            go_wp2_with fail
            refine (cut_c wr vB lB 40 (by decide) hB0).mono ?_; rintro e w' ⟨vc, rfl, hb, hvc, rfl⟩
            have hl40 : (lB.take 40).length ≤ 40 := by rw [List.length_take]; omega
            generalize lB.take 40 = mb at hb hl40
            go_wp2_with fail
            refine (copy_c wr vc mb (by omega) hb).mono ?_; rintro e w2 ⟨vb, rfl, ho2, hk2, hv2⟩
            have g1 := h1.keep hk2 (by simp) (by simp)
            have g2 := h2.keep hk2 (by simp)
            have g3 : Keep [] W w2 := h3.trans hk2 (by simp)
            have hsz2 := hk2.size
            have hrlt := h1.1.lt
            have hvlt := h1.2.1.lt
            have hwlt := h2.lt
            have hblt := ho2.lt
            have hvb : ∀ b, vb.ownBlock = some b → b ≠ r ∧ v.ownBlock ≠ some b ∧ u4.ownBlock ≠ some b ∧ W.heap.size ≤ b := by
              intro b hb
              have := hv2 b hb
              refine ⟨by omega, fun h => by have := hvlt b h; omega, fun h => by have := hwlt b h; omega, by have := h3.size; omega⟩
            clear e0 e1 e2 e3 h1 h2 h3 hb hB0
            have hp := Lib.hid (roPut_c w2 r v s vb mb g1 ho2.bs (by omega))
            have Hvb := Lib.hid hvb; have Hblt := Lib.hid hblt
            clear hvb hv2 hblt hvlt hwlt
            go_wp2_with fail
            refine hp.out.mono ?_; rintro e w3 ⟨v3, rfl, k1, k2, k3⟩
            have ho3 : OwnB w3 vb mb := ho2.keep k2 (by
              intro b hb hm
              simp at hm
              rcases hm with rfl | hm
              · exact (Hvb.out _ hb).1 rfl
              · exact (Hvb.out b hb).2.1 hm)
            have hv3b : ∀ b, vb.ownBlock = some b → v3.ownBlock ≠ some b := by
              intro b hb h
              rcases k3 b h with h | h
              · exact (Hvb.out b hb).2.1 h
              · have := Hblt.out b hb; omega
            obtain ⟨g1, g2, g3, g4, g5⟩ := WSt.step hrW g1 g2 g3 H4.out H5.out k1 k2 k3
            have hk23 := k2.size
            clear k1 k2 k3 ho2 hp
            have G4 := Lib.hid g4; have G5 := Lib.hid g5; have Hv3 := Lib.hid hv3b; clear g4 g5 hv3b
            go_wp2_with fail
            refine (copy_c w3 vb mb (by omega) ho3.bs).mono ?_; rintro e w4 ⟨vm, rfl, ho4, hk4, hv4⟩
            have ho4b := ho3.keep hk4 (by simp)
            have G : Ro w4 r v3 (s.put mb) ∧ OwnB w4 u4 s.out ∧ Keep [] W w4 := ⟨g1.keep hk4 (by simp) (by simp), g2.keep hk4 (by simp), g3.trans hk4 (by simp)⟩
            have hvm : ∀ b, vb.ownBlock = some b → vm.ownBlock ≠ some b := by
              intro b hb h
              have := hv4 b h
              have := Hblt.out b hb; omega
            have Hvm := Lib.hid hvm
            clear hvm hv4 hk4 g1 g2 g3 ho3
            obtain ⟨ab, cb, rfl, hcb, hcm⟩ := ho4b.bs.shape
            unfold maxLen at hcm
            go_wp2_with fail
            go_loopw [10] (fun i wx => ∃ (j : Nat) (l' : List UInt8), j ≤ mb.length ∧ i = .int .i64 j ∧ l'.length = mb.length ∧ OwnB wx (.slice ab mb.length cb) l' ∧ Keep (Value.slice ab mb.length cb).ownBlock.toList w4 wx) (fun i _ => mb.length - (intOf i).toNat)
            case atStart => exact ⟨0, mb, by omega, rfl, rfl, ho4b, Keep.refl _ _⟩
            case round =>
              obtain ⟨j, l', hj, rfl, hl', hown, hkeep⟩ := hrel
              have Hl' := Lib.hid hl'
              by_cases hjl : j < mb.length
              · rcases hown.cases with ⟨h1, _⟩ | ⟨g, cap', h1, _, _, hcell, hg⟩
                · simp only [Value.slice.injEq] at h1; omega
                · simp only [Value.slice.injEq] at h1
                  obtain ⟨rfl, _, rfl⟩ := h1
                  have e1 := hcell j (by omega)
                  have f1 := hown.free j
                  obtain ⟨c, hc⟩ : ∃ c, c = l'[j] := ⟨_, rfl⟩
                  rw [← hc] at e1
                  have hs := hown.store j (by omega) (c + 1)
                  have hce : ((c + 1).toNat : Int) = (c.toNat + 1) % 256 := by simp [UInt8.toNat_add]
                  rw [hce] at hs
                  have hb1 : c.toNat < 256 := c.toNat_lt
                  generalize c.toNat = x at e1 hs hb1
                  clear hcell hc hce hl'
                  go_wp2
                  go_roundw
                  case rel => exact ⟨j + 1, _, by omega, by go_num, by rw [List.length_set]; exact Hl'.out, hs, hkeep.setCell (by simp [Value.ownBlock]) _⟩
                  case measure => simp [intOf]; omega
              · have hb1 : ∀ b ∈ (Value.slice ab mb.length cb).ownBlock.toList, (Value.slice ab mb.length cb).ownBlock = some b := fun b hb => by simpa using hb
                have HM : WMid W wr r u4 vm (.int .i64 s.err) s :=
                  ⟨s.put mb, mb, by rw [WS.put_err], ⟨v3, G.1.keep hkeep (fun hm => (Hvb.out r (hb1 r hm)).1 rfl) (fun b hb hm => Hv3.out b (hb1 b hm) hb), G.2.1.keep hkeep (fun b hb hm => (Hvb.out b (hb1 b hm)).2.2.1 hb), G.2.2.trans hkeep (fun b hb => .inr (Hvb.out b (hb1 b hb)).2.2.2), G4.out, G5.out⟩,
                    ho4.keep hkeep (fun b hb hm => Hvm.out b (hb1 b hm) hb), by omega, WS.put_out s _, by have := WS.put_len s mb; omega⟩
                clear hkeep hown hl' ho4b ho4 G hb1
                go_wp2
                go_meet
                exact ⟨rfl, HM⟩
      case rest =>
        obtain ⟨rfl, s', mb, rfl, ⟨v', m1, m2, m3, m4, m5⟩, hm, hml, hout, hsl'⟩ := hcut
        have Hout := Lib.hid hout; have M4 := Lib.hid m4; have M5 := Lib.hid m5
        clear hout m4 m5 e0 e1 e2 e3 h1 h2 h3 C K1 H4 H5
        have hps := fun w => rowSame w ⟨r, 0, none⟩
        by_cases h0 : s'.err = 0
        · have hb0 : ((s'.err : Int) == 0) = true := by simp [h0]
          have hso : s.out.length ≤ s.l.length := by unfold WS.out; split <;> simp
          have ho : Hid (s'.out = s.out ++ mb) := by unfold Hid; rw [Hout.out, if_pos h0]
          clear h0 Hout
          go_wp2_with (at_builtin; (refine wpList_appendB (.tmp 105) (.tmp 106) rfl rfl u4 s.out rfl m2 u8 mb rfl hm.bs (by omega) ?_); (intro vN w9 hoN hkN hbN hzN))
          have n1 : Ro w9 r v' s' := m1.keep hkN (fun hm => (M5.out r (by simpa using hm)).2 rfl) (fun b hb hm => (M4.out b hb).2 (by simpa using hm))
          have n2 : OwnB w9 vN s'.out := by rw [ho.out]; exact hoN
          have n3 : Keep [] W w9 := m3.trans hkN (fun b hb => .inr (M5.out b (by simpa using hb)).1)
          have n4 : ∀ b, v'.ownBlock = some b → W.heap.size ≤ b ∧ vN.ownBlock ≠ some b := by
            intro b hb
            refine ⟨(M4.out b hb).1, fun h => ?_⟩
            rcases hbN b h with h | h
            · exact (M4.out b hb).2 h
            · have := m1.2.1.lt b hb; omega
          have n5 : ∀ b, vN.ownBlock = some b → W.heap.size ≤ b ∧ b ≠ r := by
            intro b hb
            rcases hbN b hb with h | h
            · exact M5.out b h
            · have := m1.1.lt; have := m3.size; omega
          have N4 := Lib.hid n4; have N5 := Lib.hid n5
          clear n4 n5 m1 m2 m3 M4 M5 hm hoN hkN hbN hzN
          have H9 : WSt W w9 r vN s' s' := ⟨v', n1, n2, n3, N4.out, N5.out⟩
          clear n1 n2 n3
          obtain ⟨v6, q1, q2, q3, q4, q5⟩ := H9
          have Q4 := Lib.hid q4; have Q5 := Lib.hid q5; clear q4 q5
          go_wp2_with fail
          refine (roBytes_c w9 r v6 s' q1 (by omega)).mono ?_; rintro e w10 ⟨vo, rfl, oo, ok, ov⟩
          have p1 := q1.keep ok (by simp) (by simp)
          have p2 := q2.keep ok (by simp)
          have p3 : Keep [] W w10 := q3.trans ok (by simp)
          have hsame := Lib.hid (same_c w10 vo vN _ _ oo.bs p2.bs)
          clear q1 q2 q3 ok ov oo
          go_wp2_with fail
          refine hsame.out.mono ?_; rintro e w11 ⟨rfl, m, rfl⟩
          have p1' := p1.drewN m
          have H11 : WSt W (w10.drewN m) r vN s' s' := ⟨v6, p1', p2.keep ((Keep.refl [] _).drewN m) (by simp), p3.drewN m, Q4.out, Q5.out⟩
          generalize w10.drewN m = w11 at p1' H11 ⊢
          clear p1 p2 p3 hsame
          go_wp2_with (refine (roErr_c w11 r v6 s' p1').mono ?_; rintro e w' ⟨rfl, rfl⟩)
          clear p1'
          go_roundw
          case rel => exact ⟨k + 1, s', by omega, by omega, by go_num, rfl, by omega, H11⟩
          case measure => simp [intOf]; omega
        · have hb0 : ((s'.err : Int) == 0) = false := by simp; omega
          have n2 : OwnB wc (.slice none 0 0) s'.out := by rw [Hout.out, if_neg h0]; exact OwnB.nil _
          obtain ⟨vN, hvN⟩ : ∃ vN, vN = Value.slice none 0 0 := ⟨_, rfl⟩
          rw [← hvN] at n2
          have n1 := m1
          have n3 := m3
          have n4 : ∀ b, v'.ownBlock = some b → W.heap.size ≤ b ∧ vN.ownBlock ≠ some b := fun b hb => ⟨(M4.out b hb).1, by rw [hvN]; simp [Value.ownBlock]⟩
          have n5 : ∀ b, vN.ownBlock = some b → W.heap.size ≤ b ∧ b ≠ r := fun b hb => by rw [hvN] at hb; simp [Value.ownBlock] at hb
          have N4 := Lib.hid n4; have N5 := Lib.hid n5
          subst hvN
          clear n4 n5 m1 m2 m3 M4 M5 hm h0 Hout
          have H9 : WSt W wc r (Value.slice none 0 0) s' s' := ⟨v', n1, n2, n3, N4.out, N5.out⟩
          clear n1 n2 n3
          obtain ⟨v6, q1, q2, q3, q4, q5⟩ := H9
          have Q4 := Lib.hid q4; have Q5 := Lib.hid q5; clear q4 q5
          go_wp2_with fail
          refine (roBytes_c wc r v6 s' q1 (by omega)).mono ?_; rintro e w10 ⟨vo, rfl, oo, ok, ov⟩
          have p1 := q1.keep ok (by simp) (by simp)
          have p2 := q2.keep ok (by simp)
          have p3 : Keep [] W w10 := q3.trans ok (by simp)
          have hsame := Lib.hid (same_c w10 vo (Value.slice none 0 0) _ _ oo.bs p2.bs)
          clear q1 q2 q3 ok ov oo
          go_wp2_with fail
          refine hsame.out.mono ?_; rintro e w11 ⟨rfl, m, rfl⟩
          have p1' := p1.drewN m
          have H11 : WSt W (w10.drewN m) r (Value.slice none 0 0) s' s' := ⟨v6, p1', p2.keep ((Keep.refl [] _).drewN m) (by simp), p3.drewN m, Q4.out, Q5.out⟩
          generalize w10.drewN m = w11 at p1' H11 ⊢
          clear p1 p2 p3 hsame
          go_wp2_with (refine (roErr_c w11 r v6 s' p1').mono ?_; rintro e w' ⟨rfl, rfl⟩)
          clear p1'
          go_roundw
          case rel => exact ⟨k + 1, s', by omega, by omega, by go_num, rfl, by omega, H11⟩
          case measure => simp [intOf]; omega
    all_goals
      obtain ⟨v, _, _, K1, _⟩ := HS
      go_wp2_with (refine (lives_c _).mono ?_; rintro e w' ⟨rfl, hk⟩)
      go_ret
      exact ⟨rfl, K1.trans hk (by simp)⟩
end Go.Proofs.Ytgohdhpokehflaa
