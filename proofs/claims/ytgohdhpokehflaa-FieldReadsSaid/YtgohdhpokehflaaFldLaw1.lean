/- The walk of the law FieldReads: it returns true at every input. -/
import Derived.Test.YtgohdhpokehflaaFldLives
import Derived.Test.YtgohdhpokehflaaRefFld
import Derived.Test.YtgohdhpokehflaaOpen
namespace Go.Proofs.Ytgohdhpokehflaa
set_option linter.unusedVariables false
set_option linter.unusedSimpArgs false
open Go.ChangeShapes Go.WideShapes Go.ChangeAt Go.RowKit

theorem cuErrr_c (w : World) (r q : Nat) (v vb : Value) (s : CS) (h : Cd w r v s) (hq : Rc w q vb s) : Calls Try.prog 20 #[.pointer (some ⟨r, 0, none⟩)] w fun e w' => e = .returned (.int .i64 s.err) ∧ w = w' := by
  rw [← hq.E]; exact cuErr_c w r v s h
/-- both cursors, in one state -/
def BothC (W w : World) (r q : Nat) (v vb : Value) (l : List UInt8) : Prop := ∃ s : CS, s.l = l ∧ Cd w r v s ∧ Rc w q vb s ∧ Keep [] W w
set_option maxRecDepth 100000 in
set_option maxHeartbeats 4000000 in
theorem reads_w (W : World) (v0 : Value) (l0 : List UInt8) (h0 : Bs W v0 l0) (v1 : Value) (x1 : Nat × (Nat → Int) × (Nat → Int)) (h1 : isReads W v1 x1) : Calls Try.prog 3 #[v0, v1] W fun e w' => e = .returned (.bool true) ∧ Keep [] W w' := by
  obtain ⟨n, K, N⟩ := x1
  obtain ⟨hn, a1, cap1, rfl, hpos⟩ := h1
  go_enter Try.func3, Try.ntmps3
  go_wp2_with fail
  refine (cut_c W v0 l0 200 (by decide) h0).mono ?_; rintro e w' ⟨vb, rfl, hb, hvb, rfl⟩
  have hl100 : (l0.take 200).length ≤ 200 := by rw [List.length_take]; omega
  generalize l0.take 200 = l at hb hl100
  go_wp2_with fail
  refine (copy_c W vb l (by omega) hb).mono ?_; rintro e w1 ⟨vm, rfl, hm, hk1, hvm⟩
  go_wp2_with fail
  refine (cuOpen_c w1 vm l (by omega) hm.bs).mono ?_; rintro e w2 ⟨r, v, rfl, hr, hk2, hr2, hv2⟩
  have K2 : Keep [] W w2 := hk1.trans hk2 (by simp)
  have hb2 := hb.keep K2 (by simp)
  have hm2 := hm.keep hk2 (by simp)
  have hmlt := hm.lt
  have hvlt := hr.2.1.lt
  obtain ⟨ab, capb, rfl, hbc, hbm⟩ := hb.shape
  go_wp2_with fail
  have K3 : Keep [] W (w2.alloc (.cells #[.slice ab l.length capb, .int .i64 0, .int .i64 0] 30)) := K2.alloc _
  have KK : Keep [] w2 (w2.alloc (.cells #[.slice ab l.length capb, .int .i64 0, .int .i64 0] 30)) := (Keep.refl [] _).alloc _
  have hr3 := hr.keep KK (by simp) (by simp)
  have hm3 := hm2.keep KK (by simp)
  have hqb : l ≠ [] → ∀ b, (Value.slice ab l.length capb).ownBlock = some b → b < W.heap.size := by
    intro hl b hb'
    rcases hb.cases with ⟨h, _⟩ | ⟨_, b2, off, cap, h, _, _, hlt, _⟩
    · exact absurd h hl
    · simp only [Value.slice.injEq] at h
      rw [h.1] at hb'
      simp only [Value.ownBlock, Option.some.injEq] at hb'
      omega
  have hqW : W.heap.size ≤ w2.heap.size := K2.size
  have hq3 : Rc (w2.alloc (.cells #[.slice ab l.length capb, .int .i64 0, .int .i64 0] 30)) w2.heap.size (.slice ab l.length capb) ⟨l, 0, true, 0⟩ :=
    ⟨Blk.new _ _ _, hb2.keep KK (by simp), rfl, ⟨by simp, by simp; omega, by simp⟩, fun hl b hb' => by have := hqb hl b hb'; omega⟩
  have hqr : w2.heap.size ≠ r := by have := hr.1.lt; omega
  have hqv : ∀ b, v.ownBlock = some b → b ≠ w2.heap.size := fun b hb' => by have := hvlt b hb'; omega
  have hrW : W.heap.size ≤ r := Nat.le_trans hk1.size hr2
  have hvW : ∀ b, v.ownBlock = some b → W.heap.size ≤ b := fun b hb => Nat.le_trans hk1.size (hv2 b hb)
  have hmr : ∀ b, vm.ownBlock = some b → b ≠ r ∧ v.ownBlock ≠ some b ∧ b ≠ w2.heap.size ∧ W.heap.size ≤ b := fun b hb' => by
    have h1 := hmlt b hb'
    have h2 := hvm b hb'
    have h3 := hk2.size
    refine ⟨by omega, fun h => ?_, by omega, by omega⟩
    have := hv2 b h; omega
  generalize w2.alloc (.cells #[.slice ab l.length capb, .int .i64 0, .int .i64 0] 30) = w3 at K3 hr3 hm3 hq3 ⊢
  generalize w2.heap.size = q at hq3 hqr hqv hqW hmr ⊢
  have Hqv := Lib.hid hqv; have HvW := Lib.hid hvW; have Hmr := Lib.hid hmr; have Hpos := Lib.hid hpos; have Hqb := Lib.hid hqb
  clear hr hm2 hk2 hb2 KK hqv hvW hmr hv2 hpos hvm hmlt hvb hqb hvlt hm hb hk1 K2 hr2
  obtain ⟨am, capm, rfl, hmc, hmm⟩ := hm3.bs.shape
  unfold maxLen at hmm
  go_loopw [8] (fun i wr => ∃ (k : Nat) (l' : List UInt8), k ≤ l.length ∧ i = .int .i64 k ∧ l'.length = l.length ∧ OwnB wr (.slice am l.length capm) l' ∧ Keep (Value.slice am l.length capm).ownBlock.toList w3 wr) (fun i _ => l.length - (intOf i).toNat)
  case atStart => exact ⟨0, l, by omega, rfl, rfl, hm3, Keep.refl _ _⟩
  case round =>
    obtain ⟨k, l', hk, rfl, hl', hown, hkeep⟩ := hrel
    have Hl' := Lib.hid hl'
    by_cases hlt : k < l.length
    · rcases hown.cases with ⟨h1, _⟩ | ⟨g, cap', h1, _, _, hcell, hg⟩
      · simp only [Value.slice.injEq] at h1; omega
      · simp only [Value.slice.injEq] at h1
        obtain ⟨rfl, _, rfl⟩ := h1
        have e1 := hcell k (by omega)
        have f1 := hown.free k
        obtain ⟨c, hc⟩ : ∃ c, c = l'[k] := ⟨_, rfl⟩
        rw [← hc] at e1
        have hs := hown.store k (by omega) (c + 1)
        have hce : ((c + 1).toNat : Int) = (c.toNat + 1) % 256 := by simp [UInt8.toNat_add]
        rw [hce] at hs
        have hb1 : c.toNat < 256 := c.toNat_lt
        generalize c.toNat = x at e1 hs hb1
        clear hcell hc hce hl'
        go_wp2
        go_roundw
        case rel => exact ⟨k + 1, _, by omega, by go_num, by rw [List.length_set]; exact Hl'.out, hs, hkeep.setCell (by simp [Value.ownBlock]) _⟩
        case measure => simp [intOf]; omega
    · have hb1 : ∀ b ∈ (Value.slice am l.length capm).ownBlock.toList, (Value.slice am l.length capm).ownBlock = some b := fun b hb => by simpa using hb
      have hr4 := hr3.keep hkeep (fun hm => (Hmr.out r (hb1 r hm)).1 rfl) (fun b hb hm => (Hmr.out b (hb1 b hm)).2.1 hb)
      have hq4 := hq3.keep hkeep (fun hm => (Hmr.out q (hb1 q hm)).2.2.1 rfl) (fun hl b hb hm => by have := Hqb.out hl b hb; have := (Hmr.out b (hb1 b hm)).2.2.2; omega)
      have K4 : Keep [] W wr := K3.trans hkeep (fun b hb => .inr (Hmr.out b (hb1 b hb)).2.2.2)
      have HB : BothC W wr r q v (.slice ab l.length capb) l := ⟨_, rfl, hr4, hq4, K4⟩
      clear hr3 hq3 hm3 hkeep hown hl' Hl' hk hb1 Hmr K3 hr4 hq4 K4
      go_wp2
      clear hlt
      go_loopw [9] (fun i wr => ∃ (k : Nat), k ≤ n ∧ k ≤ 60 ∧ i = .int .i64 k ∧ BothC W wr r q v (.slice ab l.length capb) l) (fun i _ => 60 - (intOf i).toNat)
      case atStart => exact ⟨0, by omega, by omega, rfl, HB⟩
      case round =>
        obtain ⟨k, hk, hk60, rfl, HB⟩ := hrel
        obtain ⟨s, hs, hr5, hq5, K5⟩ := HB
        have Hs := Lib.hid hs; clear hs
        by_cases hlt : k < n
        · by_cases hlt6 : k < 60
          · obtain ⟨b1, off1, rfl, hcells⟩ := Hpos.out (by omega)
            have e0 := K5.cellW (hcells k hlt).1
            have e1 := K5.cellW (hcells k hlt).2
            have C1 := Lib.hid (hcells k hlt).2
            generalize K k = z at e0
            generalize N k = nn at e1 C1
            clear hcells
            go_upto_block 4 with fail
            go_cut [] (fun wx => BothC W wx r q v (.slice ab l.length capb) l)
            case first =>
              by_cases z0 : z = 0
              · subst z0
                have ht := Lib.hid (s.take_len 2)
                have hlt2 := le_lt32 (s.take 2).1 (by have : (s.take 2).1.length ≤ 2 := ht.out; omega)
                go_wp2_with fail
                refine (cu16_c _ _ _ _ hr5).mono ?_; rintro e wA ⟨rfl, hrA, hkA⟩
                have KA : Keep [] W wA := K5.trans hkA (by simpa using hrW)
                have hqA := hq5.keep hkA (by simpa using hqr) (fun hl b hb hm => by have := Hqb.out (by rw [← Hs.out]; exact hl) b hb; simp at hm; omega)
                go_wp2_with fail
                refine (refTake_c _ _ _ _ 2 hqA).mono ?_; rintro e wB ⟨vh, rfl, hoh, hfh, hqB, hkB⟩
                have hrB := hrA.keep hkB (by simpa using Ne.symm hqr) (fun b hb hm => Hqv.out b hb (by simpa using hm))
                go_wp2_with fail
                refine (num_c _ _ _ (by have : (s.take 2).1.length ≤ 2 := ht.out; omega) hoh.bs).mono ?_; rintro e wC ⟨rfl, m, rfl⟩
                have HB2 : BothC W (wB.drewN m) r q v (.slice ab l.length capb) l := ⟨(s.take 2).2, by rw [CS.take_l]; exact Hs.out, hrB.drewN m, hqB.drewN m, (KA.trans hkB (by simpa using hqW)).drewN m⟩
                go_wp2_with fail
                go_meet
                exact HB2
              · have z0' : (z == 0) = false := by simpa using z0
                by_cases z1 : z = 1
                · subst z1
                  have ht := Lib.hid (s.take_len 4)
                  go_wp2_with fail
                  refine (cu32_c _ _ _ _ hr5).mono ?_; rintro e wA ⟨rfl, hrA, hkA⟩
                  have KA : Keep [] W wA := K5.trans hkA (by simpa using hrW)
                  have hqA := hq5.keep hkA (by simpa using hqr) (fun hl b hb hm => by have := Hqb.out (by rw [← Hs.out]; exact hl) b hb; simp at hm; omega)
                  go_wp2_with fail
                  refine (refTake_c _ _ _ _ 4 hqA).mono ?_; rintro e wB ⟨vh, rfl, hoh, hfh, hqB, hkB⟩
                  have hrB := hrA.keep hkB (by simpa using Ne.symm hqr) (fun b hb hm => Hqv.out b hb (by simpa using hm))
                  go_wp2_with fail
                  refine (num_c _ _ _ ht.out hoh.bs).mono ?_; rintro e wC ⟨rfl, m, rfl⟩
                  have HB2 : BothC W (wB.drewN m) r q v (.slice ab l.length capb) l := ⟨(s.take 4).2, by rw [CS.take_l]; exact Hs.out, hrB.drewN m, hqB.drewN m, (KA.trans hkB (by simpa using hqW)).drewN m⟩
                  go_wp2_with fail
                  go_meet
                  exact HB2
                · have z1' : (z == 1) = false := by simpa using z1
                  clear z0 z1
                  go_wp2_with fail
                  refine (cuBytes_c _ _ _ _ nn hr5).mono ?_; rintro e wA ⟨vg, rfl, hog, hfg, hrA, hkA⟩
                  have KA : Keep [] W wA := K5.trans hkA (by simpa using hrW)
                  have hqA := hq5.keep hkA (by simpa using hqr) (fun hl b hb hm => by have := Hqb.out (by rw [← Hs.out]; exact hl) b hb; simp at hm; omega)
                  have hglt := hog.lt
                  have e1A := KA.cellW C1.out
                  go_wp2_with fail
                  refine (refTake_c _ _ _ _ nn hqA).mono ?_; rintro e wB ⟨vh, rfl, hoh, hfh, hqB, hkB⟩
                  have hrB := hrA.keep hkB (by simpa using Ne.symm hqr) (fun b hb hm => Hqv.out b hb (by simpa using hm))
                  have KB : Keep [] W wB := KA.trans hkB (by simpa using hqW)
                  have hlr := hr5.1.lt
                  have hlq := hq5.1.lt
                  have hlv := hr5.2.1.lt
                  have hgr : ∀ b, vg.ownBlock = some b → b ≠ r ∧ b ≠ q ∧ v.ownBlock ≠ some b ∧ W.heap.size ≤ b := fun b hb => by
                    have := hfg b hb
                    refine ⟨by omega, by omega, fun h => ?_, by have := K5.size; omega⟩
                    have := hlv b h; omega
                  have hogB := hog.keep hkB (fun b hb hm => (hgr b hb).2.1 (by simpa using hm))
                  have hsm := Lib.hid (same_c wB vg vh _ _ hogB.bs hoh.bs)
                  have Hgr := Lib.hid hgr
                  clear hgr hlv hfg hfh hglt hog
                  go_wp2_with fail
                  refine hsm.out.mono ?_; rintro e wC ⟨rfl, m, rfl⟩
                  have HBx : BothC W (wB.drewN m) r q v (.slice ab l.length capb) l := ⟨_, by rw [CS.take_l]; exact Hs.out, hrB.drewN m, hqB.drewN m, KB.drewN m⟩
                  have hogC := hogB.keep ((Keep.refl [] wB).drewN m) (by simp)
                  generalize wB.drewN m = wC at HBx hogC ⊢
                  generalize (s.take nn).1 = lg at hogC ⊢
                  obtain ⟨ag, cg, rfl, hcg1, hcg2⟩ := hogC.bs.shape
                  unfold maxLen at hcg2
                  clear hrA hqA hrB hqB hkA hkB hogB hoh hsm KA KB hr5 hq5 K5 e0 e1 e1A C1 hlr hlq
                  go_wp2_with fail
                  go_loopw [11] (fun i wx => ∃ (k : Nat) (l' : List UInt8), k ≤ lg.length ∧ i = .int .i64 k ∧ l'.length = lg.length ∧ OwnB wx (.slice ag lg.length cg) l' ∧ BothC W wx r q v (.slice ab l.length capb) l) (fun i _ => lg.length - (intOf i).toNat)
                  case atStart => exact ⟨0, lg, by omega, rfl, rfl, hogC, HBx⟩
                  case round =>
                    obtain ⟨k, l', hk, rfl, hl', hown, HB6⟩ := hrel
                    have Hl' := Lib.hid hl'
                    by_cases hlt : k < lg.length
                    · rcases hown.cases with ⟨h1, _⟩ | ⟨g, cap', h1, _, _, hcell, hg⟩
                      · simp only [Value.slice.injEq] at h1; omega
                      · simp only [Value.slice.injEq] at h1
                        obtain ⟨rfl, _, rfl⟩ := h1
                        have e1 := hcell k (by omega)
                        have f1 := hown.free k
                        have hs := hown.store k (by omega) 9
                        generalize l'[k].toNat = x at e1
                        obtain ⟨s6, hs6, hr6, hq6, K6⟩ := HB6
                        have hgg := Hgr.out g rfl
                        have HB7 : BothC W (wr.setCell ⟨g, k, none⟩ (.int .u8 9)) r q v (.slice ab l.length capb) l :=
                          ⟨s6, hs6, hr6.keep ((Keep.refl [g] _).setCell (by simp) _) (by simpa using Ne.symm hgg.1) (fun b hb hm => hgg.2.2.1 (by simp at hm; rw [← hm]; exact hb)),
                            hq6.keep ((Keep.refl [g] _).setCell (by simp) _) (by simpa using Ne.symm hgg.2.1) (fun hl b hb hm => by have := Hqb.out (by rw [← hs6]; exact hl) b hb; have := hgg.2.2.2; simp at hm; omega),
                            K6.setCell (.inr hgg.2.2.2) _⟩
                        clear hcell hl' hr6 hq6 K6 hs6 hgg
                        go_wp2
                        go_roundw
                        case rel => exact ⟨k + 1, _, by omega, by go_num, by rw [List.length_set]; exact Hl'.out, hs, HB7⟩
                        case measure => simp [intOf]; omega
                    · go_wp2
                      go_meet
                      exact HB6
            case rest =>
              obtain ⟨s, hs, hr5, hq5, K5⟩ := hcut
              have Hs := Lib.hid hs; clear hs
              have d1 := hq5.1.cell 1 _ rfl
              have d2 := hq5.1.cell 2 _ rfl
              go_wp2_with fail
              go_quiet (first
                | (go_at_call 17; exact Calls.quiet_of (cuLeft_c _ _ _ _ (hr5.drewN _)))
                | (go_at_call 18; exact Calls.quiet_of (refLeft_c _ _ _ _ (hq5.drewN _)))
                | (go_at_call 21; exact Calls.quiet_of (cuEnd_c _ _ _ _ (hr5.drewN _)))
                | (go_at_call 22; exact Calls.quiet_of (refEnd_c _ _ _ _ (hq5.drewN _)))
                | (go_at_call 19; exact quiet_left (cuAt_c _ _ _ _ (hr5.drewN _)))
                | (go_at_call 20; exact quiet_left (cuErrr_c _ _ _ _ _ _ (hr5.drewN _) (hq5.drewN _))))
              have HB8 : BothC W (wc.drewN nq) r q v (.slice ab l.length capb) l := ⟨s, Hs.out, hr5.drewN nq, hq5.drewN nq, K5.drewN nq⟩
              generalize wc.drewN nq = w8 at HB8 ⊢
              clear hr5 hq5 K5 d1 d2
              go_wp2
              go_roundw
              case rel => exact ⟨k + 1, by omega, by omega, by go_num, HB8⟩
              case measure => simp [intOf]; omega
          · obtain ⟨b1, off1, rfl, hcells⟩ := Hpos.out (by omega)
            clear hr5 hq5
            go_wp2_with (refine (lives_c _).mono ?_; rintro e w' ⟨rfl, hk⟩)
            go_ret
            exact ⟨rfl, K5.trans hk (by simp)⟩
        · clear hr5 hq5
          go_wp2_with (refine (lives_c _).mono ?_; rintro e w' ⟨rfl, hk⟩)
          go_ret
          exact ⟨rfl, K5.trans hk (by simp)⟩
end Go.Proofs.Ytgohdhpokehflaa
