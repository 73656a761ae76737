/- The walk of the law SfanoReads: it returns true at every input. -/
import Derived.Test.YtblogjpoijfpbaaSfLaw1
namespace Go.Proofs.Ytblogjpoijfpbaa
set_option linter.unusedVariables false
set_option linter.unusedSimpArgs false
open Go.ChangeShapes Go.WideShapes Go.ChangeAt Go.RowKit

theorem bits_sl6 (s : RS) (n : Int) : (s.bits n).2.l = s.l := by
  unfold RS.bits; repeat' split
  all_goals first | exact RS.fail_l _ _ | rfl
theorem nextS_sl (s : RS) (L : List Nat) : (s.nextS L).2.2.l = s.l := by
  unfold RS.nextS; dsimp only; repeat' split
  all_goals rfl
theorem Cds6.lt {w : World} {v : Value} {L : List Nat} (h : Cds6 w v L) (hl : L ≠ []) : ∀ b, v.ownBlock = some b → b < w.heap.size := by
  rcases Sts.cases (by decide) h with ⟨h0, _⟩ | ⟨hp, b, off, cap, rfl, h1, h2, h3, h4⟩
  · exact absurd (List.eq_nil_of_length_eq_zero h0) hl
  · intro b' hb'
    simp only [Value.ownBlock, Option.some.injEq] at hb'
    omega
theorem Cds6.keep' {w w' : World} {v : Value} {L : List Nat} {S : List Nat} (h : Cds6 w v L) (k : Keep S w w') (hb : L ≠ [] → ∀ b, v.ownBlock = some b → b ∉ S) : Cds6 w' v L := by
  rcases Sts.cases (by decide) h with ⟨h0, a, cap, rfl, h1, h2⟩ | ⟨hp, b, off, cap, rfl, h1, h2, h3, h4⟩
  · refine ⟨a, cap, by rw [h0], by omega, h1, h2, fun x hx i hi => by omega⟩
  · exact h.keep k (hb (by intro e; rw [e] at hp; simp at hp))
/-- both readers in one state, the decoder, the document's words -/
def BothS (W w : World) (r q d : Nat) (v vb cv : Value) (bs L : List Nat) (l : List UInt8) : Prop :=
  ∃ s : RS, s.l = l ∧ Rd w r v s ∧ Rr w q vb s ∧ Dec6 w d bs L ∧ Cds6 w cv L ∧ Keep [] W w
set_option maxRecDepth 100000 in
set_option maxHeartbeats 4000000 in
theorem sreads_w (W : World) (v0 : Value) (zs0 : List Int) (h0 : Is .i64 W v0 zs0) (v1 : Value) (l0 : List UInt8) (h1 : Bs W v1 l0) : Calls Try.prog 5 #[v0, v1] W fun e w' => e = .returned (.bool true) ∧ Keep [] W w' := by
  go_enter Try.func5, Try.ntmps5
  go_wp2_with fail
  refine (refints_c W v0 zs0 80 (by omega) h0).mono ?_; rintro e w1 ⟨va, rfl, ha, _, rfl⟩
  generalize zs0.take 80 = zs at ha
  go_wp2_with fail
  refine (cut_c W v1 l0 40 (by decide) h1).mono ?_; rintro e w' ⟨vb, rfl, hb, _, rfl⟩
  have hl60 : (l0.take 40).length ≤ 40 := by rw [List.length_take]; omega
  generalize l0.take 40 = l at hb hl60
  clear h0 h1
  go_wp2_with fail
  refine (sf_new W va zs ha).mono ?_; rintro e w2 ⟨p, rfl, k2, hp0, hp1⟩
  go_wp2_with fail
  refine (sfwords_c w2 va zs (ha.keep k2 (by simp))).mono ?_; rintro e w3 ⟨cv, rfl, hcd, k3, hcf, _⟩
  have K3 := k2.trans k3 (by simp)
  clear ha
  have hb3 := hb.keep K3 (by simp)
  by_cases hw : schk zs = 0
  · obtain ⟨d, bs, rfl, hd, hbs⟩ := hp1 hw
    have hLw : Ls zs = Ln zs := by unfold Ls; rw [if_pos hw]
    rw [hLw] at hcd
    rw [hw]
    have hd3 := hd.keep k3 (by simp)
    have hdlt := hd3.lt
    generalize Ln zs = L at hd3 hcd
    have hok := hd3.ok
    have hLne : L ≠ [] := by intro e; have := hok.2; rw [e] at this; simp [tot16, sm] at this
    have hcvlt := hcd.lt hLne
    clear hp0 hp1 hd k2 k3 hw hLw
    go_wp2_with fail
    refine (open_c w3 vb l (by omega) hb3).mono ?_; rintro e w4 ⟨r, v, rfl, hr, k4, hr2, hv2⟩
    have hb4 := hb3.keep k4 (by simp)
    have hd4 := hd3.keep k4 (by simp)
    have hcd4 := hcd.keep k4 (by simp)
    have K4 := K3.trans k4 (by simp)
    have hvlt := hr.2.1.lt
    obtain ⟨ab, capb, rfl, hbc, hbm⟩ := hb4.shape
    have KK : Keep [] w4 (w4.alloc (.cells #[.slice ab l.length capb, .int .i64 0, .int .i64 0] 48)) := (Keep.refl [] _).alloc _
    have hr5 := hr.keep KK (by simp) (by simp)
    have hqb : l ≠ [] → ∀ b, (Value.slice ab l.length capb).ownBlock = some b → b < w3.heap.size := by
      intro hl b hb'
      rcases hb3.cases with ⟨h, _⟩ | ⟨_, b2, off, cap, h, _, _, hlt, _⟩
      · exact absurd h hl
      · simp only [Value.slice.injEq] at h
        rw [h.1] at hb'
        simp only [Value.ownBlock, Option.some.injEq] at hb'
        omega
    have hs34 := k4.size
    have hsW := K3.size
    have hq5 : Rr (w4.alloc (.cells #[.slice ab l.length capb, .int .i64 0, .int .i64 0] 48)) w4.heap.size (.slice ab l.length capb) ⟨l, 0, true, 0⟩ :=
      ⟨Blk.new _ _ _, hb4.keep KK (by simp), ⟨by simp, by simp; omega, by simp⟩, rfl, fun hl b hb' => by have := hqb hl b hb'; omega⟩
    have hd5 := hd4.keep KK (by simp)
    have hcd5 := hcd4.keep KK (by simp)
    have K5 := K4.trans KK (by simp)
    have hrlt := hr.1.lt
    have hqr : w4.heap.size ≠ r := by omega
    have hqv : ∀ b, v.ownBlock = some b → b ≠ w4.heap.size := fun b hb' => by have := hvlt b hb'; omega
    have hrb : r ∉ bs := fun h => by have := hdlt r h; omega
    have hqbs : w4.heap.size ∉ bs := fun h => by have := hdlt _ h; omega
    have hvbr : l ≠ [] → ∀ b, (Value.slice ab l.length capb).ownBlock = some b → b ≠ r := fun hl b hb' => by have := hqb hl b hb'; omega
    have hcvr : ∀ b, cv.ownBlock = some b → b ≠ r ∧ b ≠ w4.heap.size := fun b hb => by have := hcvlt b hb; omega
    have hWr : W.heap.size ≤ r := by omega
    have hWq : W.heap.size ≤ w4.heap.size := by omega
    have HB : BothS W (w4.alloc (.cells #[.slice ab l.length capb, .int .i64 0, .int .i64 0] 48)) r w4.heap.size d v (.slice ab l.length capb) cv bs L l := ⟨_, rfl, hr5, hq5, hd5, hcd5, K5⟩
    go_wp2_with fail
    generalize w4.alloc (.cells #[.slice ab l.length capb, .int .i64 0, .int .i64 0] 48) = w5 at HB ⊢
    generalize w4.heap.size = q at hqr hqv hqbs hcvr hWq HB ⊢
    have Hqv := Lib.hid hqv; have Hvbr := Lib.hid hvbr; have Hcvr := Lib.hid hcvr; have Hrb := Lib.hid hrb; have Hqbs := Lib.hid hqbs
    have HL1 := Lib.hid hok.1
    have hf := hok.2
    clear KK hd4 hcd4 K4 hr hb4 hd3 hcd K3 hb hb3 k4 hv2 hqb hdlt hvlt hbs hcf hqv hvbr hcvr hrb hqbs hr2 hs34 hsW hrlt hr5 hq5 hd5 hcd5 K5 hok hLne hcvlt
    go_loopw [11] (fun i wr => ∃ k : Nat, k ≤ 400 ∧ i = .int .i64 k ∧ BothS W wr r q d v (.slice ab l.length capb) cv bs L l) (fun i _ => 400 - (intOf i).toNat)
    case atStart => exact ⟨0, by omega, rfl, HB⟩
    case round =>
      clear HB
      obtain ⟨k, hk, rfl, s, hs, hr8, hq8, hd8, hcd8, K8⟩ := hrel
      have Hs := Lib.hid hs; clear hs
      by_cases hlt : k < 400
      · go_wp2_with fail
        refine (sf_next _ d r v s bs L hd8 hr8 Hrb.out).mono ?_; rintro e w9 ⟨rfl, hr9, k9⟩
        have hq9 := hq8.keep k9 (by simpa using hqr) (fun hl b hb => by simpa using Hvbr.out (by rw [← Hs.out]; exact hl) b hb)
        have hd9 := hd8.keep k9 (fun b hb => by simp; intro e; subst e; exact Hrb.out hb)
        have hcd9 := hcd8.keep k9 (fun b hb => by simpa using (Hcvr.out b hb).1)
        have K9 := K8.trans k9 (by simpa using hWr)
        clear hr8 hq8 hd8 hcd8 K8 k9
        go_wp2_with fail
        refine (sfnext_c _ q _ cv s L (fun k hk => (HL1.out k hk).2) (fun k hk => (HL1.out k hk).1) hf hcd9 (fun b hb => (Hcvr.out b hb).2) hq9).mono ?_; rintro e w10 ⟨rfl, hq10, k10⟩
        have hr10 := hr9.keep k10 (by simpa using hqr.symm) (fun b hb => by simpa using Hqv.out b hb)
        have hd10 := hd9.keep k10 (fun b hb => by simp; intro e; subst e; exact Hqbs.out hb)
        have hcd10 := hcd9.keep k10 (fun b hb => by simpa using (Hcvr.out b hb).2)
        have K10 := K9.trans k10 (by simpa using hWq)
        have hs2 : Hid ((s.nextS L).2.2.l = l) := by unfold Hid; rw [nextS_sl, Hs.out]
        clear hr9 hq9 hd9 hcd9 K9 k10
        generalize (s.nextS L).1 = sy
        generalize (s.nextS L).2.1 = er
        generalize (s.nextS L).2.2 = s2 at *
        have d1 := hq10.1.cell 1 _ rfl
        clear Hs
        go_wp2_with fail
        go_quiet ((go_at_call 23; exact quiet_left (read_c _ _ _ _ (hr10.drewN _))))
        have HB8 : BothS W (w10.drewN nq) r q d v (.slice ab l.length capb) cv bs L l := ⟨s2, hs2.out, hr10.drewN nq, hq10.drewN nq, hd10.keep ((Keep.refl [] _).drewN nq) (by simp), hcd10.drewN nq, K10.drewN nq⟩
        generalize w10.drewN nq = w11 at HB8 ⊢
        clear hr10 hq10 hd10 hcd10 K10 d1 hs2
        by_cases her : er = 0
        · subst her
          go_wp2_with fail
          go_roundw
          case rel => exact ⟨k + 1, by omega, by go_num, HB8⟩
          case measure => simp [intOf]; omega
        · have hb1 : ((er : Int) != 0) = true := by simp; omega
          obtain ⟨_, _, _, _, _, _, K11⟩ := HB8
          go_wp2_with fail
          refine (lives6_c _).mono ?_; rintro e w12 ⟨rfl, k12⟩
          go_wp2_with fail
          go_ret
          exact ⟨rfl, K11.trans k12 (by simp)⟩
      · clear hr8 hq8 hd8 hcd8
        go_wp2_with fail
        refine (lives6_c _).mono ?_; rintro e w12 ⟨rfl, k12⟩
        go_wp2_with fail
        go_ret
        exact ⟨rfl, K8.trans k12 (by simp)⟩
  · obtain rfl := hp0 hw
    have hb2 : (((schk zs : Nat) : Int) == 0) = false := by simp; omega
    clear hp0 hp1 hcd
    generalize schk zs = er at hb2 ⊢
    go_wp2_with fail
    refine (open_c w3 vb l (by omega) hb3).mono ?_; rintro e w4 ⟨r, v, rfl, hr, k4, hr2, hv2⟩
    have hb4 := hb3.keep k4 (by simp)
    have K4 := K3.trans k4 (by simp)
    obtain ⟨ab, capb, rfl, hbc, hbm⟩ := hb4.shape
    have K5 := K4.alloc (.cells #[.slice ab l.length capb, .int .i64 0, .int .i64 0] 48)
    clear hb4 hb3 hb hr K4 K3 k4
    go_wp2_with fail
    refine wp_loop_rounds 1 ?_
    rw [rounds_succ]
    go_wp2_with fail
    refine (lives6_c _).mono ?_; rintro e w12 ⟨rfl, k12⟩
    go_wp2_with fail
    go_ret
    exact ⟨rfl, K5.trans k12 (by simp)⟩
end Go.Proofs.Ytblogjpoijfpbaa
