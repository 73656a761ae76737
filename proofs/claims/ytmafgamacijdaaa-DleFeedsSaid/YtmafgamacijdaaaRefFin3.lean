/- The document's own answers of layer 9: Find. -/
import Derived.Test.YtmafgamacijdaaaRefFin2
import Derived.Test.YtmafgamacijdaaaRefTok2
namespace Go.Proofs.Ytmafgamacijdaaa
set_option linter.unusedVariables false
set_option linter.unusedSimpArgs false
open Go.ChangeShapes Go.WideShapes Go.ChangeAt Go.RowKit

theorem reffind9_bad (w : World) (v : Value) (b : List UInt8) (s : Sh) (hs : ¬ s.ok) : Calls Try.prog 38 #[v, s.val] w fun e w' => e = .returned (.tuple #[.slice none 0 0, .int .i64 2]) ∧ Keep [] w w' := by
  have HC := Lib.hid (fun (ww : World) => refcheck9_c ww s)
  rw [dec_f hs] at HC
  obtain ⟨win, mn, mx, ch, lz⟩ := s
  show Calls Try.prog 38 #[v, .agg #[.int .i64 win, .int .i64 mn, .int .i64 mx, .int .i64 ch, .bool lz]] w _
  have HC1 : Hid (∀ ww : World, Calls Try.prog 50 #[.agg #[.int .i64 win, .int .i64 mn, .int .i64 mx, .int .i64 ch, .bool lz]] ww fun e w' => e = .returned (.bool false) ∧ Keep [] ww w') := HC
  clear HC hs
  go_enter Try.func38, Try.ntmps38
  go_wp2_with fail
  refine (HC1.out _).mono ?_
  rintro e w2 ⟨rfl, K2⟩
  have K3 : Hid (Keep [] w w2) := ((Keep.refl [] w).alloc _).trans K2 (by simp)
  clear K2
  go_wp2_with fail
  go_ret2
  exact ⟨rfl, K3.out⟩
theorem wfN (z : Int) (h0 : 0 ≤ z) (h : z ≤ 9223372036854775807) : (Lit.int .i64 z).wf = true := by
  simp [Lit.wf, IntKind.min, IntKind.max, IntKind.bits, IntKind.signed]; omega
/-- a token's length -/
theorem field_len (w : World) (x y z : Int) : (Instr.field 69 (.agg #[.int .u8 x, .int .i64 y, .int .i64 z]) 2).run Try.prog w = .ok (.int .i64 z) w := by
  simp [Instr.field, run_underlying Try.underlying69, asAgg, part, isAgg, run_underlying Try.underlying3]
/-- what At answers is small -/
theorem atT_small {b : List UInt8} {s : Sh} (hs : s.ok) {i : Nat} (hi : i ≤ b.length) : (atT b s i).lit = 0 ∧ 0 ≤ (atT b s i).dist ∧ (atT b s i).dist ≤ i ∧ 0 ≤ (atT b s i).len ∧ (i : Int) + (atT b s i).len ≤ b.length := by
  rcases atT_hit hs hi with h | h
  · rw [h]; refine ⟨rfl, ?_, ?_, ?_, ?_⟩ <;> simp only <;> omega
  · obtain ⟨d, n, h1, h2, h3, h4, h5, h6, h7, h8, h9⟩ := h.ex
    refine ⟨h.lit, ?_, ?_, ?_, ?_⟩ <;> omega
theorem fdF_succ (b : List UInt8) (s : Sh) (f i : Nat) (h : i < b.length) : fdF b s (f + 1) i = stepT b s i :: fdF b s f (i + sz1 (stepT b s i)) := by rw [fdF, if_pos h]
theorem fdF_end (b : List UInt8) (s : Sh) (f : Nat) : fdF b s f b.length = [] := by
  cases f with
  | zero => rfl
  | succ f => rw [fdF, if_neg (by omega)]
set_option maxRecDepth 100000 in
set_option maxHeartbeats 4000000 in
theorem reffind9_c (w : World) (v : Value) (b : List UInt8) (s : Sh) (hs : s.ok) (h : Bs w v b) (hb : b.length ≤ 100000) : Calls Try.prog 38 #[v, s.val] w fun e w' => ∃ v', e = .returned (.tuple #[v', .int .i64 0]) ∧ OwnT w' v' (found b s) ∧ Keep [] w w' ∧ ∀ x, v'.ownBlock = some x → w.heap.size ≤ x := by
  have HC := Lib.hid (fun (ww : World) => refcheck9_c ww s)
  rw [dec_t hs] at HC
  have HAT := Lib.hid (fun (ww : World) (kk : Keep [] w ww) (i : Nat) (hi : i ≤ b.length) => refat9_c ww v b s i hs (h.keep kk (by simp)) hi hb)
  have HSM := Lib.hid (fun (i : Nat) (hi : i ≤ b.length) => atT_small hs hi)
  have HI := Lib.hid (fun w' (k : Keep [] w w') i hi => (h.keep k (by simp)).spot i hi)
  have HST : Hid (∀ i, stepT b s i = if (atT b s i).len = 0 ∨ waits b s i then ⟨b.getD i 0, 0, 0⟩ else atT b s i) := fun i => rfl
  have HFS := Lib.hid (fdF_succ b s)
  have HFE := Lib.hid (fdF_end b s)
  have HF0 : Hid (found b s = fdF b s b.length 0) := rfl
  have HWT : Hid (∀ i, waits b s i ↔ (s.lazy = true ∧ (atT b s i).len < s.max ∧ 0 < (atT b s i).len ∧ i + 1 < b.length ∧ (atT b s i).len < (atT b s (i + 1)).len)) := fun i => Iff.rfl
  obtain ⟨a, cap, rfl, hc1, hc2⟩ := h.shape
  clear h hc1 hc2 hs
  obtain ⟨win, mn, mx, ch, lz⟩ := s
  simp only at HWT
  show Calls Try.prog 38 #[_, .agg #[.int .i64 win, .int .i64 mn, .int .i64 mx, .int .i64 ch, .bool lz]] w _
  have HC1 : Hid (∀ ww : World, Calls Try.prog 50 #[.agg #[.int .i64 win, .int .i64 mn, .int .i64 mx, .int .i64 ch, .bool lz]] ww fun e w' => e = .returned (.bool true) ∧ Keep [] ww w') := HC
  have HA : Hid (∀ (ww : World) (kk : Keep [] w ww) (i : Nat) (hi : i ≤ b.length), Calls Try.prog 51 #[.slice a b.length cap, .agg #[.int .i64 win, .int .i64 mn, .int .i64 mx, .int .i64 ch, .bool lz], .int .i64 i] ww fun e w' => e = .returned (.agg #[.int .u8 (atT b ⟨win, mn, mx, ch, lz⟩ i).lit.toNat, .int .i64 (atT b ⟨win, mn, mx, ch, lz⟩ i).dist, .int .i64 (atT b ⟨win, mn, mx, ch, lz⟩ i).len]) ∧ Keep [] ww w') := HAT
  clear HC HAT
  generalize (⟨win, mn, mx, ch, lz⟩ : Sh) = S at HA HSM HST HFS HFE HF0 HWT ⊢
  go_enter Try.func38, Try.ntmps38
  go_wp2_with fail
  refine (HC1.out _).mono ?_
  rintro e w2 ⟨rfl, K2⟩
  have K3 : Hid (Keep [] w w2) := ((Keep.refl [] w).alloc _).trans K2 (by simp)
  have B3 : Hid (Blk w2 w.heap.size #[.int .i64 win, .int .i64 mn, .int .i64 mx, .int .i64 ch, .bool lz] 66) := (Blk.new w _ _).keep K2 (by simp)
  clear K2 HC1
  go_wp2_with fail
  go_loopw [6, 7] (fun ov iv wr => ∃ (i f : Nat) (ts : List Tk) (a7 : Option Addr) (c7 : Nat), i ≤ b.length ∧ b.length ≤ i + f ∧ ts.length ≤ i ∧ iv = .int .i64 i ∧ ov = .slice a7 ts.length c7 ∧ Hid (found b S = ts ++ fdF b S f i) ∧ Hid (OwnT wr (.slice a7 ts.length c7) ts) ∧ Hid (Keep [] w wr) ∧ Hid (Blk wr w.heap.size #[.int .i64 win, .int .i64 mn, .int .i64 mx, .int .i64 ch, .bool lz] 66) ∧ Hid (∀ x, (Value.slice a7 ts.length c7).ownBlock = some x → w.heap.size < x)) (fun _ iv _ => b.length - (intOf iv).toNat)
  case atStart => exact ⟨0, b.length, [], none, 0, by omega, by omega, by simp, rfl, rfl, HF0, OwnT.nil _, K3, B3, fun x hx => by simp [Value.ownBlock] at hx⟩
  case round =>
    obtain ⟨i, f, ts, a7, c7, hi, hf, htl, rfl, rfl, HF, HO, HK, HB1, HB⟩ := hrel
    clear K3 B3
    by_cases hlt : i < b.length
    case neg =>
      obtain rfl : i = b.length := by omega
      have HR : Hid (found b S = ts) := by have := HF.out; rw [HFE.out, List.append_nil] at this; exact this
      clear hlt HF
      go_wp2_with fail
      go_ret2
      exact ⟨_, rfl, by rw [HR.out]; exact HO.out, HK.out, fun x hx => Nat.le_of_lt (HB.out x hx)⟩
    have hltz : (i : Int) < (b.length : Int) := by omega
    obtain ⟨f', rfl⟩ : ∃ f', f = f' + 1 := ⟨f - 1, by omega⟩
    have HF1 : Hid (found b S = ts ++ stepT b S i :: fdF b S f' (i + sz1 (stepT b S i))) := by have := HF.out; rw [HFS.out f' i hlt] at this; exact this
    have HS1 := Lib.hid (HSM.out i hi)
    have HW := Lib.hid (HWT.out i)
    have HS0 := Lib.hid (HST.out i)
    have s0 := HB1.out.cell 0 (.int .i64 win) rfl
    have s1 := HB1.out.cell 1 (.int .i64 mn) rfl
    have s2 := HB1.out.cell 2 (.int .i64 mx) rfl
    have s3 := HB1.out.cell 3 (.int .i64 ch) rfl
    have s4 := HB1.out.cell 4 (.bool lz) rfl
    clear HF
    go_wp2_with fail
    refine (HA.out _ HK.out i hi).mono ?_
    rintro e w3 ⟨rfl, K3⟩
    have HO2 : Hid (OwnT w3 (.slice a7 ts.length c7) ts) := HO.out.keep K3 (by simp)
    have HK2 : Hid (Keep [] w w3) := HK.out.trans K3 (by simp)
    have HB2 : Hid (Blk w3 w.heap.size #[.int .i64 win, .int .i64 mn, .int .i64 mx, .int .i64 ch, .bool lz] 66) := HB1.out.keep K3 (by simp)
    clear HO HK HB1 K3 s0 s1 s2 s3 s4
    generalize hT : atT b S i = t at HS1 HW HS0 ⊢
    obtain ⟨lt, ds, ln⟩ := t
    obtain ⟨q1, q2, q3, q4, q5⟩ := HS1.out
    simp only at q1 q2 q3 q4 q5 HW HS0
    clear HS1
    subst q1
    have HW1 := Lib.hid (show i + 1 ≤ b.length from hlt)
    have HA1 : Hid (∀ (ww : World) (kk : Keep [] (w3.alloc (.cells #[.int .u8 0, .int .i64 ds, .int .i64 ln] 69)) ww), Calls Try.prog 51 #[.slice a b.length cap, .agg #[.int .i64 win, .int .i64 mn, .int .i64 mx, .int .i64 ch, .bool lz], .int .i64 ((i : Int) + 1)] ww fun e w' => e = .returned (.agg #[.int .u8 (atT b S (i + 1)).lit.toNat, .int .i64 (atT b S (i + 1)).dist, .int .i64 (atT b S (i + 1)).len]) ∧ Keep [] ww w') := fun ww kk => HA.out ww ((HK2.out.alloc _).trans kk (by simp)) (i + 1) hlt
    have K5 : Hid (Keep [] w (w3.alloc (.cells #[.int .u8 0, .int .i64 ds, .int .i64 ln] 69))) := HK2.out.alloc _
    have B5 : Hid (Blk (w3.alloc (.cells #[.int .u8 0, .int .i64 ds, .int .i64 ln] 69)) w.heap.size #[.int .i64 win, .int .i64 mn, .int .i64 mx, .int .i64 ch, .bool lz] 66) := HB2.out.alloc _
    have T5 : Hid (Blk (w3.alloc (.cells #[.int .u8 0, .int .i64 ds, .int .i64 ln] 69)) w3.heap.size #[.int .u8 0, .int .i64 ds, .int .i64 ln] 69) := Blk.new _ _ _
    have HO5 : Hid (OwnT (w3.alloc (.cells #[.int .u8 0, .int .i64 ds, .int .i64 ln] 69)) (.slice a7 ts.length c7) ts) := HO2.out.keep ((Keep.refl [] w3).alloc _) (by simp)
    have HG : Hid (∀ x, (Value.slice a7 ts.length c7).ownBlock = some x → x < w3.heap.size) := fun x hx => HO2.out.lt x hx
    have HGW : Hid (w.heap.size < w3.heap.size) := HB2.out.lt
    clear HO2 HK2 HB2
    generalize (atT b S (i + 1)).lit.toNat = lt' at HA1
    generalize (atT b S (i + 1)).dist = ds' at HA1
    generalize (atT b S (i + 1)).len = ln' at HA1 HW
    go_upto_region 7 with fail
    generalize w3.alloc (.cells #[.int .u8 0, .int .i64 ds, .int .i64 ln] 69) = w5 at HA1 K5 B5 T5 HO5 ⊢
    generalize w3.heap.size = g at T5 HG HGW ⊢
    have y0 : ∀ p : Kept w5, p.x.cell? ⟨w.heap.size, 0, none⟩ = some (.int .i64 win) := fun p => p.h.cell (B5.out.cell 0 _ rfl) (by simp)
    have y1 : ∀ p : Kept w5, p.x.cell? ⟨w.heap.size, 1, none⟩ = some (.int .i64 mn) := fun p => p.h.cell (B5.out.cell 1 _ rfl) (by simp)
    have y2 : ∀ p : Kept w5, p.x.cell? ⟨w.heap.size, 2, none⟩ = some (.int .i64 mx) := fun p => p.h.cell (B5.out.cell 2 _ rfl) (by simp)
    have y3 : ∀ p : Kept w5, p.x.cell? ⟨w.heap.size, 3, none⟩ = some (.int .i64 ch) := fun p => p.h.cell (B5.out.cell 3 _ rfl) (by simp)
    have y4 : ∀ p : Kept w5, p.x.cell? ⟨w.heap.size, 4, none⟩ = some (.bool lz) := fun p => p.h.cell (B5.out.cell 4 _ rfl) (by simp)
    have x2 : ∀ p : Kept w5, p.x.cell? ⟨g, 2, none⟩ = some (.int .i64 ln) := fun p => p.h.cell (T5.out.cell 2 _ rfl) (by simp)
    have z2 := B5.out.cell 2 (.int .i64 mx) rfl
    have z4 := B5.out.cell 4 (.bool lz) rfl
    have zz := T5.out.cell 2 (.int .i64 ln) rfl
    have hw1 : IntKind.i64.wrap ((i : Int) + 1) = (i : Int) + 1 := by rw [IntKind.wrap_i64]; omega
    have hfd := fun ww : World => field_len ww (lt' : Int) ds' ln'
    go_cut [9] (fun wv wx => ∃ bv, wv = .bool bv ∧ Hid (bv = true ↔ waits b S i) ∧ Hid (Keep [] w5 wx))
    case first =>
      clear HF1 HO5 HG HGW HB T5 B5 K5
      cases lz with
      | false =>
        have NW : Hid (¬ (false = true ∧ ln < mx ∧ 0 < ln ∧ i + 1 < b.length ∧ ln < ln')) := fun g => (by cases g.1)
        clear y0 y1 y2 y3 y4 x2 hfd
        go_wp2_with fail
        go_quiet (fail)
        go_wp2_with fail
        go_meet
        exact ⟨false, rfl, (show _ ↔ _ from ⟨fun e => (by cases e), fun g => absurd (HW.out.1 g) NW.out⟩), (Keep.refl [] w5).drewN _⟩
      | true =>
        by_cases h1 : ln < mx
        case neg =>
          have NW : Hid (¬ (true = true ∧ ln < mx ∧ 0 < ln ∧ i + 1 < b.length ∧ ln < ln')) := fun g => h1 g.2.1
          have d1 := dec_f h1
          clear h1
          clear y0 y1 y2 y3 y4 x2 hfd
          go_wp2_with fail
          go_quiet (fail)
          go_wp2_with fail
          go_meet
          exact ⟨false, rfl, (show _ ↔ _ from ⟨fun e => (by cases e), fun g => absurd (HW.out.1 g) NW.out⟩), (Keep.refl [] w5).drewN _⟩
        have d1 := dec_t h1
        by_cases h2 : 0 < ln
        case neg =>
          have NW : Hid (¬ (true = true ∧ ln < mx ∧ 0 < ln ∧ i + 1 < b.length ∧ ln < ln')) := fun g => h2 g.2.2.1
          have d2 := dec_f h2
          clear h1 h2
          clear y0 y1 y2 y3 y4 x2 hfd
          go_wp2_with fail
          go_quiet (fail)
          go_wp2_with fail
          go_meet
          exact ⟨false, rfl, (show _ ↔ _ from ⟨fun e => (by cases e), fun g => absurd (HW.out.1 g) NW.out⟩), (Keep.refl [] w5).drewN _⟩
        have d2 := dec_t h2
        by_cases h3 : i + 1 < b.length
        case neg =>
          have NW : Hid (¬ (true = true ∧ ln < mx ∧ 0 < ln ∧ i + 1 < b.length ∧ ln < ln')) := fun g => h3 g.2.2.2.1
          have d3 := dec_f h3
          have d3' := dec_f (show ¬ (i : Int) + 1 < (b.length : Int) by omega)
          clear h1 h2 h3
          clear y0 y1 y2 y3 y4 x2 hfd
          go_wp2_with fail
          go_quiet (fail)
          go_wp2_with fail
          go_meet
          exact ⟨false, rfl, (show _ ↔ _ from ⟨fun e => (by cases e), fun g => absurd (HW.out.1 g) NW.out⟩), (Keep.refl [] w5).drewN _⟩
        have d3 := dec_t h3
        have d3' := dec_t (show (i : Int) + 1 < (b.length : Int) by omega)
        by_cases h4 : ln < ln'
        case neg =>
          have NW : Hid (¬ (true = true ∧ ln < mx ∧ 0 < ln ∧ i + 1 < b.length ∧ ln < ln')) := fun g => h4 g.2.2.2.2
          have d4 := dec_f h4
          clear h1 h2 h3 h4
          clear z2 z4 zz
          go_wp2_with fail
          refine wp_region_kept (by kernel_rfl) (by kernel_rfl) ?_
          repeat (quiet_step (first | (go_at_call 51; with_reducible exact kept_of (HA1.out _ (Kept.h _)))))
          refine wpQuiet_nil ?_
          intro _ hw'
          obtain ⟨p, hw''⟩ := hw'
          subst hw''
          go_wp2_with fail
          go_meet
          exact ⟨false, rfl, (show _ ↔ _ from ⟨fun e => (by cases e), fun g => absurd (HW.out.1 g) NW.out⟩), p.h⟩
        clear z2 z4 zz
        have YW : Hid (waits b S i) := HW.out.2 ⟨rfl, h1, h2, h3, h4⟩
        have d4 := dec_t h4
        clear h1 h2 h3 h4
        go_wp2_with fail
        refine wp_region_kept (by kernel_rfl) (by kernel_rfl) ?_
        repeat (quiet_step (first | (go_at_call 51; with_reducible exact kept_of (HA1.out _ (Kept.h _)))))
        refine wpQuiet_nil ?_
        intro _ hw'
        obtain ⟨p, hw''⟩ := hw'
        subst hw''
        go_wp2_with fail
        go_meet
        exact ⟨true, rfl, (show _ ↔ _ from ⟨fun _ => YW.out, fun _ => rfl⟩), p.h⟩
    case rest =>
      obtain ⟨bv, rfl, HBV, KC⟩ := hcut
      have KW : Hid (Keep [] w wc) := K5.out.trans KC.out (by simp)
      have BC : Hid (Blk wc w.heap.size #[.int .i64 win, .int .i64 mn, .int .i64 mx, .int .i64 ch, .bool lz] 66) := B5.out.keep KC.out (by simp)
      have TC : Hid (Blk wc g #[.int .u8 0, .int .i64 ds, .int .i64 ln] 69) := T5.out.keep KC.out (by simp)
      have OC : Hid (OwnT wc (.slice a7 ts.length c7) ts) := HO5.out.keep KC.out (by simp)
      clear K5 B5 T5 HO5 KC y0 y1 y2 y3 y4 x2 z2 z4 zz hw1 hfd HA1 HW HA
      obtain ⟨n, rfl⟩ := Int.eq_ofNat_of_zero_le q4
      have e0 := TC.out.cell 0 (.int .u8 0) rfl
      have e1 := TC.out.cell 1 (.int .i64 ds) rfl
      have e2 := TC.out.cell 2 (.int .i64 n) rfl
      by_cases hl : (n : Int) = 0 ∨ waits b S i
      · have HR : Hid (stepT b S i = ⟨b.getD i 0, 0, 0⟩) := by have := HS0.out; rw [if_pos hl] at this; exact this
        have HF2 : Hid (found b S = (ts ++ [⟨b.getD i 0, 0, 0⟩]) ++ fdF b S f' (i + 1)) := by
          have := HF1.out
          rw [HR.out] at this
          unfold Hid
          rw [this, List.append_assoc]; rfl
        obtain ⟨gb, ob, cb, hv, e3⟩ := HI.out wc KW.out i hlt
        simp only [Value.slice.injEq] at hv
        obtain ⟨rfl, h3, rfl⟩ := hv
        clear h3
        have g1 : b.getD i 0 = b[i]'hlt := by rw [List.getD_eq_getElem?_getD, List.getElem?_eq_getElem hlt]; rfl
        rw [← g1] at e3
        generalize b.getD i 0 = x at e3 HF2
        have HSS := Lib.hid (Blk.new wc (Tk.cells ⟨x, 0, 0⟩).toArray 69)
        clear g1 HR HF1 HS0 e0 e1
        by_cases h0 : (n : Int) = 0
        · have d0 : ((n : Int) == 0) = true := by simpa using h0
          clear h0 hl
          go_wp2_with (at_builtin; (refine wpList_appendT (.tmp 59) (.tmp 65) rfl rfl (.slice a7 ts.length c7) ts rfl (OC.out.keep ((Keep.refl [] wc).alloc _) (by simp)) wc.heap.size (⟨x, 0, 0⟩ : Tk) rfl HSS.out ⟨wf0, wf0⟩ (by omega) ?_); (intro v8 w8 o8 k8 b8 z8); (obtain ⟨g8, c8, hv8⟩ := o8.blk z8); (subst hv8))
          have HO8 : Hid (OwnT w8 (.slice (some ⟨g8, 0, none⟩) (ts ++ [(⟨x, 0, 0⟩ : Tk)]).length c8) (ts ++ [(⟨x, 0, 0⟩ : Tk)])) := o8
          have HK8 : Hid (Keep [] w w8) := (KW.out.alloc _).trans k8 (fun y hy => .inr (Nat.le_of_lt (HB.out y (by simpa using hy))))
          have HB9 : Hid (Blk w8 w.heap.size #[.int .i64 win, .int .i64 mn, .int .i64 mx, .int .i64 ch, .bool lz] 66) := (BC.out.alloc _).keep k8 (fun hx => by have := HB.out w.heap.size (by simpa using hx); omega)
          have HB8 : Hid (∀ y, (Value.slice (some ⟨g8, 0, none⟩) (ts ++ [(⟨x, 0, 0⟩ : Tk)]).length c8).ownBlock = some y → w.heap.size < y) := fun y hy => by
            rcases b8 y hy with h | h
            · exact HB.out y h
            · have := KW.out.size; rw [h]; simp; omega
          have hl8 : (ts ++ [(⟨x, 0, 0⟩ : Tk)]).length = ts.length + 1 := by simp
          have HL8 := Lib.hid hl8
          clear o8 k8 b8 z8 OC KW HB BC TC HSS HG hl8
          go_wp2_with fail
          go_roundw
          case rel => exact ⟨i + 1, f', ts ++ [(⟨x, 0, 0⟩ : Tk)], _, c8, by omega, by omega, by rw [HL8.out]; omega, by go_num, by first | rfl | rw [HL8.out], HF2, HO8, HK8, HB9, HB8⟩
          case measure => simp [intOf]; omega
        · have d0 : ((n : Int) == 0) = false := by simpa using h0
          obtain rfl : bv = true := HBV.out.2 (hl.resolve_left h0)
          clear h0 hl
          go_wp2_with (at_builtin; (refine wpList_appendT (.tmp 59) (.tmp 65) rfl rfl (.slice a7 ts.length c7) ts rfl (OC.out.keep ((Keep.refl [] wc).alloc _) (by simp)) wc.heap.size (⟨x, 0, 0⟩ : Tk) rfl HSS.out ⟨wf0, wf0⟩ (by omega) ?_); (intro v8 w8 o8 k8 b8 z8); (obtain ⟨g8, c8, hv8⟩ := o8.blk z8); (subst hv8))
          have HO8 : Hid (OwnT w8 (.slice (some ⟨g8, 0, none⟩) (ts ++ [(⟨x, 0, 0⟩ : Tk)]).length c8) (ts ++ [(⟨x, 0, 0⟩ : Tk)])) := o8
          have HK8 : Hid (Keep [] w w8) := (KW.out.alloc _).trans k8 (fun y hy => .inr (Nat.le_of_lt (HB.out y (by simpa using hy))))
          have HB9 : Hid (Blk w8 w.heap.size #[.int .i64 win, .int .i64 mn, .int .i64 mx, .int .i64 ch, .bool lz] 66) := (BC.out.alloc _).keep k8 (fun hx => by have := HB.out w.heap.size (by simpa using hx); omega)
          have HB8 : Hid (∀ y, (Value.slice (some ⟨g8, 0, none⟩) (ts ++ [(⟨x, 0, 0⟩ : Tk)]).length c8).ownBlock = some y → w.heap.size < y) := fun y hy => by
            rcases b8 y hy with h | h
            · exact HB.out y h
            · have := KW.out.size; rw [h]; simp; omega
          have hl8 : (ts ++ [(⟨x, 0, 0⟩ : Tk)]).length = ts.length + 1 := by simp
          have HL8 := Lib.hid hl8
          clear o8 k8 b8 z8 OC KW HB BC TC HSS HG hl8
          go_wp2_with fail
          go_roundw
          case rel => exact ⟨i + 1, f', ts ++ [(⟨x, 0, 0⟩ : Tk)], _, c8, by omega, by omega, by rw [HL8.out]; omega, by go_num, by first | rfl | rw [HL8.out], HF2, HO8, HK8, HB9, HB8⟩
          case measure => simp [intOf]; omega
      · have HR : Hid (stepT b S i = ⟨0, ds, n⟩) := by have := HS0.out; rw [if_neg hl] at this; exact this
        have h0 : ¬ (n : Int) = 0 := fun e => hl (.inl e)
        have HF2 : Hid (found b S = (ts ++ [⟨0, ds, n⟩]) ++ fdF b S f' (i + n)) := by
          have := HF1.out
          rw [HR.out] at this
          have hz : sz1 (⟨0, ds, n⟩ : Tk) = n := by unfold sz1; rw [if_neg h0]; simp
          rw [hz] at this
          unfold Hid
          rw [this, List.append_assoc]; rfl
        have d0 : ((n : Int) == 0) = false := by simpa using h0
        have hn0 : 0 < n := by omega
        obtain rfl : bv = false := by
          cases bv with
          | false => rfl
          | true => exact absurd (.inr (HBV.out.1 rfl)) hl
        have hwd : (Lit.int .i64 ds).wf = true := wfN _ q2 (by omega)
        have hwn : (Lit.int .i64 (n : Int)).wf = true := wfN _ (by omega) (by omega)
        have HSS := Lib.hid (Blk.new wc #[.int .u8 0, .int .i64 ds, .int .i64 n] 69)
        clear hl h0 HR HF1 HS0
        go_wp2_with (at_builtin; (refine wpList_appendT (.tmp 69) (.tmp 71) rfl rfl (.slice a7 ts.length c7) ts rfl (OC.out.keep ((Keep.refl [] wc).alloc _) (by simp)) wc.heap.size (⟨0, ds, n⟩ : Tk) rfl HSS.out ⟨hwd, hwn⟩ (by omega) ?_); (intro v8 w8 o8 k8 b8 z8); (obtain ⟨g8, c8, hv8⟩ := o8.blk z8); (subst hv8); (have e8 := ((TC.out.alloc _).keep k8 (fun hx => by have := HG.out g (by simpa using hx); omega)).cell 2 (.int .i64 n) rfl))
        have HO8 : Hid (OwnT w8 (.slice (some ⟨g8, 0, none⟩) (ts ++ [(⟨0, ds, n⟩ : Tk)]).length c8) (ts ++ [(⟨0, ds, n⟩ : Tk)])) := o8
        have HK8 : Hid (Keep [] w w8) := (KW.out.alloc _).trans k8 (fun y hy => .inr (Nat.le_of_lt (HB.out y (by simpa using hy))))
        have HB9 : Hid (Blk w8 w.heap.size #[.int .i64 win, .int .i64 mn, .int .i64 mx, .int .i64 ch, .bool lz] 66) := (BC.out.alloc _).keep k8 (fun hx => by have := HB.out w.heap.size (by simpa using hx); omega)
        have HB8 : Hid (∀ y, (Value.slice (some ⟨g8, 0, none⟩) (ts ++ [(⟨0, ds, n⟩ : Tk)]).length c8).ownBlock = some y → w.heap.size < y) := fun y hy => by
          rcases b8 y hy with h | h
          · exact HB.out y h
          · have := KW.out.size; rw [h]; simp; omega
        have hl8 : (ts ++ [(⟨0, ds, n⟩ : Tk)]).length = ts.length + 1 := by simp
        have HL8 := Lib.hid hl8
        clear o8 k8 b8 z8 OC KW HB BC TC HSS HG hl8
        go_wp2_with fail
        go_roundw
        case rel => exact ⟨i + n, f', ts ++ [(⟨0, ds, n⟩ : Tk)], _, c8, by omega, by omega, by rw [HL8.out]; omega, by go_num, by first | rfl | rw [HL8.out], HF2, HO8, HK8, HB9, HB8⟩
        case measure => simp [intOf]; omega
end Go.Proofs.Ytmafgamacijdaaa
