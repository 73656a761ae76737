/- The walk of the law HistPlays: it returns true at every input. -/
import Derived.Test.YtciifhhjhmlnjaaHstLaw4
import Derived.Deep.RegionHeld3
import Derived.Test.YtciifhhjhmlnjaaKept
namespace Go.Proofs.Ytciifhhjhmlnjaa
set_option linter.unusedVariables false
set_option linter.unusedSimpArgs false
open Go.ChangeShapes Go.WideShapes Go.ChangeAt Go.RowKit

/-- the output and the document's, without memory in common -/
structure Pl (W w : World) (q : Nat) (bs : List Nat) (r : Nat) (v : Value) (s t : HS) : Prop where
  o : Ho w q bs s
  x : Rx w r v t
  k : Keep [] W w
  nb : ∀ b ∈ bs, W.heap.size ≤ b
  nr : W.heap.size ≤ r
  nv : ∀ b, v.ownBlock = some b → W.heap.size ≤ b
  ar : r ∉ bs
  av : ∀ b, v.ownBlock = some b → b ∉ bs
theorem Pl.keep {W w w' : World} {q : Nat} {bs : List Nat} {r : Nat} {v : Value} {s t : HS} (h : Pl W w q bs r v s t) (k : Keep [] w w') : Pl W w' q bs r v s t :=
  ⟨h.o.keep k (by simp), h.x.keep k (by simp) (by simp), h.k.trans k (by simp), h.nb, h.nr, h.nv, h.ar, h.av⟩
theorem Pl.left {W w w' : World} {q : Nat} {bs : List Nat} {r : Nat} {v : Value} {s s' t : HS} (h : Pl W w q bs r v s t) (k : HoStep w w' q bs s') : ∃ bs', Pl W w' q bs' r v s' t := by
  obtain ⟨bs', k1, k2, k3, k4, k5⟩ := k.step h.k h.nb
  have hr := h.x.1.lt
  have hv := h.x.2.1.lt
  refine ⟨bs', ⟨k1, h.x.keep k4 h.ar h.av, k2, k3, h.nr, h.nv, fun hx => ?_, fun b hb hb' => ?_⟩⟩
  · rcases k5 r hx with h' | h'
    · exact h.ar h'
    · omega
  · rcases k5 b hb' with h' | h'
    · exact h.av b hb h'
    · have := hv b hb; omega
theorem Pl.right {W w w' : World} {q : Nat} {bs : List Nat} {r : Nat} {v v' : Value} {s t t' : HS} (h : Pl W w q bs r v s t) (hx : Rx w' r v' t') (hk : Keep (r :: v.ownBlock.toList) w w') (hb : ∀ b, v'.ownBlock = some b → v.ownBlock = some b ∨ w.heap.size ≤ b) : Pl W w' q bs r v' s t' := by
  have hl := h.o.lt
  have hs := h.k.size
  refine ⟨h.o.keep hk (fun b hb' hm => ?_), hx, h.k.trans hk (fun b hm => .inr ?_), h.nb, h.nr, fun b hb' => ?_, h.ar, fun b hb' hm => ?_⟩
  · simp at hm
    rcases hm with rfl | hm
    · exact h.ar hb'
    · exact h.av b hm hb'
  · simp at hm
    rcases hm with rfl | hm
    · exact h.nr
    · exact h.nv b hm
  · rcases hb b hb' with h' | h'
    · exact h.nv b h'
    · omega
  · rcases hb b hb' with h' | h'
    · exact h.av b h' hm
    · have := hl b hm; omega
theorem Pl.away {W w w' : World} {q : Nat} {bs : List Nat} {r g : Nat} {v : Value} {s t : HS} (h : Pl W w q bs r v s t) (k : Keep [g] w w') (h1 : g ∉ bs) (h2 : g ≠ r) (h3 : v.ownBlock ≠ some g) (h4 : W.heap.size ≤ g) : Pl W w' q bs r v s t :=
  ⟨h.o.keep k (fun b hb hm => by simp at hm; exact h1 (hm ▸ hb)), h.x.keep k (by simp; exact Ne.symm h2) (fun b hb hm => by simp at hm; exact h3 (hm ▸ hb)), h.k.trans k (fun b hm => by simp at hm; exact .inr (hm ▸ h4)), h.nb, h.nr, h.nv, h.ar, h.av⟩
set_option maxRecDepth 100000 in
set_option maxHeartbeats 16000000 in
theorem hplays_w (W : World) (win : Int) (hwin : (Lit.int .i64 win).wf = true) (most : Int) (hmost : (Lit.int .i64 most).wf = true) (nou : Bool) (v0 : Value) (x : DoL) (h0 : isDos W v0 x) : Calls Try.prog 3 #[.int .i64 win, .int .i64 most, .bool nou, v0] W fun e w' => e = .returned (.bool true) ∧ Keep [] W w' := by
  obtain ⟨hn, a0, cap0, rfl, h0⟩ := h0
  have H0 := Lib.hid h0
  have hmm : -9223372036854775808 ≤ most ∧ most ≤ 9223372036854775807 := by simpa [Lit.wf, IntKind.min, IntKind.max, IntKind.bits, IntKind.signed] using hmost
  obtain ⟨hm1, hm2⟩ := hmm
  have HNW := Lib.hid (hs_new W win most nou hm2 hm1)
  clear h0 hwin hmost
  by_cases hbad : hsBad win most
  · have HRN := Lib.hid (fun w => refhs_new_bad w win most nou hbad)
    have HBD := Lib.hid hbad
    clear hbad
    go_enter Try.func3, Try.ntmps3
    go_wp2_with fail
    refine HNW.out.mono ?_; rintro e w1 ⟨p, er, rfl, k1, hok, _⟩
    obtain ⟨rfl, rfl⟩ := hok HBD.out
    clear hok
    go_wp2_with fail
    refine (HRN.out _).mono ?_; rintro e w2 ⟨rfl, rfl⟩
    clear HNW HRN HBD
    go_wp2_with fail
    go_loopw [13] (fun i wr => i = .int .i64 0 ∧ Keep [] W wr) (fun i _ => 60 - (intOf i).toNat)
    case atStart => exact ⟨rfl, k1⟩
    case round =>
      clear k1
      obtain ⟨rfl, K⟩ := hrel
      by_cases hlt : 0 < x.n
      · go_wp2_with fail
        refine (lives7_c _).mono ?_; rintro e w8 ⟨rfl, k8⟩
        go_wp2_with fail
        go_ret
        exact ⟨rfl, K.trans k8 (by simp)⟩
      · have hx0 : x.n = 0 := by omega
        rw [hx0] at *
        go_wp2_with fail
        refine (lives7_c _).mono ?_; rintro e w8 ⟨rfl, k8⟩
        go_wp2_with fail
        go_ret
        exact ⟨rfl, K.trans k8 (by simp)⟩
  · have HRN := Lib.hid (fun w => refhs_new w win most nou hbad hm2)
    have HBD := Lib.hid hbad
    clear hbad
    go_enter Try.func3, Try.ntmps3
    go_wp2_with fail
    refine HNW.out.mono ?_; rintro e w1 ⟨p, er, rfl, k1, _, hok⟩
    obtain ⟨rfl, q, bs, rfl, hq, hbs⟩ := hok HBD.out
    clear hok
    go_wp2_with fail
    refine (HRN.out _).mono ?_; rintro e w2 ⟨rfl, hx, k2⟩
    have hP : Pl W w2 q bs w1.heap.size (.slice none 0 0) ⟨win.toNat, most.toNat, nou, []⟩ ⟨win.toNat, most.toNat, nou, []⟩ :=
      ⟨hq.keep k2 (by simp), hx, k1.trans k2 (by simp), hbs, k1.size, by simp [Value.ownBlock], fun hm => by have := hq.lt _ hm; omega, by simp [Value.ownBlock]⟩
    have hM : 0 ≤ most := by have := HBD.out; unfold hsBad at this; omega
    obtain ⟨M, rfl⟩ := Int.eq_ofNat_of_zero_le hM
    clear HNW HRN HBD hq hx k1 k2 hbs
    generalize w1.heap.size = r at hP ⊢
    go_wp2_with fail
    go_loopw [13] (fun i wr => ∃ (k : Nat) (bs : List Nat) (v : Value) (s : HS), k ≤ x.n ∧ k ≤ 60 ∧ i = .int .i64 k ∧ Pl W wr q bs r v s s ∧ s.most = M ∧ (s.b.length ≤ 3000 * k ∨ M ≤ 100000)) (fun i _ => 60 - (intOf i).toNat)
    case atStart => exact ⟨0, bs, _, _, by omega, by omega, rfl, hP, rfl, .inl (by simp)⟩
    case round =>
      clear hP hM
      obtain ⟨k, bs, v, s, hk, hk2, rfl, P, hsm, hlen⟩ := hrel
      obtain ⟨hsl, _, _, _⟩ := P.o.ok
      rw [hsm] at hsl
      have K := P.k
      by_cases hlt : k < x.n
      · by_cases hlt2 : k < 60
        · obtain ⟨b, off, rfl, hb, hc⟩ := H0.out (by omega)
          obtain ⟨c1, c2, c3, d1, d2⟩ := hc k hlt
          generalize x.C k = c at *
          generalize x.D k = D at *
          generalize x.N k = N at *
          clear hc
          have HC := Lib.hid (fun w' (j : Keep [] W w') => (⟨j.cellW c1, j.cellW c2, j.cellW c3⟩ : w'.cell? ⟨b, off + k * 3, none⟩ = some (.int .u8 (c.toNat)) ∧ w'.cell? ⟨b, off + k * 3 + 1, none⟩ = some (.int .i64 D) ∧ w'.cell? ⟨b, off + k * 3 + 2, none⟩ = some (.int .i64 N)))
          clear c1 c2 c3
          obtain ⟨c1, c2, c3⟩ := HC.out wr K
          have x1 := P.x.1.cell 1 _ rfl
          rw [hsm] at x1
          go_upto_region 9 with fail
          go_cut [68] (fun cv wx => wx = wr ∧ ∃ t : Bool, cv = .bool t ∧ (t = false → N ≤ 3000 ∨ M ≤ 100000))
          case first =>
            by_cases h1 : 3000 < N
            · by_cases h2 : 100000 < M
              · go_wp2_with fail
                go_meet
                exact ⟨rfl, _, rfl, fun h => by rw [decide_eq_false_iff_not] at h; omega⟩
              · go_wp2_with fail
                go_meet
                exact ⟨rfl, _, rfl, fun _ => .inr (by omega)⟩
            · go_wp2_with fail
              go_meet
              exact ⟨rfl, false, rfl, fun _ => .inl (by omega)⟩
          obtain ⟨rfl, t, rfl, ht⟩ := hcut
          have HTT := Lib.hid ht
          clear ht
          go_upto_if 68 with fail
          go_cut [14] (fun nv wx => ∃ n : Int, nv = .int .i64 n ∧ wx = wc ∧ (Lit.int .i64 n).wf = true ∧ (n ≤ 3000 ∨ M ≤ 100000))
          case first =>
            cases t with
            | true =>
              go_wp2_with fail
              go_meet
              exact ⟨3000, rfl, rfl, by decide, .inl (by omega)⟩
            | false =>
              go_wp2_with fail
              go_meet
              exact ⟨N, rfl, rfl, d2, HTT.out (by first | rfl | trivial)⟩
          case rest =>
            obtain ⟨n, rfl, rfl, d2', hn3⟩ := hcut
            clear d2
            have HCS := Lib.hid (fun w' (j : Keep [] W w') => (⟨(HC.out w' j).1, (HC.out w' j).2.1⟩ : w'.cell? ⟨b, off + k * 3, none⟩ = some (.int .u8 (c.toNat)) ∧ w'.cell? ⟨b, off + k * 3 + 1, none⟩ = some (.int .i64 D)))
            go_upto_if 74 with fail
            go_cut [10, 12] (fun ev fv wx => ∃ (er : Nat) (bs' : List Nat) (v' : Value) (s' : HS), ev = .int .i64 er ∧ fv = .int .i64 er ∧ Pl W wx q bs' r v' s' s' ∧ s'.most = M ∧ (s'.b.length ≤ 3000 * (k + 1) ∨ M ≤ 100000))
            case first =>
              by_cases hD : D = 0
              · subst hD
                have HLo := Lib.hid (fun w bs (h : Ho w q bs s) => hs_lit w q bs s c h (by omega))
                have HLx := Lib.hid (fun w (h : Rx w r v s) => refhs_lit w r v s c h (by omega))
                have hLn := s.lit_len c (by omega)
                generalize s.lit c = rr at HLo HLx hLn
                obtain ⟨er, s'⟩ := rr
                simp only at hLn
                have P0 := P.keep ((Keep.refl [] wc).drew)
                have S0 := HCS.out _ P0.k
                go_upto_region 12 with fail
                clear P
                go_region_held3 (fun w' => w'.cell? ⟨b, off + k * 3, none⟩ = some (.int .u8 (c.toNat)) ∧ w'.cell? ⟨b, off + k * 3 + 1, none⟩ = some (.int .i64 0))
                  (first | assumption | go_keep)
                  (first
                  | (go_at_call 10; (refine (HLo.out _ _ P0.o).mono ?_); (rintro e wA ⟨rfl, hs⟩); (obtain ⟨bsA, PA⟩ := P0.left hs); (have SA := HCS.out _ PA.k))
                  | (go_at_call 11; (refine (HLx.out _ PA.x).mono ?_); (rintro e wB ⟨vB, rfl, hxB, hkB, hbB⟩); (have PB := PA.right hxB hkB hbB); (have SB := HCS.out _ PB.k)))
                clear SA SB S0 P0 PA hxB hkB hbB
                go_wp2_with fail
                go_meet
                exact ⟨er, bsA, vB, s', rfl, rfl, PB, by rw [hLn.2.2.1]; exact hsm, by rcases hlen with h | h; exact .inl (by omega); exact .inr h⟩
              · have hD2 : (D == 0) = false := by rw [beq_eq_false_iff_ne]; exact hD
                have hlo : ((s.b.length : Int) + (if (s.most : Int) - s.b.length < n then 0 else max 0 n)) ≤ 140737488350000 := by
                  rcases hlen with h | h <;> rcases hn3 with h2 | h2 <;> split <;> omega
                have HLo := Lib.hid (fun w bs (h : Ho w q bs s) => hs_copy w q bs s D n h d1 d2' hlo)
                have HLx := Lib.hid (fun w (h : Rx w r v s) => refhs_copy w r v s D n h (by simp [Lit.wf, IntKind.min, IntKind.max, IntKind.bits, IntKind.signed] at d2'; omega) (by omega))
                have hLn := s.copy_len D n (by omega)
                clear hlo
                generalize s.copy D n = rr at HLo HLx hLn
                obtain ⟨er, s'⟩ := rr
                simp only at hLn
                have P0 := P.keep ((Keep.refl [] wc).drew)
                have S0 := HCS.out _ P0.k
                go_upto_region 13 with fail
                clear P
                go_region_held3 (fun w' => w'.cell? ⟨b, off + k * 3, none⟩ = some (.int .u8 (c.toNat)) ∧ w'.cell? ⟨b, off + k * 3 + 1, none⟩ = some (.int .i64 D))
                  (first | assumption | go_keep)
                  (first
                  | (go_at_call 12; (refine (HLo.out _ _ P0.o).mono ?_); (rintro e wA ⟨rfl, hs⟩); (obtain ⟨bsA, PA⟩ := P0.left hs); (have SA := HCS.out _ PA.k))
                  | (go_at_call 13; (refine (HLx.out _ PA.x).mono ?_); (rintro e wB ⟨vB, rfl, hxB, hkB, hbB⟩); (have PB := PA.right hxB hkB hbB); (have SB := HCS.out _ PB.k)))
                clear SA SB S0 P0 PA hxB hkB hbB
                go_wp2_with fail
                go_meet
                exact ⟨er, bsA, vB, s', rfl, rfl, PB, by rw [hLn.2.2.1]; exact hsm, by rcases hlen with h | h <;> rcases hn3 with h2 | h2; exact .inl (by omega); exact .inr h2; exact .inr h; exact .inr h⟩
            case rest =>
              obtain ⟨er, bs4, v4, s', rfl, rfl, P4, hsm4, hlen4⟩ := hcut
              clear P HCS c1 c2 c3 x1 hlen hn3
              have hl4 : s'.b.length ≤ M := by have := P4.o.ok.1; omega
              have hsz : s'.b.length ≤ 140737488350000 := by rcases hlen4 with h | h <;> omega
              go_wp2_with fail
              refine (hs_bytes _ q bs4 s' P4.o hsz).mono ?_; rintro e w5 ⟨vg, rfl, hvg, k5, hfg⟩
              have P5 := P4.keep k5
              have HNE : Hid (∀ g, vg.ownBlock = some g → g ∉ bs4 ∧ g ≠ r ∧ v4.ownBlock ≠ some g ∧ W.heap.size ≤ g) := fun g hg => by
                have h1 := hfg g hg
                have h2 := P4.o.lt
                have h3 := P4.x.1.lt
                have h4 := P4.x.2.1.lt
                have h5 := P4.k.size
                exact ⟨fun hm => by have := h2 g hm; omega, by omega, fun hv => by have := h4 g hv; omega, by omega⟩
              clear P4 k5 hfg
              obtain ⟨ag, lg, cg, rfl⟩ := hvg.shape
              obtain rfl : lg = s'.b.length := by obtain ⟨_, _, e, _⟩ := hvg.bs; simp only [Value.slice.injEq] at e; exact e.2.1
              obtain ⟨a4, l4, c4, rfl⟩ := P5.x.2.1.shape
              obtain rfl : l4 = s'.b.length := by obtain ⟨_, _, e, _⟩ := P5.x.2.1.bs; simp only [Value.slice.injEq] at e; exact e.2.1
              have x1 := P5.x.1.cell 1 _ rfl
              have x3 := P5.x.1.cell 3 _ rfl
              rw [hsm4] at x1
              have HSM := Lib.hid (fun (ww : World) (kk : Keep [] w5 ww) => kept_drewN (same_c ww _ _ _ _ (hvg.bs.keep kk (by simp)) (P5.x.2.1.bs.keep kk (by simp))))
              have HLN := Lib.hid (fun (ww : World) (kk : Keep [] w5 ww) => kept_drewN (hs_len ww q bs4 s' (P5.o.keep kk (by simp))))
              have HFU := Lib.hid (fun (ww : World) (kk : Keep [] w5 ww) => kept_drewN (hs_full ww q bs4 s' (P5.o.keep kk (by simp))))
              have y1 : ∀ p : Kept w5, p.x.cell? ⟨r, 1, none⟩ = some (.int .i64 M) := fun p => p.h.cell x1 (by simp)
              have y3 : ∀ p : Kept w5, p.x.cell? ⟨r, 3, none⟩ = some (.slice a4 s'.b.length c4) := fun p => p.h.cell x3 (by simp)
              clear x1 x3
              have hdd : decide (s'.b = s'.b) = true := decide_eq_true rfl
              rw [hdd] at HSM
              rw [hsm4] at HFU
              have HLL := Lib.hid hlen4
              have HL4 := Lib.hid hl4
              clear hlen4 hl4 hdd
              go_upto_region 15 with fail
              go_cut [143] (fun cv wx => cv = .bool false ∧ Keep [] w5 wx)
              case first =>
                by_cases hfm : s'.b.length = M
                · have g1 : decide (s'.b.length = M) = true := by simpa using hfm
                  have g2 : ((s'.b.length : Int) == M) = true := by rw [hfm]; exact beq_self_eq_true _
                  rw [g1] at HFU
                  clear g1 hfm
                  go_wp2_with fail
                  refine wp_region_kept (by kernel_rfl) (by kernel_rfl) ?_
                  repeat (quiet_step (first
                    | (go_at_call 15; with_reducible exact kept_of (HSM.out _ (Kept.h _)))
                    | (go_at_call 16; with_reducible exact kept_of (HLN.out _ (Kept.h _)))
                    | (go_at_call 17; with_reducible exact kept_of (HFU.out _ (Kept.h _)))))
                  refine wpQuiet_nil ?_
                  intro _ hw'
                  obtain ⟨p, hw''⟩ := hw'
                  subst hw''
                  go_wp2_with fail
                  go_meet
                  exact ⟨rfl, p.h⟩
                · have g1 : decide (s'.b.length = M) = false := by simpa using hfm
                  have g2 : ((s'.b.length : Int) == M) = false := by rw [beq_eq_false_iff_ne]; omega
                  rw [g1] at HFU
                  clear g1 hfm
                  go_wp2_with fail
                  refine wp_region_kept (by kernel_rfl) (by kernel_rfl) ?_
                  repeat (quiet_step (first
                    | (go_at_call 15; with_reducible exact kept_of (HSM.out _ (Kept.h _)))
                    | (go_at_call 16; with_reducible exact kept_of (HLN.out _ (Kept.h _)))
                    | (go_at_call 17; with_reducible exact kept_of (HFU.out _ (Kept.h _)))))
                  refine wpQuiet_nil ?_
                  intro _ hw'
                  obtain ⟨p, hw''⟩ := hw'
                  subst hw''
                  go_wp2_with fail
                  go_meet
                  exact ⟨rfl, p.h⟩
              obtain ⟨rfl, K6⟩ := hcut
              have P6 := P5.keep K6
              have hg6 := hvg.keep K6 (by simp)
              clear P5 hvg y1 y3 HSM HLN HFU K6
              go_wp2_with fail
              have HNE' := HNE.out
              have HK2 : Hid (k < x.n ∧ k < 60) := ⟨hlt, hlt2⟩
              go_loopw [16] (fun i wr => ∃ (j : Nat) (l' : List UInt8), j ≤ s'.b.length ∧ i = .int .i64 j ∧ l'.length = s'.b.length ∧ OwnB wr (.slice ag s'.b.length cg) l' ∧ Pl W wr q bs4 r (.slice a4 s'.b.length c4) s' s') (fun i _ => s'.b.length - (intOf i).toNat)
              case atStart => exact ⟨0, _, by omega, rfl, rfl, hg6, P6⟩
              case round =>
                clear P6 hg6
                obtain ⟨j, l', hj, rfl, hl', hg, P⟩ := hrel
                by_cases hltj : j < s'.b.length
                · rcases hg.cases with ⟨hv, hl0⟩ | ⟨g, cap2, hv, _, _, hcell, _⟩
                  · rw [hl0] at hl'; simp at hl'; omega
                  · simp only [Value.slice.injEq] at hv
                    obtain ⟨hv1, hv2, hv3⟩ := hv
                    clear hv2 hv3
                    subst hv1
                    obtain ⟨n1, n2, n3, n4⟩ := HNE' g rfl
                    have HJ : Hid (j < s'.b.length) := hltj
                    have e0 := hcell j (by omega)
                    have f0 := hg.free j
                    have hg2 := hg.store j (by omega) 1
                    have P2 := P.away ((Keep.refl [g] wr).setCell (.inl (by simp)) (p := ⟨g, j, none⟩) (.int .u8 1)) n1 n2 n3 n4
                    clear hcell hg P n1 n2 n3 n4
                    go_wp2_with fail
                    go_roundw
                    case rel => exact ⟨j + 1, _, HJ.out, by go_num, by simp [hl'], hg2, P2⟩
                    case measure => have := HJ.out; simp [intOf]; omega
                · obtain rfl : j = s'.b.length := by omega
                  go_wp2_with fail
                  go_roundw
                  case rel => exact ⟨k + 1, bs4, _, s', HK2.out.1, HK2.out.2, by go_num, P, hsm4, HLL.out⟩
                  case measure => have := HK2.out.2; simp [intOf]; omega
        · obtain rfl : k = 60 := by omega
          go_wp2_with fail
          refine (lives7_c _).mono ?_; rintro e w8 ⟨rfl, k8⟩
          go_wp2_with fail
          go_ret
          exact ⟨rfl, K.trans k8 (by simp)⟩
      · obtain rfl : k = x.n := by omega
        go_wp2_with fail
        refine (lives7_c _).mono ?_; rintro e w8 ⟨rfl, k8⟩
        go_wp2_with fail
        go_ret
        exact ⟨rfl, K.trans k8 (by simp)⟩
end Go.Proofs.Ytciifhhjhmlnjaa
