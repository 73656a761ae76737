/- The walk of the law LzwPlays: it returns true at every input. -/
import Derived.Test.YtpjebbhjagllgaaLzLaw1
import Derived.Test.YtpjebbhjagllgaaLzOpen
import Derived.Deep.RegionHeld3
import Derived.Test.YtpjebbhjagllgaaCls
namespace Go.Proofs.Ytpjebbhjagllgaa
set_option linter.unusedVariables false
set_option linter.unusedSimpArgs false
open Go.ChangeShapes Go.WideShapes Go.ChangeAt Go.RowKit

/-- both tables, side by side, apart from all that stood in W -/
structure Pz (W w : World) (q : Nat) (bs : List Nat) (q2 : Nat) (v2 : Value) (s s2 : LT) : Prop where
  t : LTab w q bs s
  x : RT w q2 v2 s2
  k : Keep [] W w
  fb : ∀ b ∈ bs, W.heap.size ≤ b
  fq : W.heap.size ≤ q2
  fv : ∀ b, v2.ownBlock = some b → W.heap.size ≤ b ∧ b ∉ bs
  ap : q2 ∉ bs
theorem Pz.keep {W w w' : World} {q q2 : Nat} {bs : List Nat} {v2 : Value} {s s2 : LT} (h : Pz W w q bs q2 v2 s s2) (k : Keep [] w w') : Pz W w' q bs q2 v2 s s2 :=
  ⟨h.t.keep k (by simp), h.x.keep k (by simp) (by simp), h.k.trans k (by simp), h.fb, h.fq, h.fv, h.ap⟩
/-- the program's table changed -/
theorem Pz.left {W w w' : World} {q q2 : Nat} {bs : List Nat} {v2 : Value} {s s' s2 : LT} (h : Pz W w q bs q2 v2 s s2) (hs : ∃ bs', LTab w' q bs' s' ∧ Keep bs w w' ∧ ∀ b ∈ bs', b ∈ bs ∨ w.heap.size ≤ b) : ∃ bs', Pz W w' q bs' q2 v2 s' s2 := by
  obtain ⟨bs', h1, h2, h3⟩ := hs
  refine ⟨bs', h1, h.x.keep h2 h.ap (fun _ b hb => (h.fv b hb).2), h.k.trans h2 (fun x hx => .inr (h.fb x hx)), fun b hb => ?_, h.fq, fun b hb => ⟨(h.fv b hb).1, fun hm => ?_⟩, fun hm => ?_⟩
  · rcases h3 b hb with h4 | h4
    · exact h.fb b h4
    · exact Nat.le_trans h.k.size h4
  · rcases h3 b hm with h4 | h4
    · exact (h.fv b hb).2 h4
    · have := (h.x.2.2.2.2 b hb).2; omega
  · rcases h3 q2 hm with h4 | h4
    · exact h.ap h4
    · have := h.x.1.lt; omega
/-- the document's table changed -/
theorem Pz.right {W w w' : World} {q q2 : Nat} {bs : List Nat} {v2 v' : Value} {s s2 s' : LT} (h : Pz W w q bs q2 v2 s s2) (h1 : RT w' q2 v' s') (h2 : Keep [q2] w w') (h3 : ∀ b, v'.ownBlock = some b → v2.ownBlock = some b ∨ w.heap.size ≤ b) : Pz W w' q bs q2 v' s s' := by
  refine ⟨h.t.keep h2 (fun b hb hm => h.ap (by simp at hm; rw [← hm]; exact hb)), h1, h.k.trans h2 (fun x hx => .inr (by simp at hx; rw [hx]; exact h.fq)), h.fb, h.fq, fun b hb => ?_, h.ap⟩
  rcases h3 b hb with h4 | h4
  · exact h.fv b h4
  · refine ⟨Nat.le_trans h.k.size h4, fun hm => ?_⟩
    have := h.t.lt.2 b hm
    omega
/-- both tables were asked -/
theorem Pz.ask {W w w' : World} {q q2 : Nat} {bs : List Nat} {v2 : Value} {s s2 : LT} (h : Pz W w q bs q2 v2 s s2) (h1 : LTab w' q bs s) (h2 : RT w' q2 v2 s2) (k : Keep bs w w') : Pz W w' q bs q2 v2 s s2 :=
  ⟨h1, h2, h.k.trans k (fun x hx => .inr (h.fb x hx)), h.fb, h.fq, h.fv, h.ap⟩
set_option maxRecDepth 100000 in
set_option maxHeartbeats 4000000 in
theorem lzplays_w (W : World) (v0 : Value) (x : DzL) (h0 : isDzs W v0 x) : Calls Try.prog 3 #[v0] W fun e w' => e = .returned (.bool true) ∧ Keep [] W w' := by
  obtain ⟨hn, a, cap, rfl, hcells⟩ := h0
  go_enter Try.func3, Try.ntmps3
  go_wp2_with fail
  refine (lz_new W).mono ?_; rintro e w1 ⟨q, bs, rfl, ht1, k1, hb1⟩
  go_wp2_with fail
  refine (rnew_c w1).mono ?_; rintro e w2 ⟨rfl, hx2, k2⟩
  have hsz := k1.size
  have P0 : Hid (∃ bs v2, Pz W w2 q bs w1.heap.size v2 LT.new LT.new) := ⟨bs, _, ht1.keep k2 (by simp), hx2, k1.trans k2 (by simp), hb1, hsz, fun b hb => by simp [Value.ownBlock] at hb, fun hm => by have := ht1.lt.2 _ hm; omega⟩
  generalize w1.heap.size = q2 at *
  have HCE : Hid (∀ w' i, Keep [] W w' → i < x.n → ∃ b off, a = some ⟨b, off, none⟩ ∧ w'.cell? ⟨b, off + i * 3, none⟩ = some (.int .i64 (x.K i)) ∧ w'.cell? ⟨b, off + i * 3 + 1, none⟩ = some (.int .i64 (x.P i)) ∧ w'.cell? ⟨b, off + i * 3 + 2, none⟩ = some (.int .u8 ((x.C i).toNat)) ∧ (Lit.int .i64 (x.P i)).wf = true) := fun w' i k hi => by
    obtain ⟨b, off, rfl, _, hc⟩ := hcells (by omega)
    obtain ⟨c1, c2, c3, c4, c5⟩ := hc i hi
    exact ⟨b, off, rfl, k.cellW c1, k.cellW c2, k.cellW c3, c5⟩
  clear ht1 hx2 k1 k2 hb1 hsz hcells
  go_wp2_with fail
  go_loopw [5] (fun iv wr => ∃ i : Nat, i ≤ x.n ∧ i ≤ 120 ∧ iv = .int .i64 i ∧ Hid (∃ s bs v2, Pz W wr q bs q2 v2 s s)) (fun iv _ => 120 - (intOf iv).toNat)
  case atStart => exact ⟨0, by omega, by omega, rfl, let ⟨bs, v2, h⟩ := P0.out; ⟨_, bs, v2, h⟩⟩
  case round =>
    clear P0
    obtain ⟨i, hi, hi2, rfl, ⟨s, bs, v2, P⟩⟩ := hrel
    have hend : ∀ (hx : i < x.n → ¬ i < 120), True := fun _ => trivial
    by_cases hlt : i < x.n
    · by_cases hlt2 : i < 120
      · have hiz : (i : Int) < x.n := by omega
        obtain ⟨b, off, rfl, e0, e1, e2, hwf⟩ := HCE.out wr i P.k hlt
        have hi3 : (i : Int) < 120 := by omega
        have hdi : decide ((i : Int) < 120) = true := by simpa using hi3
        obtain ⟨K, hK⟩ : ∃ K, x.K i = K := ⟨_, rfl⟩
        obtain ⟨p, hp⟩ : ∃ p, x.P i = p := ⟨_, rfl⟩
        obtain ⟨c, hc⟩ : ∃ c, x.C i = c := ⟨_, rfl⟩
        have HCW : Hid (∀ w', Keep [] W w' → w'.cell? ⟨b, off + i * 3 + 1, none⟩ = some (.int .i64 p) ∧ w'.cell? ⟨b, off + i * 3 + 2, none⟩ = some (.int .u8 (c.toNat))) := fun w' k => by
          obtain ⟨b', off', hv, d0, d1, d2, _⟩ := HCE.out w' i k hlt
          simp only [Option.some.injEq, Addr.mk.injEq, and_true] at hv
          obtain ⟨rfl, rfl⟩ := hv
          rw [← hp, ← hc]; exact ⟨d1, d2⟩
        rw [hK] at e0
        rw [hp] at e1 hwf
        rw [hc] at e2
        have HWF := Lib.hid hwf
        clear hK hp hc hwf
        go_upto_block 2 with fail
        go_cut [] (fun wx => ∃ s bs v2, Pz W wx q bs q2 v2 s s)
        case first =>
          by_cases hk0 : K = 0
          · subst hk0
            have HAL := Lib.hid (fun w bs (h : LTab w q bs s) => lz_add w q bs s p c HWF.out h)
            have HAR := Lib.hid (fun w v2 (h : RT w q2 v2 s) => radd_c w q2 v2 s p c h)
            have hak : (s.add p c).2.ok := LT.add_ok P.t.ok p c
            have hrng : (s.add p c).1 < 8192 := by
              unfold LT.add
              split
              · show (-1 : Int) < 8192; decide
              · rcases s.next_cases P.t.ok with h1 | ⟨n, h1, h2, h3, _⟩
                · dsimp only; omega
                · dsimp only; omega
            generalize s.add p c = rr at *
            obtain ⟨n, s'⟩ := rr
            simp only at HAL HAR hak hrng
            go_upto_region 9 with fail
            have P0 := P.keep ((Keep.refl [] wr).drew)
            have S0 := HCW.out _ P0.k
            clear P e0 e1 e2
            go_cut [6, 7] (fun av bv wx => av = .int .i64 n ∧ bv = .int .i64 n ∧ ∃ bs v2, Pz W wx q bs q2 v2 s' s')
            case first =>
              go_region_held3 (fun w' => w'.cell? ⟨b, off + i * 3 + 1, none⟩ = some (.int .i64 p) ∧ w'.cell? ⟨b, off + i * 3 + 2, none⟩ = some (.int .u8 (c.toNat)))
                (first | assumption | go_keep)
                (first
                | (go_at_call 10; (refine (HAL.out _ _ P0.t).mono ?_); (rintro e wA ⟨rfl, hs⟩); (obtain ⟨bsA, PA⟩ := P0.left hs); (have SA := HCW.out _ PA.k))
                | (go_at_call 11; (refine (HAR.out _ _ PA.x).mono ?_); (rintro e wB ⟨rfl, vB, hxB, hkB, hbB⟩); (have PB := PA.right hxB hkB hbB); (have SB := HCW.out _ PB.k)))
              clear SA SB S0 P0 PA hxB hkB hbB
              go_wp2_with fail
              go_meet
              exact ⟨rfl, rfl, _, _, PB⟩
            case rest =>
              clear P0 S0
              obtain ⟨rfl, rfl, bs', v', P⟩ := hcut
              have hnn : ((n : Int) != n) = false := by simp
              by_cases hneg : 0 ≤ n
              · have HAK := Lib.hid (asks_c wc q q2 bs' v' s' n c (wf_of n (by omega) (by omega)) ⟨P.t, P.x⟩ P.ap (fun b hb => (P.fv b hb).2))
                have e2 := (HCW.out _ P.k).2
                have HP := Lib.hid P
                clear P
                go_wp2_with fail
                refine HAK.out.mono ?_; rintro e wB ⟨rfl, hbB, kB⟩
                go_wp2_with fail
                go_meet
                exact ⟨_, _, _, HP.out.ask hbB.1 hbB.2 kB⟩
              · have hn2 : decide (n ≥ 0) = false := by simp; omega
                have HP := Lib.hid P
                clear P
                go_wp2_with fail
                go_meet
                exact ⟨_, _, _, HP.out⟩
          · have d0 : (K == 0) = false := by rw [beq_eq_false_iff_ne]; exact hk0
            by_cases hk1 : K = 1
            · subst hk1
              have HCL := Lib.hid (lz_clear wr q bs s P.t)
              have HCR := Lib.hid (fun w v2 (h : RT w q2 v2 s) => rclear_c w q2 v2 s h)
              go_wp2_with fail
              refine HCL.out.mono ?_; rintro e wA ⟨rfl, hs⟩
              obtain ⟨bsA, PA⟩ := P.left hs
              clear P HCL e0 e1 e2
              go_wp2_with fail
              refine (HCR.out _ _ PA.x).mono ?_; rintro e wB ⟨rfl, v', hx, hk, hb⟩
              have PB := PA.right hx hk (fun b hb' => .inr (hb b hb'))
              clear PA hx hk hb
              go_wp2_with fail
              go_meet
              exact ⟨_, _, _, PB⟩
            · have d1 : (K == 1) = false := by rw [beq_eq_false_iff_ne]; exact hk1
              go_wp2_with fail
              go_meet
              exact ⟨_, _, _, P⟩
        case rest =>
          clear P e0 e1 e2
          obtain ⟨s', bs', v', P⟩ := hcut
          have HAK := Lib.hid (fun w' (P : Pz W w' q bs' q2 v' s' s') => (asks_c w' q q2 bs' v' s' p c HWF.out ⟨P.t, P.x⟩ P.ap (fun b hb => (P.fv b hb).2)).mono fun _ w'' ⟨h1, h2, h3⟩ => (⟨h1, P.ask h2.1 h2.2 h3⟩ : _ ∧ Pz W w'' q bs' q2 v' s' s'))
          haveI : Inhabited (Cls fun x => Pz W x q bs' q2 v' s' s') := ⟨⟨wc, P⟩⟩
          have HCH : Hid (∀ p : Cls (fun x => Pz W x q bs' q2 v' s' s'), Pz W p.x q bs' q2 v' s' s') := fun p => p.h
          have g1 : ∀ pp : Cls (fun x => Pz W x q bs' q2 v' s' s'), pp.x.cell? ⟨b, off + i * 3 + 1, none⟩ = some (.int .i64 p) := fun pp => (HCW.out pp.x pp.h.k).1
          have g2 : ∀ pp : Cls (fun x => Pz W x q bs' q2 v' s' s'), pp.x.cell? ⟨b, off + i * 3 + 2, none⟩ = some (.int .u8 (c.toNat)) := fun pp => (HCW.out pp.x pp.h.k).2
          have HPD : Hid (Pz W wc.drew q bs' q2 v' s' s') := P.keep ((Keep.refl [] wc).drew)
          clear P
          go_wp2_with fail
          refine wp_region_cls (fun x => Pz W x q bs' q2 v' s' s') HPD.out (by kernel_rfl) (by kernel_rfl) ?_
          repeat (quiet_step (first | (go_at_call 12; with_reducible exact cls_of (HAK.out _ (HCH.out _)))))
          refine wpQuiet_nil ?_
          intro _ hw'
          obtain ⟨pp, hw''⟩ := hw'
          subst hw''
          clear g1 g2
          have PE := HCH.out pp
          have HPE := Lib.hid PE
          clear PE
          go_wp2_with fail
          go_roundw
          case rel => exact ⟨i + 1, by omega, by omega, by go_num, s', bs', v', HPE.out⟩
          case measure => simp [intOf]; omega
      · have HP := Lib.hid P
        clear P
        go_wp2_with fail
        refine (lives10_c _).mono ?_; rintro e w8 ⟨rfl, k8⟩
        go_wp2_with fail
        go_ret
        exact ⟨rfl, HP.out.k.trans k8 (by simp)⟩
    · have HP := Lib.hid P
      clear P
      go_wp2_with fail
      refine (lives10_c _).mono ?_; rintro e w8 ⟨rfl, k8⟩
      go_wp2_with fail
      go_ret
      exact ⟨rfl, HP.out.k.trans k8 (by simp)⟩
end Go.Proofs.Ytpjebbhjagllgaa
