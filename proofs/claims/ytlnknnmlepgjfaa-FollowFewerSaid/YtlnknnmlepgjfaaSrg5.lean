/- Contract of the library's symMergeCmpFunc at rows of elements of two cells: [a, m) and [m, b), each sorted, become one sorted row. -/
import Derived.Test.YtlnknnmlepgjfaaSrg4
namespace Go.Proofs.Ytlnknnmlepgjfaa.Sg
set_option linter.unusedVariables false
set_option linter.unusedSimpArgs false
open Go.ChangeShapes Go.WideShapes Go.ChangeAt Go.RowKit

/-- the state of a sort, in whose row the order says what key says more than kc -/
def STg (kc key : SEl → Int) (w0 : World) (g n cap : Nat) (z0 : List SEl) (w : World) (zs : List SEl) : Prop := SSg w0 g n cap z0 w zs ∧ Sta kc key zs n
set_option maxRecDepth 1000000 in
set_option maxHeartbeats 8000000 in
theorem symmerge_gen {w0 : World} {g n cap : Nat} {z0 : List SEl} (fc : Nat) (cb : Array Value) (Pd : SEl → Prop) (kc key : SEl → Int) (hkc : ∀ x y, kc x < kc y → key x < key y) (hC : CmpG fc cb Pd kc w0 g) (hP : ∀ z ∈ z0, Pd z) (hn : n < 4611686018427387904)
    (w : World) (zs : List SEl) (a m b : Nat) (ham : a + 1 < m) (hmb : m + 1 < b) (hb : b ≤ n) (S : STg kc key w0 g n cap z0 w zs) (hA : Srt key zs a m) (hB : Srt key zs m b)
    (ih : ∀ (w : World) (zs : List SEl) (a' m' b' : Nat), b' - a' < b - a → a' < m' → m' < b' → b' ≤ n → STg kc key w0 g n cap z0 w zs → Srt key zs a' m' → Srt key zs m' b' →
      Calls Try.prog 42 #[.slice (some ⟨g, 0, none⟩) n cap, .int .i64 a', .int .i64 m', .int .i64 b', .func (.func fc) #[] cb] w fun e w' => e = .returned (.tuple #[]) ∧ ∃ zs', STg kc key w0 g n cap z0 w' zs' ∧ Mg key zs zs' a' b') :
    Calls Try.prog 42 #[.slice (some ⟨g, 0, none⟩) n cap, .int .i64 a, .int .i64 m, .int .i64 b, .func (.func fc) #[] cb] w fun e w' => e = .returned (.tuple #[]) ∧ ∃ zs', STg kc key w0 g n cap z0 w' zs' ∧ Mg key zs zs' a b := by
  have eg := hC.1
  have HC := Lib.hid hC.2
  have HP := Lib.hid hP
  have HK := Lib.hid hkc
  have S0 := Lib.hid S
  have HA := Lib.hid hA
  have HB := Lib.hid hB
  have IH := Lib.hid ih
  have HR := Lib.hid (fun (w : World) zs a' m' b' h1 h2 h3 S => rotate_c (w0 := w0) (g := g) (n := n) (cap := cap) (z0 := z0) (.func (.func fc) #[] cb) w zs a' m' b' h1 h2 h3 hn S)
  obtain ⟨mid, hmid⟩ : ∃ x, x = (a + b) / 2 := ⟨_, rfl⟩
  obtain ⟨N, hN⟩ : ∃ x, x = mid + m := ⟨_, rfl⟩
  have r0 : IntKind.i64.wrap ((m : Int) - (a : Int)) = (m : Int) - (a : Int) := by rw [IntKind.wrap_i64]; omega
  have r00 : ((m : Int) - (a : Int) == 1) = false := by rw [beq_eq_false_iff_ne]; omega
  have r1 : IntKind.i64.wrap ((b : Int) - (m : Int)) = (b : Int) - (m : Int) := by rw [IntKind.wrap_i64]; omega
  have r11 : ((b : Int) - (m : Int) == 1) = false := by rw [beq_eq_false_iff_ne]; omega
  have r2 : ((a : Int) + (b : Int)) / 2 = (mid : Int) := by omega
  have s1 : (0 : Int) ≤ (a : Int) + (b : Int) := by omega
  have s2 : (a : Int) + (b : Int) < 9223372036854775808 := by omega
  have s3 : a < m := by omega
  have s4 : m < b := by omega
  have r3 : IntKind.i64.wrap ((mid : Int) + (m : Int)) = (N : Int) := by rw [IntKind.wrap_i64]; omega
  have d1 : 2 * mid ≤ a + b := by omega
  have d2 : a + b ≤ 2 * mid + 1 := by omega
  have d3 : N ≤ mid + m := by omega
  have d4 : mid + m ≤ N := by omega
  clear S hC hP hA hB ih hmid hN hkc
  go_enter Try.func42, Try.ntmps42
  go_upto_if 140 with fail
  clear r0 r00 r1 r11 r2 r3 s1 s2
  go_cut [20, 21] (fun s r wx => ∃ lo hi : Nat, s = .int .i64 lo ∧ r = .int .i64 hi ∧ a ≤ lo ∧ N ≤ b + lo ∧ lo ≤ hi ∧ hi ≤ mid ∧ hi ≤ m ∧ (lo = a ∨ N = b + lo) ∧ (hi = m ∨ N = m + hi) ∧ Hid (STg kc key w0 g n cap z0 wx zs))
  case first =>
    as_aux_lemma =>
    by_cases hgt : mid < m
    · have hgt1 : (m : Int) > (mid : Int) := by omega
      obtain ⟨lo, hlo⟩ : ∃ x, x = N - b := ⟨_, rfl⟩
      have r4 : IntKind.i64.wrap ((N : Int) - (b : Int)) = (lo : Int) := by rw [IntKind.wrap_i64]; omega
      have q1 : a ≤ lo := by omega
      have q2 : N ≤ b + lo := by omega
      have q3 : lo ≤ mid := by omega
      have q4 : lo = a ∨ N = b + lo := by omega
      have q5 : mid = m ∨ N = m + mid := by omega
      have Q4 := Lib.hid q4
      have Q5 := Lib.hid q5
      clear hlo q4 q5 HA HB IH HR HC HP
      go_wp2_with fail
      go_meet
      exact ⟨lo, mid, rfl, rfl, q1, q2, q3, by omega, by omega, Q4, Q5, S0⟩
    · have hgt1 : ¬ (m : Int) > (mid : Int) := by omega
      go_wp2_with fail
      go_meet
      exact ⟨a, m, rfl, rfl, by omega, by omega, by omega, by omega, by omega, by omega, by omega, S0⟩
  case rest =>
    as_aux_lemma =>
    clear S0
    obtain ⟨lo, hi, rfl, rfl, q1, q2, q3, q4, q5, q6, q7, S0⟩ := hcut
    have Q6 := Lib.hid q6
    have Q7 := Lib.hid q7
    clear q6 q7
    obtain ⟨p, hp⟩ : ∃ x, x = N - 1 := ⟨_, rfl⟩
    have t1 : IntKind.i64.wrap ((N : Int) - 1) = (p : Int) := by rw [IntKind.wrap_i64]; omega
    have t2 : N ≤ p + 1 := by omega
    have t3 : p + 1 ≤ N := by omega
    clear hp
    go_wp2_with fail
    clear t1
    go_loopw [20, 21] (fun x y wr => ∃ (s r : Nat), lo ≤ s ∧ s ≤ r ∧ r ≤ hi ∧ x = .int .i64 s ∧ y = .int .i64 r ∧ Hid (STg kc key w0 g n cap z0 wr zs) ∧ Hid (s = lo ∨ key (gn zs (s - 1)) ≤ key (gn zs (N - s))) ∧ Hid (r = hi ∨ key (gn zs (N - r - 1)) < key (gn zs r))) (fun x y _ => (intOf y).toNat - (intOf x).toNat)
    case atStart => exact ⟨lo, hi, by omega, by omega, by omega, rfl, rfl, S0.out, .inl rfl, .inl rfl⟩
    case round =>
      clear S0
      obtain ⟨s, r, u1, u2, u3, rfl, rfl, S0, HL, HG⟩ := hrel
      by_cases hlt : s < r
      · have hltz : (s : Int) < (r : Int) := by omega
        obtain ⟨c, hc⟩ : ∃ x, x = (s + r) / 2 := ⟨_, rfl⟩
        obtain ⟨f, hf⟩ : ∃ x, x = p - c := ⟨_, rfl⟩
        have hc1 : s ≤ c := by omega
        have hc2 : c < r := by omega
        have hc3 : ((s : Int) + (r : Int)) / 2 = (c : Int) := by omega
        have hc4 : (c : Int) < (n : Int) := by omega
        have hf1 : IntKind.i64.wrap ((p : Int) - (c : Int)) = (f : Int) := by rw [IntKind.wrap_i64]; omega
        have hf2 : (f : Int) < (n : Int) := by omega
        have c1 := fun (k : Kept wr) => (S0.out.1.to k.h).c0 f (by omega)
        have c1b := fun (k : Kept wr) => (S0.out.1.to k.h).c1 f (by omega)
        have c2 := fun (k : Kept wr) => (S0.out.1.to k.h).c0 c (by omega)
        have c2b := fun (k : Kept wr) => (S0.out.1.to k.h).c1 c (by omega)
        have hcm := fun (k : Kept wr) => HC.out k.x (S0.out.1.keep.trans k.h (by simp)) _ _ (S0.out.1.pd HP.out f (by omega)) (S0.out.1.pd HP.out c (by omega))
        have hks : key (gn zs f) < key (gn zs c) ↔ kc (gn zs f) < kc (gn zs c) := ⟨fun h => S0.out.2 _ _ (by omega) (by omega) h, fun h => HK.out _ _ h⟩
        have HW : Hid (∀ w', Keep [] wr w' → STg kc key w0 g n cap z0 w' zs) := fun w' k => ⟨S0.out.1.to k, S0.out.2⟩
        have e1 : N - (c + 1) = f := by omega
        have e2 : N - c - 1 = f := by omega
        clear hc hf
        by_cases hlv : ¬ key (gn zs f) < key (gn zs c)
        · have hd := cmpK_ge _ _ (fun h => hlv (hks.2 h))
          have HL2 : Hid (c + 1 = lo ∨ key (gn zs (c + 1 - 1)) ≤ key (gn zs (N - (c + 1)))) := by
            right; rw [e1, show c + 1 - 1 = c by omega]; omega
          generalize cmpK (kc (gn zs f)) (kc (gn zs c)) = cc at hcm hd
          simp only [eA, eB] at c1 c1b c2 c2b hcm
          have HCM := Lib.hid hcm
          clear hcm hks hlv e1 e2 HL
          go_wp2_with fail
          refine wp_region_kept (by kernel_rfl) (by kernel_rfl) ?_
          repeat (quiet_step (first | (go_at_fn fc; with_reducible exact kept_of (HCM.out _))))
          refine wpQuiet_nil ?_
          intro _ hw'
          obtain ⟨pp, hw''⟩ := hw'
          subst hw''
          have S1 := Lib.hid (HW.out pp.x pp.h)
          clear HCM c1 c1b c2 c2b HW S0
          generalize pp.x = w2 at *
          go_wp2_with fail
          go_roundw
          case rel => exact ⟨c + 1, r, by omega, by omega, by omega, by go_num, rfl, S1, HL2, HG⟩
          case measure => simp [intOf]; omega
        · have hlv2 := Decidable.not_not.1 hlv
          have hd := cmpK_lt _ _ (hks.1 hlv2)
          have HG2 : Hid (c = hi ∨ key (gn zs (N - c - 1)) < key (gn zs c)) := by
            right; rw [e2]; exact hlv2
          generalize cmpK (kc (gn zs f)) (kc (gn zs c)) = cc at hcm hd
          simp only [eA, eB] at c1 c1b c2 c2b hcm
          have HCM := Lib.hid hcm
          clear hcm hks hlv hlv2 e1 e2 HG
          go_wp2_with fail
          refine wp_region_kept (by kernel_rfl) (by kernel_rfl) ?_
          repeat (quiet_step (first | (go_at_fn fc; with_reducible exact kept_of (HCM.out _))))
          refine wpQuiet_nil ?_
          intro _ hw'
          obtain ⟨pp, hw''⟩ := hw'
          subst hw''
          have S1 := Lib.hid (HW.out pp.x pp.h)
          clear HCM c1 c1b c2 c2b HW S0
          generalize pp.x = w2 at *
          go_wp2_with fail
          go_roundw
          case rel => exact ⟨s, c, by omega, by omega, by omega, rfl, rfl, S1, HL, HG2⟩
          case measure => simp [intOf]; omega
      · obtain rfl : s = r := by omega
        obtain ⟨e, he⟩ : ∃ x, x = N - s := ⟨_, rfl⟩
        have w1 : IntKind.i64.wrap ((N : Int) - (s : Int)) = (e : Int) := by rw [IntKind.wrap_i64]; omega
        have v1 : a ≤ s := by omega
        have v2 : s ≤ mid := by omega
        have v3 : s ≤ m := by omega
        have v4 : m ≤ e := by omega
        have v5 : e ≤ b := by omega
        have v6 : mid ≤ e := by omega
        have v7 : e + s ≤ mid + m := by omega
        have v8 : mid + m ≤ e + s := by omega
        have H1 : Hid (s = a ∨ e = b ∨ key (gn zs (s - 1)) ≤ key (gn zs e)) := by
          rcases HL.out with h | h
          · rcases Q6.out with h2 | h2
            · left; omega
            · right; left; omega
          · right; right; rw [he]; exact h
        have H2 : Hid (s = m ∨ e = m ∨ key (gn zs (e - 1)) < key (gn zs s)) := by
          rcases HG.out with h | h
          · rcases Q7.out with h2 | h2
            · left; omega
            · right; left; omega
          · right; right; rw [he]; exact h
        have HRF := Lib.hid (fun z1 (h : ∀ p, gn z1 p = rtR (gn zs) s m e p) => rot_facts (key := key) v3 v4 v1 v5 v2 (by omega) HA.out HB.out H1.out H2.out h)
        have HTR := Lib.hid (fun z1 (hT : Sta kc key zs n) (h : ∀ p, gn z1 p = rtR (gn zs) s m e p) => hT.rot v1 v5 hb v3 v4 HA.out HB.out H2.out h)
        have HMB := Lib.hid (fun z1 z2 z3 (h : ∀ p, gn z1 p = rtR (gn zs) s m e p) hLR h2 h3 => mg_both (key := key) (z2 := z2) (z3 := z3) v3 v4 v1 v5 v2 v6 (by omega) h hLR h2 h3)
        clear HL HG Q6 Q7 H1 H2 hlt he HA HB HC HP
        have x1 : a < mid := by omega
        have x2 : mid < b := by omega
        clear q1 q2 q3 q4 q5 u1 u2 u3 t2 t3 d1 d2 d3 d4
        go_upto_region 39 with fail
        clear w1
        go_cut [185] (fun c wx => ∃ bb : Bool, c = .bool bb ∧ Hid (bb = true ↔ s < m ∧ m < e) ∧ Hid (STg kc key w0 g n cap z0 wx zs))
        case first =>
          as_aux_lemma =>
          by_cases h1 : s < m
          · have h1z : (s : Int) < (m : Int) := by omega
            by_cases h2 : m < e
            · have h2z : (m : Int) < (e : Int) := by omega
              go_wp2_with fail
              go_meet
              exact ⟨true, rfl, (show _ ↔ _ from by simp [h1, h2]), S0⟩
            · have h2z : ¬ (m : Int) < (e : Int) := by omega
              go_wp2_with fail
              go_meet
              exact ⟨false, rfl, (show _ ↔ _ from by simp; omega), S0⟩
          · have h1z : ¬ (s : Int) < (m : Int) := by omega
            go_wp2_with fail
            go_meet
            exact ⟨false, rfl, (show _ ↔ _ from by simp; omega), S0⟩
        case rest =>
          as_aux_lemma =>
          clear S0
          obtain ⟨bb, rfl, HBB, S0⟩ := hcut
          go_upto_if 185 with fail
          go_cut [24] (fun ev wx => ∃ z1, ev = .int .i64 e ∧ Hid (STg kc key w0 g n cap z0 wx z1) ∧ Hid (∀ p, gn z1 p = rtR (gn zs) s m e p))
          case first =>
            as_aux_lemma =>
            cases bb with
            | true =>
              obtain ⟨h1, h2⟩ := HBB.out.1 rfl
              have HRR := Lib.hid (HR.out _ zs s m e h1 h2 (by omega) S0.out.1)
              have ST0 : Hid (Sta kc key zs n) := S0.out.2
              clear h1 h2
              go_wp2_with fail
              refine HRR.out.mono ?_; rintro er w2 ⟨rfl, z2, S2, E2⟩
              go_wp2_with fail
              go_meet
              exact ⟨z2, rfl, ⟨S2, HTR.out z2 ST0.out E2⟩, E2⟩
            | false =>
              have hb : s = m ∨ m = e := by
                have := HBB.out
                simp at this
                omega
              have HZ : Hid (∀ p, gn zs p = rtR (gn zs) s m e p) := fun p => rtR_none _ _ _ _ p v3 v4 hb
              clear hb
              go_wp2_with fail
              go_meet
              exact ⟨zs, rfl, S0, HZ⟩
          case rest =>
            as_aux_lemma =>
            clear S0 HR HBB HTR
            obtain ⟨z1, rfl, S1, E1⟩ := hcut
            obtain ⟨k1, k2, k3, k4, k5⟩ := HRF.out z1 E1.out
            have K1 := Lib.hid k1
            have K2 := Lib.hid k2
            have K3 := Lib.hid k3
            have K4 := Lib.hid k4
            have K5 := Lib.hid k5
            clear k1 k2 k3 k4 k5 HRF
            go_upto_region 41 with fail
            go_cut [199] (fun c wx => ∃ bb : Bool, c = .bool bb ∧ Hid (bb = true ↔ a < s ∧ s < mid) ∧ Hid (STg kc key w0 g n cap z0 wx z1))
            case first =>
              as_aux_lemma =>
              by_cases h1 : a < s
              · have h1z : (a : Int) < (s : Int) := by omega
                by_cases h2 : s < mid
                · have h2z : (s : Int) < (mid : Int) := by omega
                  go_wp2_with fail
                  go_meet
                  exact ⟨true, rfl, (show _ ↔ _ from by simp [h1, h2]), S1⟩
                · have h2z : ¬ (s : Int) < (mid : Int) := by omega
                  go_wp2_with fail
                  go_meet
                  exact ⟨false, rfl, (show _ ↔ _ from by simp; omega), S1⟩
              · have h1z : ¬ (a : Int) < (s : Int) := by omega
                go_wp2_with fail
                go_meet
                exact ⟨false, rfl, (show _ ↔ _ from by simp; omega), S1⟩
            case rest =>
              as_aux_lemma =>
              clear S1
              obtain ⟨bb, rfl, HBB, S1⟩ := hcut
              go_upto_if 199 with fail
              go_cut [24] (fun ev wx => ∃ z2, ev = .int .i64 e ∧ Hid (STg kc key w0 g n cap z0 wx z2) ∧ Hid (Mg key z1 z2 a mid))
              case first =>
                as_aux_lemma =>
                cases bb with
                | true =>
                  obtain ⟨h1, h2⟩ := HBB.out.1 rfl
                  have HRR := Lib.hid (IH.out _ z1 a s mid (by omega) h1 h2 (by omega) S1.out K1.out K2.out)
                  clear h1 h2
                  go_wp2_with fail
                  refine HRR.out.mono ?_; rintro er w2 ⟨rfl, z2, S2, E2⟩
                  go_wp2_with fail
                  go_meet
                  exact ⟨z2, rfl, S2, E2⟩
                | false =>
                  have hb : s = a ∨ s = mid := by
                    have := HBB.out
                    simp at this
                    omega
                  have HZ : Hid (Mg key z1 z1 a mid) := Mg.same (by
                    rcases hb with h | h
                    · subst h; exact K2.out
                    · subst h; exact K1.out)
                  clear hb
                  go_wp2_with fail
                  go_meet
                  exact ⟨z1, rfl, S1, HZ⟩
              case rest =>
                as_aux_lemma =>
                clear S1 HBB
                obtain ⟨z2, rfl, S2, E2⟩ := hcut
                have L3 : Hid (Srt key z2 mid e) := fun p q h1 h2 h3 => by rw [E2.out.out p (.inr h1), E2.out.out q (.inr (by omega))]; exact K3.out p q h1 h2 h3
                have L4 : Hid (Srt key z2 e b) := fun p q h1 h2 h3 => by rw [E2.out.out p (.inr (by omega)), E2.out.out q (.inr (by omega))]; exact K4.out p q h1 h2 h3
                clear K1 K2 K3 K4
                go_upto_region 43 with fail
                go_cut [213] (fun c wx => ∃ bb : Bool, c = .bool bb ∧ Hid (bb = true ↔ mid < e ∧ e < b) ∧ Hid (STg kc key w0 g n cap z0 wx z2))
                case first =>
                  as_aux_lemma =>
                  by_cases h1 : mid < e
                  · have h1z : (mid : Int) < (e : Int) := by omega
                    by_cases h2 : e < b
                    · have h2z : (e : Int) < (b : Int) := by omega
                      go_wp2_with fail
                      go_meet
                      exact ⟨true, rfl, (show _ ↔ _ from by simp [h1, h2]), S2⟩
                    · have h2z : ¬ (e : Int) < (b : Int) := by omega
                      go_wp2_with fail
                      go_meet
                      exact ⟨false, rfl, (show _ ↔ _ from by simp; omega), S2⟩
                  · have h1z : ¬ (mid : Int) < (e : Int) := by omega
                    go_wp2_with fail
                    go_meet
                    exact ⟨false, rfl, (show _ ↔ _ from by simp; omega), S2⟩
                case rest =>
                  as_aux_lemma =>
                  clear S2
                  obtain ⟨bb, rfl, HBB, S2⟩ := hcut
                  go_upto_if 213 with fail
                  cases bb with
                  | true =>
                    obtain ⟨h1, h2⟩ := HBB.out.1 rfl
                    have HRR := Lib.hid (IH.out _ z2 mid e b (by omega) h1 h2 hb S2.out L3.out L4.out)
                    clear h1 h2 IH
                    go_wp2_with fail
                    refine HRR.out.mono ?_; rintro er w2 ⟨rfl, z3, S3, E3⟩
                    go_wp2_with fail
                    go_end0
                    exact ⟨rfl, z3, S3, HMB.out z1 z2 z3 E1.out K5.out E2.out E3⟩
                  | false =>
                    have hb2 : mid = e ∨ e = b := by
                      have := HBB.out
                      simp at this
                      omega
                    have HZ : Hid (Mg key z2 z2 mid b) := Mg.same (by
                      rcases hb2 with h | h
                      · rw [h]; exact L4.out
                      · rw [← h]; exact L3.out)
                    clear hb2 IH
                    go_wp2_with fail
                    go_end0
                    exact ⟨rfl, z2, S2.out, HMB.out z1 z2 z2 E1.out K5.out E2.out HZ.out⟩
theorem symmerge_c {w0 : World} {g n cap : Nat} {z0 : List SEl} (fc : Nat) (cb : Array Value) (Pd : SEl → Prop) (kc key : SEl → Int) (hkc : ∀ x y, kc x < kc y → key x < key y) (hC : CmpG fc cb Pd kc w0 g) (hP : ∀ z ∈ z0, Pd z) (hn : n < 4611686018427387904) :
    ∀ (d : Nat) (w : World) (zs : List SEl) (a m b : Nat), b - a ≤ d → a < m → m < b → b ≤ n → STg kc key w0 g n cap z0 w zs → Srt key zs a m → Srt key zs m b →
    Calls Try.prog 42 #[.slice (some ⟨g, 0, none⟩) n cap, .int .i64 a, .int .i64 m, .int .i64 b, .func (.func fc) #[] cb] w fun e w' => e = .returned (.tuple #[]) ∧ ∃ zs', STg kc key w0 g n cap z0 w' zs' ∧ Mg key zs zs' a b := by
  intro d
  induction d with
  | zero => intro w zs a m b h1 h2 h3; omega
  | succ d ih =>
    intro w zs a m b hd ham hmb hb S hA hB
    by_cases h1 : m = a + 1
    · subst h1
      exact (symmerge_one fc cb Pd kc key hkc hC hP hn w zs a b hmb hb S.1 S.2 hB).mono fun e w' ⟨h1, z, h2, h3, h4⟩ => ⟨h1, z, ⟨h2, h3⟩, h4⟩
    · by_cases h2 : b = m + 1
      · subst h2
        exact (symmerge_last fc cb Pd kc key hkc hC hP hn w zs a m (by omega) hb S.1 S.2 hA).mono fun e w' ⟨h1, z, h2, h3, h4⟩ => ⟨h1, z, ⟨h2, h3⟩, h4⟩
      · exact symmerge_gen fc cb Pd kc key hkc hC hP hn w zs a m b (by omega) (by omega) hb S hA hB (fun w zs a' m' b' hlt h3 h4 h5 S' hA' hB' => ih w zs a' m' b' (by omega) h3 h4 h5 S' hA' hB')
end Go.Proofs.Ytlnknnmlepgjfaa.Sg
