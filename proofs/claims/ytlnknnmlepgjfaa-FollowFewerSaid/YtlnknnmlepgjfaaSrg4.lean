/- Contract of the library's symMergeCmpFunc at rows of elements of two cells: where one of the two rows has one number. -/
import Derived.Test.YtlnknnmlepgjfaaSrg3
namespace Go.Proofs.Ytlnknnmlepgjfaa.Sg
set_option linter.unusedVariables false
set_option linter.unusedSimpArgs false
open Go.ChangeShapes Go.WideShapes Go.ChangeAt Go.RowKit

set_option maxRecDepth 100000 in
set_option maxHeartbeats 8000000 in
theorem symmerge_one {w0 : World} {g n cap : Nat} {z0 : List SEl} (fc : Nat) (cb : Array Value) (Pd : SEl → Prop) (kc key : SEl → Int) (hkc : ∀ x y, kc x < kc y → key x < key y) (hC : CmpG fc cb Pd kc w0 g) (hP : ∀ z ∈ z0, Pd z) (hn : n < 4611686018427387904)
    (w : World) (zs : List SEl) (a b : Nat) (hab : a + 1 < b) (hb : b ≤ n) (S : SSg w0 g n cap z0 w zs) (T : Sta kc key zs n) (hs : Srt key zs (a + 1) b) :
    Calls Try.prog 42 #[.slice (some ⟨g, 0, none⟩) n cap, .int .i64 a, .int .i64 ((a + 1 : Nat) : Int), .int .i64 b, .func (.func fc) #[] cb] w fun e w' => e = .returned (.tuple #[]) ∧ ∃ zs', SSg w0 g n cap z0 w' zs' ∧ Sta kc key zs' n ∧ Mg key zs zs' a b := by
  have eg := hC.1
  have HC := Lib.hid hC.2
  have HP := Lib.hid hP
  have S0 := Lib.hid S
  have T0 := Lib.hid T
  have HK := Lib.hid hkc
  have HSR := Lib.hid hs
  obtain ⟨m, hm⟩ : ∃ m, m = a + 1 := ⟨_, rfl⟩
  have r0 : IntKind.i64.wrap ((m : Int) - (a : Int)) = 1 := by rw [IntKind.wrap_i64]; omega
  have hma : a < m := by omega
  have hma2 : m ≤ a + 1 := by omega
  rw [← hm] at HSR ⊢
  clear S hC hP hs hm T hkc
  go_enter Try.func42, Try.ntmps42
  go_wp2_with fail
  go_loopw [10, 11] (fun x y wr => ∃ (i j : Nat), m ≤ i ∧ i ≤ j ∧ j ≤ b ∧ x = .int .i64 i ∧ y = .int .i64 j ∧ Hid (SSg w0 g n cap z0 wr zs) ∧ Hid (∀ p, m ≤ p → p < i → key (gn zs p) < key (gn zs a)) ∧ Hid (∀ p, j ≤ p → p < b → key (gn zs a) ≤ key (gn zs p))) (fun x y _ => (intOf y).toNat - (intOf x).toNat)
  case atStart => exact ⟨m, b, by omega, by omega, by omega, rfl, rfl, S0.out, fun p h1 h2 => by omega, fun p h1 h2 => by omega⟩
  case round =>
    clear S0
    obtain ⟨i, j, hmi, hij, hjb, rfl, rfl, S0, HL, HG⟩ := hrel
    by_cases hlt : i < j
    · have hltz : (i : Int) < (j : Int) := by omega
      obtain ⟨h, hh⟩ : ∃ h, h = (i + j) / 2 := ⟨_, rfl⟩
      have hh1 : i ≤ h := by omega
      have hh2 : h < j := by omega
      have hh3 : ((i : Int) + (j : Int)) / 2 = (h : Int) := by omega
      have hhn : (h : Int) < (n : Int) := by omega
      have han : (a : Int) < (n : Int) := by omega
      have c1 := fun (k : Kept wr) => (S0.out.to k.h).c0 h (by omega)
      have c1b := fun (k : Kept wr) => (S0.out.to k.h).c1 h (by omega)
      have c2 := fun (k : Kept wr) => (S0.out.to k.h).c0 a (by omega)
      have c2b := fun (k : Kept wr) => (S0.out.to k.h).c1 a (by omega)
      have hcm := fun (k : Kept wr) => HC.out k.x (S0.out.keep.trans k.h (by simp)) _ _ (S0.out.pd HP.out h (by omega)) (S0.out.pd HP.out a (by omega))
      have hks : key (gn zs h) < key (gn zs a) ↔ kc (gn zs h) < kc (gn zs a) := ⟨fun h => T0.out _ _ (by omega) (by omega) h, fun h => HK.out _ _ h⟩
      have HW : Hid (∀ w', Keep [] wr w' → SSg w0 g n cap z0 w' zs) := fun w' k => S0.out.to k
      clear hh
      by_cases hlv : key (gn zs h) < key (gn zs a)
      · have hd := cmpK_lt _ _ (hks.1 hlv)
        have HL2 : Hid (∀ p, m ≤ p → p < h + 1 → key (gn zs p) < key (gn zs a)) := fun p h1 h2 => by
          have := HSR.out p h h1 (by omega) (by omega); omega
        generalize cmpK (kc (gn zs h)) (kc (gn zs a)) = cc at hcm hd
        simp only [eA, eB] at c1 c1b c2 c2b hcm
        have HCM := Lib.hid hcm
        clear hcm HL hlv hks
        go_wp2_with fail
        refine wp_region_kept (by kernel_rfl) (by kernel_rfl) ?_
        repeat (quiet_step (first | (go_at_fn fc; with_reducible exact kept_of (HCM.out _))))
        refine wpQuiet_nil ?_
        intro _ hw'
        obtain ⟨p, hw''⟩ := hw'
        subst hw''
        have S1 := Lib.hid (HW.out p.x p.h)
        clear HCM c1 c1b c2 c2b HW S0
        generalize p.x = w2 at *
        go_wp2_with fail
        go_roundw
        case rel => exact ⟨h + 1, j, by omega, by omega, by omega, by go_num, rfl, S1, HL2, HG⟩
        case measure => simp [intOf]; omega
      · have hd := cmpK_ge _ _ (fun h => hlv (hks.2 h))
        have HG2 : Hid (∀ p, h ≤ p → p < b → key (gn zs a) ≤ key (gn zs p)) := fun p h1 h2 => by
          have := HSR.out h p (by omega) h1 h2; omega
        generalize cmpK (kc (gn zs h)) (kc (gn zs a)) = cc at hcm hd
        simp only [eA, eB] at c1 c1b c2 c2b hcm
        have HCM := Lib.hid hcm
        clear hcm HG hlv hks
        go_wp2_with fail
        refine wp_region_kept (by kernel_rfl) (by kernel_rfl) ?_
        repeat (quiet_step (first | (go_at_fn fc; with_reducible exact kept_of (HCM.out _))))
        refine wpQuiet_nil ?_
        intro _ hw'
        obtain ⟨p, hw''⟩ := hw'
        subst hw''
        have S1 := Lib.hid (HW.out p.x p.h)
        clear HCM c1 c1b c2 c2b HW S0
        generalize p.x = w2 at *
        go_wp2_with fail
        go_roundw
        case rel => exact ⟨i, h, by omega, by omega, by omega, rfl, rfl, S1, HL, HG2⟩
        case measure => simp [intOf]; omega
    · obtain rfl : i = j := by omega
      obtain ⟨t, ht⟩ : ∃ t, t = i - 1 := ⟨_, rfl⟩
      have rt : IntKind.i64.wrap ((i : Int) - 1) = (t : Int) := by rw [IntKind.wrap_i64]; omega
      have hat : a ≤ t := by omega
      have htb : t < b := by omega
      have HMG : Hid (∀ z2, (∀ p, gn z2 p = shL (gn zs) a t p) → Mg key zs z2 a b) := fun z2 h => shL_mg (i := i) (by omega) (by omega) (by rw [show a + 1 = m by omega]; exact HSR.out) (by rw [show a + 1 = m by omega]; exact HL.out) HG.out (by rw [← ht]; exact h)
      have HTG : Hid (∀ z2, (∀ p, gn z2 p = shL (gn zs) a t p) → Sta kc key z2 n) := fun z2 h => T0.out.shL (a := a) (i := i) (b := b) (by omega) (by omega) hb (by rw [show a + 1 = m by omega]; exact HL.out) (by rw [← ht]; exact h)
      clear HL HG ht
      go_wp2_with fail
      go_loopw [13] (fun x wr => ∃ (k : Nat) (zk : List SEl), a ≤ k ∧ k ≤ t ∧ x = .int .i64 k ∧ Hid (SSg w0 g n cap z0 wr zk) ∧ Hid (∀ p, gn zk p = shL (gn zs) a k p)) (fun x _ => t - (intOf x).toNat)
      case atStart => exact ⟨a, zs, by omega, by omega, rfl, S0.out, shL_zero _ a⟩
      case round =>
        clear S0
        obtain ⟨k, zk, hak, hkt, rfl, HS, HE⟩ := hrel
        by_cases hltk : k < t
        · have hltz : (k : Int) < (t : Int) := by omega
          have e2 : (0 : Int) ≤ (k : Int) + 1 := by omega
          have e3 : (k : Int) + 1 < (n : Int) := by omega
          have e4 : IntKind.i64.wrap ((k : Int) + 1) = (k : Int) + 1 := by rw [IntKind.wrap_i64]; omega
          have e5 : (k : Int) < (n : Int) := by omega
          have hij : k ≠ (k + 1) := by omega
          have c1 := HS.out.c0 k (by omega)
          have c1b := HS.out.c1 k (by omega)
          have c2 := HS.out.c0 (k + 1) (by omega)
          have c2b := HS.out.c1 (k + 1) (by omega)
          have f1 := HS.out.free (k * 2)
          have f1b := HS.out.free (k * 2 + 1)
          have f2 := HS.out.free ((k + 1) * 2)
          have f2b := HS.out.free ((k + 1) * 2 + 1)
          have c3 := HS.out.d0 k (k + 1) (by omega) hij (gn zk (k + 1))
          have c3b := HS.out.d1 k (k + 1) (by omega) hij (gn zk (k + 1))
          have c4 := HS.out.e1 k (by omega) (eA (gn zk (k + 1)))
          have c5 := HS.out.e2 k (k + 1) (by omega) hij (gn zk (k + 1)) (eA (gn zk k))
          have HX := Lib.hid ((HS.out.gxc k (k + 1) (by omega) (by omega)).drew)
          have HE2 : Hid (∀ p, gn (gxc zk k (k + 1)) p = shL (gn zs) a (k + 1) p) := by
            exact shL_step zk _ a k hak (by rw [HS.out.len]; omega) HE.out
          unfold stE at c3 c3b c5 HX
          obtain ⟨x, hx⟩ : ∃ x, gn zk k = x := ⟨_, rfl⟩
          obtain ⟨y, hy⟩ : ∃ y, gn zk (k + 1) = y := ⟨_, rfl⟩
          rw [hx] at c1 c1b c4 c5 HX
          rw [hy] at c2 c2b c3 c3b c4 c5 HX
          clear hx hy
          simp only [eA, eB] at c1 c1b c2 c2b c3 c3b c4 c5 HX
          generalize gxc zk k (k + 1) = z1 at HX HE2
          clear HS HE
          go_wp2_with fail
          go_region
          go_wp2_with fail
          go_roundw
          case rel => exact ⟨k + 1, z1, by omega, by omega, by go_num, HX, HE2⟩
          case measure => simp [intOf]; omega
        · obtain rfl : k = t := by omega
          go_wp2_with fail
          refine bodyPost_ret (results_none rfl _ _ _) rfl ?_
          exact ⟨rfl, zk, HS.out, HTG.out zk HE.out, HMG.out zk HE.out⟩
set_option maxRecDepth 100000 in
set_option maxHeartbeats 8000000 in
theorem symmerge_last {w0 : World} {g n cap : Nat} {z0 : List SEl} (fc : Nat) (cb : Array Value) (Pd : SEl → Prop) (kc key : SEl → Int) (hkc : ∀ x y, kc x < kc y → key x < key y) (hC : CmpG fc cb Pd kc w0 g) (hP : ∀ z ∈ z0, Pd z) (hn : n < 4611686018427387904)
    (w : World) (zs : List SEl) (a m : Nat) (hab : a + 1 < m) (hb : m + 1 ≤ n) (S : SSg w0 g n cap z0 w zs) (T : Sta kc key zs n) (hs : Srt key zs a m) :
    Calls Try.prog 42 #[.slice (some ⟨g, 0, none⟩) n cap, .int .i64 a, .int .i64 m, .int .i64 ((m + 1 : Nat) : Int), .func (.func fc) #[] cb] w fun e w' => e = .returned (.tuple #[]) ∧ ∃ zs', SSg w0 g n cap z0 w' zs' ∧ Sta kc key zs' n ∧ Mg key zs zs' a (m + 1) := by
  have eg := hC.1
  have HC := Lib.hid hC.2
  have HP := Lib.hid hP
  have S0 := Lib.hid S
  have T0 := Lib.hid T
  have HK := Lib.hid hkc
  have HSR := Lib.hid hs
  obtain ⟨b, hm⟩ : ∃ b, b = m + 1 := ⟨_, rfl⟩
  have r0 : IntKind.i64.wrap ((m : Int) - (a : Int)) = (m : Int) - (a : Int) := by rw [IntKind.wrap_i64]; omega
  have r00 : ((m : Int) - (a : Int) == 1) = false := by rw [beq_eq_false_iff_ne]; omega
  have r1 : IntKind.i64.wrap ((b : Int) - (m : Int)) = 1 := by rw [IntKind.wrap_i64]; omega
  have hma : m < b := by omega
  have hma2 : b ≤ m + 1 := by omega
  have hmn : (m : Int) < (n : Int) := by omega
  rw [← hm]
  clear S hC hP hs hm T hkc
  go_enter Try.func42, Try.ntmps42
  go_wp2_with fail
  go_loopw [14, 15] (fun x y wr => ∃ (i j : Nat), a ≤ i ∧ i ≤ j ∧ j ≤ m ∧ x = .int .i64 i ∧ y = .int .i64 j ∧ Hid (SSg w0 g n cap z0 wr zs) ∧ Hid (∀ p, a ≤ p → p < i → key (gn zs p) ≤ key (gn zs m)) ∧ Hid (∀ p, j ≤ p → p < m → key (gn zs m) < key (gn zs p))) (fun x y _ => (intOf y).toNat - (intOf x).toNat)
  case atStart => exact ⟨a, m, by omega, by omega, by omega, rfl, rfl, S0.out, fun p h1 h2 => by omega, fun p h1 h2 => by omega⟩
  case round =>
    clear S0
    obtain ⟨i, j, hmi, hij, hjb, rfl, rfl, S0, HL, HG⟩ := hrel
    by_cases hlt : i < j
    · have hltz : (i : Int) < (j : Int) := by omega
      obtain ⟨h, hh⟩ : ∃ h, h = (i + j) / 2 := ⟨_, rfl⟩
      have hh1 : i ≤ h := by omega
      have hh2 : h < j := by omega
      have hh3 : ((i : Int) + (j : Int)) / 2 = (h : Int) := by omega
      have hhn : (h : Int) < (n : Int) := by omega
      have c1 := fun (k : Kept wr) => (S0.out.to k.h).c0 h (by omega)
      have c1b := fun (k : Kept wr) => (S0.out.to k.h).c1 h (by omega)
      have c2 := fun (k : Kept wr) => (S0.out.to k.h).c0 m (by omega)
      have c2b := fun (k : Kept wr) => (S0.out.to k.h).c1 m (by omega)
      have hcm := fun (k : Kept wr) => HC.out k.x (S0.out.keep.trans k.h (by simp)) _ _ (S0.out.pd HP.out m (by omega)) (S0.out.pd HP.out h (by omega))
      have hks : key (gn zs m) < key (gn zs h) ↔ kc (gn zs m) < kc (gn zs h) := ⟨fun h => T0.out _ _ (by omega) (by omega) h, fun h => HK.out _ _ h⟩
      have HW : Hid (∀ w', Keep [] wr w' → SSg w0 g n cap z0 w' zs) := fun w' k => S0.out.to k
      clear hh
      by_cases hlv : ¬ key (gn zs m) < key (gn zs h)
      · have hd := cmpK_ge _ _ (fun h => hlv (hks.2 h))
        have HL2 : Hid (∀ p, a ≤ p → p < h + 1 → key (gn zs p) ≤ key (gn zs m)) := fun p h1 h2 => by
          have := HSR.out p h h1 (by omega) (by omega); omega
        generalize cmpK (kc (gn zs m)) (kc (gn zs h)) = cc at hcm hd
        simp only [eA, eB] at c1 c1b c2 c2b hcm
        have HCM := Lib.hid hcm
        clear hcm HL hlv hks
        go_wp2_with fail
        refine wp_region_kept (by kernel_rfl) (by kernel_rfl) ?_
        repeat (quiet_step (first | (go_at_fn fc; with_reducible exact kept_of (HCM.out _))))
        refine wpQuiet_nil ?_
        intro _ hw'
        obtain ⟨p, hw''⟩ := hw'
        subst hw''
        have S1 := Lib.hid (HW.out p.x p.h)
        clear HCM c1 c1b c2 c2b HW S0
        generalize p.x = w2 at *
        go_wp2_with fail
        go_roundw
        case rel => exact ⟨h + 1, j, by omega, by omega, by omega, by go_num, rfl, S1, HL2, HG⟩
        case measure => simp [intOf]; omega
      · have hd := cmpK_lt _ _ (hks.1 (Decidable.not_not.1 hlv))
        have HG2 : Hid (∀ p, h ≤ p → p < m → key (gn zs m) < key (gn zs p)) := fun p h1 h2 => by
          have hlv2 := Decidable.not_not.1 hlv
          have := HSR.out h p (by omega) h1 h2; omega
        generalize cmpK (kc (gn zs m)) (kc (gn zs h)) = cc at hcm hd
        simp only [eA, eB] at c1 c1b c2 c2b hcm
        have HCM := Lib.hid hcm
        clear hcm HG hlv hks
        go_wp2_with fail
        refine wp_region_kept (by kernel_rfl) (by kernel_rfl) ?_
        repeat (quiet_step (first | (go_at_fn fc; with_reducible exact kept_of (HCM.out _))))
        refine wpQuiet_nil ?_
        intro _ hw'
        obtain ⟨p, hw''⟩ := hw'
        subst hw''
        have S1 := Lib.hid (HW.out p.x p.h)
        clear HCM c1 c1b c2 c2b HW S0
        generalize p.x = w2 at *
        go_wp2_with fail
        go_roundw
        case rel => exact ⟨i, h, by omega, by omega, by omega, rfl, rfl, S1, HL, HG2⟩
        case measure => simp [intOf]; omega
    · obtain rfl : i = j := by omega
      have HMG : Hid (∀ z2, (∀ p, gn z2 p = shR (gn zs) m i p) → Mg key zs z2 a b) := fun z2 h => by
        rw [show b = m + 1 by omega]
        exact shR_mg (i := i) (by omega) (by omega) HSR.out HL.out HG.out h
      have HTG : Hid (∀ z2, (∀ p, gn z2 p = shR (gn zs) m i p) → Sta kc key z2 n) := fun z2 h => T0.out.shR (i := i) (a := a) (m := m) (by omega) (by omega) (by omega) HG.out h
      clear HL HG
      go_wp2_with fail
      go_loopw [17] (fun x wr => ∃ (k : Nat) (zk : List SEl), i ≤ k ∧ k ≤ m ∧ x = .int .i64 k ∧ Hid (SSg w0 g n cap z0 wr zk) ∧ Hid (∀ p, gn zk p = shR (gn zs) m k p)) (fun x _ => (intOf x).toNat)
      case atStart => exact ⟨m, zs, by omega, by omega, rfl, S0.out, shR_zero _ m⟩
      case round =>
        clear S0
        obtain ⟨k, zk, hak, hkt, rfl, HS, HE⟩ := hrel
        by_cases hltk : i < k
        · have hltz : (i : Int) < (k : Int) := by omega
          obtain ⟨kp, hkp⟩ : ∃ q, q = k - 1 := ⟨_, rfl⟩
          have hkp1 : kp < k := by omega
          have hkp2 : i ≤ kp := by omega
          have e4 : IntKind.i64.wrap ((k : Int) - 1) = (kp : Int) := by rw [IntKind.wrap_i64]; omega
          have e5 : (k : Int) < (n : Int) := by omega
          have e6 : (kp : Int) < (n : Int) := by omega
          have hij : k ≠ kp := by omega
          have c1 := HS.out.c0 k (by omega)
          have c1b := HS.out.c1 k (by omega)
          have c2 := HS.out.c0 kp (by omega)
          have c2b := HS.out.c1 kp (by omega)
          have f1 := HS.out.free (k * 2)
          have f1b := HS.out.free (k * 2 + 1)
          have f2 := HS.out.free (kp * 2)
          have f2b := HS.out.free (kp * 2 + 1)
          have c3 := HS.out.d0 k kp (by omega) hij (gn zk kp)
          have c3b := HS.out.d1 k kp (by omega) hij (gn zk kp)
          have c4 := HS.out.e1 k (by omega) (eA (gn zk kp))
          have c5 := HS.out.e2 k kp (by omega) hij (gn zk kp) (eA (gn zk k))
          have HX := Lib.hid ((HS.out.gxc k kp (by omega) (by omega)).drew)
          have HE2 : Hid (∀ p, gn (gxc zk k kp) p = shR (gn zs) m kp p) := by
            rw [hkp]; exact shR_step zk _ m k (by omega) (by omega) (by rw [HS.out.len]; omega) HE.out
          unfold stE at c3 c3b c5 HX
          obtain ⟨x, hx⟩ : ∃ x, gn zk k = x := ⟨_, rfl⟩
          obtain ⟨y, hy⟩ : ∃ y, gn zk kp = y := ⟨_, rfl⟩
          rw [hx] at c1 c1b c4 c5 HX
          rw [hy] at c2 c2b c3 c3b c4 c5 HX
          clear hx hy
          simp only [eA, eB] at c1 c1b c2 c2b c3 c3b c4 c5 HX
          generalize gxc zk k kp = z1 at HX HE2
          clear HS HE hkp
          go_wp2_with fail
          go_region
          go_wp2_with fail
          go_roundw
          case rel => exact ⟨kp, z1, by omega, by omega, rfl, HX, HE2⟩
          case measure => simp [intOf]; omega
        · obtain rfl : k = i := by omega
          go_wp2_with fail
          refine bodyPost_ret (results_none rfl _ _ _) rfl ?_
          exact ⟨rfl, zk, HS.out, HTG.out zk HE.out, HMG.out zk HE.out⟩
end Go.Proofs.Ytlnknnmlepgjfaa.Sg
