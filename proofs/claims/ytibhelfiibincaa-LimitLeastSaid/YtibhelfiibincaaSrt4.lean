/- Contract of the library's symMergeCmpFunc at rows of int: where one of the two rows has one number. -/
import Derived.Test.YtibhelfiibincaaSrt3
namespace Go.Proofs.Ytibhelfiibincaa
set_option linter.unusedVariables false
set_option linter.unusedSimpArgs false
open Go.ChangeShapes Go.WideShapes Go.ChangeAt Go.RowKit

set_option maxRecDepth 100000 in
set_option maxHeartbeats 8000000 in
theorem symmerge_one {w0 : World} {g n cap : Nat} {z0 : List Int} (fc : Nat) (cb : Array Value) (Pd : Int → Prop) (key : Int → Int) (hC : CmpBy fc cb Pd key w0 g) (hP : ∀ z ∈ z0, Pd z) (hn : n < 4611686018427387904)
    (w : World) (zs : List Int) (a b : Nat) (hab : a + 1 < b) (hb : b ≤ n) (S : SS w0 g n cap z0 w zs) (hs : Srt key zs (a + 1) b) :
    Calls Try.prog 37 #[.slice (some ⟨g, 0, none⟩) n cap, .int .i64 a, .int .i64 ((a + 1 : Nat) : Int), .int .i64 b, .func (.func fc) #[] cb] w fun e w' => e = .returned (.tuple #[]) ∧ ∃ zs', SS w0 g n cap z0 w' zs' ∧ Mg key zs zs' a b := by
  have eg := hC.1
  have HC := Lib.hid hC.2
  have HP := Lib.hid hP
  have S0 := Lib.hid S
  have HSR := Lib.hid hs
  obtain ⟨m, hm⟩ : ∃ m, m = a + 1 := ⟨_, rfl⟩
  have r0 : IntKind.i64.wrap ((m : Int) - (a : Int)) = 1 := by rw [IntKind.wrap_i64]; omega
  have hma : a < m := by omega
  have hma2 : m ≤ a + 1 := by omega
  rw [← hm] at HSR ⊢
  clear S hC hP hs hm
  go_enter Try.func37, Try.ntmps37
  go_wp2_with fail
  go_loopw [10, 11] (fun x y wr => ∃ (i j : Nat), m ≤ i ∧ i ≤ j ∧ j ≤ b ∧ x = .int .i64 i ∧ y = .int .i64 j ∧ Hid (SS w0 g n cap z0 wr zs) ∧ Hid (∀ p, m ≤ p → p < i → key (zn zs p) < key (zn zs a)) ∧ Hid (∀ p, j ≤ p → p < b → key (zn zs a) ≤ key (zn zs p))) (fun x y _ => (intOf y).toNat - (intOf x).toNat)
  case atStart => exact ⟨m, b, by omega, by omega, by omega, rfl, rfl, S0.out, fun p h1 h2 => by omega, fun p h1 h2 => by omega⟩
  case round =>
    clear S0
    obtain ⟨i, j, hmi, hij, hjb, rfl, rfl, S0, HL, HG⟩ := hrel
    by_cases hlt : i < j
    · have hltz : (i : Int) < (j : Int) := by omega
      obtain ⟨h, hh⟩ : ∃ h, h = (i + j) / 2 := ⟨_, rfl⟩
      have hh1 : i ≤ h := by omega
      have hh2 : h < j := by omega
      have hh3 : ((i : Int) + (j : Int)) / 2 = (h : Int) := by omega
      have hhn : (h : Int) < (n : Int) := by omega
      have han : (a : Int) < (n : Int) := by omega
      have c1 := S0.out.cell h (by omega)
      have c2 := S0.out.cell a (by omega)
      have hcm := fun k => HC.out (wr.drewN k) (S0.out.keep.drewN k) _ _ (S0.out.pd HP.out h (by omega)) (S0.out.pd HP.out a (by omega))
      clear hh
      by_cases hlv : key (zn zs h) < key (zn zs a)
      · have hd := cmpK_lt _ _ hlv
        have HL2 : Hid (∀ p, m ≤ p → p < h + 1 → key (zn zs p) < key (zn zs a)) := fun p h1 h2 => by
          have := HSR.out p h h1 (by omega) (by omega); omega
        generalize cmpK (key (zn zs h)) (key (zn zs a)) = cc at hcm hd
        have HCM := Lib.hid hcm
        obtain ⟨x, hx⟩ : ∃ x, zn zs h = x := ⟨_, rfl⟩
        obtain ⟨y, hy⟩ : ∃ y, zn zs a = y := ⟨_, rfl⟩
        rw [hx] at c1 HCM
        rw [hy] at c2 HCM
        clear hx hy
        clear hcm HL hlv
        go_wp2_with fail
        go_quiet (first | (go_at_fn fc; refine Calls.quiet_of (HCM.out _)))
        have S1 := Lib.hid (S0.out.drewN nq)
        clear HCM c1 c2
        go_wp2_with fail
        go_roundw
        case rel => exact ⟨h + 1, j, by omega, by omega, by omega, by go_num, rfl, S1, HL2, HG⟩
        case measure => simp [intOf]; omega
      · have hd := cmpK_ge _ _ hlv
        have HG2 : Hid (∀ p, h ≤ p → p < b → key (zn zs a) ≤ key (zn zs p)) := fun p h1 h2 => by
          have := HSR.out h p (by omega) h1 h2; omega
        generalize cmpK (key (zn zs h)) (key (zn zs a)) = cc at hcm hd
        have HCM := Lib.hid hcm
        obtain ⟨x, hx⟩ : ∃ x, zn zs h = x := ⟨_, rfl⟩
        obtain ⟨y, hy⟩ : ∃ y, zn zs a = y := ⟨_, rfl⟩
        rw [hx] at c1 HCM
        rw [hy] at c2 HCM
        clear hx hy
        clear hcm HG hlv
        go_wp2_with fail
        go_quiet (first | (go_at_fn fc; refine Calls.quiet_of (HCM.out _)))
        have S1 := Lib.hid (S0.out.drewN nq)
        clear HCM c1 c2
        go_wp2_with fail
        go_roundw
        case rel => exact ⟨i, h, by omega, by omega, by omega, rfl, rfl, S1, HL, HG2⟩
        case measure => simp [intOf]; omega
    · obtain rfl : i = j := by omega
      obtain ⟨t, ht⟩ : ∃ t, t = i - 1 := ⟨_, rfl⟩
      have rt : IntKind.i64.wrap ((i : Int) - 1) = (t : Int) := by rw [IntKind.wrap_i64]; omega
      have hat : a ≤ t := by omega
      have htb : t < b := by omega
      have HMG : Hid (∀ z2, (∀ p, zn z2 p = shL (zn zs) a t p) → Mg key zs z2 a b) := fun z2 h => shL_mg (i := i) (by omega) (by omega) (by rw [show a + 1 = m by omega]; exact HSR.out) (by rw [show a + 1 = m by omega]; exact HL.out) HG.out (by rw [← ht]; exact h)
      clear HL HG ht
      go_wp2_with fail
      go_loopw [13] (fun x wr => ∃ (k : Nat) (zk : List Int), a ≤ k ∧ k ≤ t ∧ x = .int .i64 k ∧ Hid (SS w0 g n cap z0 wr zk) ∧ Hid (∀ p, zn zk p = shL (zn zs) a k p)) (fun x _ => t - (intOf x).toNat)
      case atStart => exact ⟨a, zs, by omega, by omega, rfl, S0.out, shL_zero _ a⟩
      case round =>
        clear S0
        obtain ⟨k, zk, hak, hkt, rfl, HS, HE⟩ := hrel
        by_cases hltk : k < t
        · have hltz : (k : Int) < (t : Int) := by omega
          have e2 : (0 : Int) ≤ (k : Int) + 1 := by omega
          have e3 : (k : Int) + 1 < (n : Int) := by omega
          have e4 : IntKind.i64.wrap ((k : Int) + 1) = (k : Int) + 1 := by rw [IntKind.wrap_i64]; omega
          have e5 : (k : Int) < (n : Int) := by omega
          have c1 := HS.out.cell k (by omega)
          have c2 := HS.out.cell (k + 1) (by omega)
          have f1 := HS.out.free k
          have f2 := HS.out.free (k + 1)
          have c3 := HS.out.c2 k (k + 1) (by omega) (by omega) (.int .i64 (zn zk (k + 1)))
          have HX := Lib.hid ((HS.out.xch k (k + 1) (by omega) (by omega)).drew)
          have HE2 : Hid (∀ p, zn (xch zk k (k + 1)) p = shL (zn zs) a (k + 1) p) := by
            exact shL_step zk _ a k hak (by rw [HS.out.len]; omega) HE.out
          generalize zn zk k = x at c1 HX
          generalize zn zk (k + 1) = y at c2 c3 HX
          generalize xch zk k (k + 1) = z1 at HX HE2
          clear HS HE
          go_wp2_with fail
          go_region
          go_wp2_with fail
          go_roundw
          case rel => exact ⟨k + 1, z1, by omega, by omega, by go_num, HX, HE2⟩
          case measure => simp [intOf]; omega
        · obtain rfl : k = t := by omega
          go_wp2_with fail
          refine bodyPost_ret (results_none rfl _ _ _) rfl ?_
          exact ⟨rfl, zk, HS.out, HMG.out zk HE.out⟩
set_option maxRecDepth 100000 in
set_option maxHeartbeats 8000000 in
theorem symmerge_last {w0 : World} {g n cap : Nat} {z0 : List Int} (fc : Nat) (cb : Array Value) (Pd : Int → Prop) (key : Int → Int) (hC : CmpBy fc cb Pd key w0 g) (hP : ∀ z ∈ z0, Pd z) (hn : n < 4611686018427387904)
    (w : World) (zs : List Int) (a m : Nat) (hab : a + 1 < m) (hb : m + 1 ≤ n) (S : SS w0 g n cap z0 w zs) (hs : Srt key zs a m) :
    Calls Try.prog 37 #[.slice (some ⟨g, 0, none⟩) n cap, .int .i64 a, .int .i64 m, .int .i64 ((m + 1 : Nat) : Int), .func (.func fc) #[] cb] w fun e w' => e = .returned (.tuple #[]) ∧ ∃ zs', SS w0 g n cap z0 w' zs' ∧ Mg key zs zs' a (m + 1) := by
  have eg := hC.1
  have HC := Lib.hid hC.2
  have HP := Lib.hid hP
  have S0 := Lib.hid S
  have HSR := Lib.hid hs
  obtain ⟨b, hm⟩ : ∃ b, b = m + 1 := ⟨_, rfl⟩
  have r0 : IntKind.i64.wrap ((m : Int) - (a : Int)) = (m : Int) - (a : Int) := by rw [IntKind.wrap_i64]; omega
  have r00 : ((m : Int) - (a : Int) == 1) = false := by rw [beq_eq_false_iff_ne]; omega
  have r1 : IntKind.i64.wrap ((b : Int) - (m : Int)) = 1 := by rw [IntKind.wrap_i64]; omega
  have hma : m < b := by omega
  have hma2 : b ≤ m + 1 := by omega
  have hmn : (m : Int) < (n : Int) := by omega
  rw [← hm]
  clear S hC hP hs hm
  go_enter Try.func37, Try.ntmps37
  go_wp2_with fail
  go_loopw [14, 15] (fun x y wr => ∃ (i j : Nat), a ≤ i ∧ i ≤ j ∧ j ≤ m ∧ x = .int .i64 i ∧ y = .int .i64 j ∧ Hid (SS w0 g n cap z0 wr zs) ∧ Hid (∀ p, a ≤ p → p < i → key (zn zs p) ≤ key (zn zs m)) ∧ Hid (∀ p, j ≤ p → p < m → key (zn zs m) < key (zn zs p))) (fun x y _ => (intOf y).toNat - (intOf x).toNat)
  case atStart => exact ⟨a, m, by omega, by omega, by omega, rfl, rfl, S0.out, fun p h1 h2 => by omega, fun p h1 h2 => by omega⟩
  case round =>
    clear S0
    obtain ⟨i, j, hmi, hij, hjb, rfl, rfl, S0, HL, HG⟩ := hrel
    by_cases hlt : i < j
    · have hltz : (i : Int) < (j : Int) := by omega
      obtain ⟨h, hh⟩ : ∃ h, h = (i + j) / 2 := ⟨_, rfl⟩
      have hh1 : i ≤ h := by omega
      have hh2 : h < j := by omega
      have hh3 : ((i : Int) + (j : Int)) / 2 = (h : Int) := by omega
      have hhn : (h : Int) < (n : Int) := by omega
      have c1 := S0.out.cell h (by omega)
      have c2 := S0.out.cell m (by omega)
      have hcm := fun k => HC.out (wr.drewN k) (S0.out.keep.drewN k) _ _ (S0.out.pd HP.out m (by omega)) (S0.out.pd HP.out h (by omega))
      clear hh
      by_cases hlv : ¬ key (zn zs m) < key (zn zs h)
      · have hd := cmpK_ge _ _ hlv
        have HL2 : Hid (∀ p, a ≤ p → p < h + 1 → key (zn zs p) ≤ key (zn zs m)) := fun p h1 h2 => by
          have := HSR.out p h h1 (by omega) (by omega); omega
        generalize cmpK (key (zn zs m)) (key (zn zs h)) = cc at hcm hd
        have HCM := Lib.hid hcm
        obtain ⟨x, hx⟩ : ∃ x, zn zs h = x := ⟨_, rfl⟩
        obtain ⟨y, hy⟩ : ∃ y, zn zs m = y := ⟨_, rfl⟩
        rw [hx] at c1 HCM
        rw [hy] at c2 HCM
        clear hx hy
        clear hcm HL hlv
        go_wp2_with fail
        go_quiet (first | (go_at_fn fc; refine Calls.quiet_of (HCM.out _)))
        have S1 := Lib.hid (S0.out.drewN nq)
        clear HCM c1 c2
        go_wp2_with fail
        go_roundw
        case rel => exact ⟨h + 1, j, by omega, by omega, by omega, by go_num, rfl, S1, HL2, HG⟩
        case measure => simp [intOf]; omega
      · have hd := cmpK_lt _ _ (Decidable.not_not.1 hlv)
        have HG2 : Hid (∀ p, h ≤ p → p < m → key (zn zs m) < key (zn zs p)) := fun p h1 h2 => by
          have hlv2 := Decidable.not_not.1 hlv
          have := HSR.out h p (by omega) h1 h2; omega
        generalize cmpK (key (zn zs m)) (key (zn zs h)) = cc at hcm hd
        have HCM := Lib.hid hcm
        obtain ⟨x, hx⟩ : ∃ x, zn zs h = x := ⟨_, rfl⟩
        obtain ⟨y, hy⟩ : ∃ y, zn zs m = y := ⟨_, rfl⟩
        rw [hx] at c1 HCM
        rw [hy] at c2 HCM
        clear hx hy
        clear hcm HG hlv
        go_wp2_with fail
        go_quiet (first | (go_at_fn fc; refine Calls.quiet_of (HCM.out _)))
        have S1 := Lib.hid (S0.out.drewN nq)
        clear HCM c1 c2
        go_wp2_with fail
        go_roundw
        case rel => exact ⟨i, h, by omega, by omega, by omega, rfl, rfl, S1, HL, HG2⟩
        case measure => simp [intOf]; omega
    · obtain rfl : i = j := by omega
      have HMG : Hid (∀ z2, (∀ p, zn z2 p = shR (zn zs) m i p) → Mg key zs z2 a b) := fun z2 h => by
        rw [show b = m + 1 by omega]
        exact shR_mg (i := i) (by omega) (by omega) HSR.out HL.out HG.out h
      clear HL HG
      go_wp2_with fail
      go_loopw [17] (fun x wr => ∃ (k : Nat) (zk : List Int), i ≤ k ∧ k ≤ m ∧ x = .int .i64 k ∧ Hid (SS w0 g n cap z0 wr zk) ∧ Hid (∀ p, zn zk p = shR (zn zs) m k p)) (fun x _ => (intOf x).toNat)
      case atStart => exact ⟨m, zs, by omega, by omega, rfl, S0.out, shR_zero _ m⟩
      case round =>
        clear S0
        obtain ⟨k, zk, hak, hkt, rfl, HS, HE⟩ := hrel
        by_cases hltk : i < k
        · have hltz : (i : Int) < (k : Int) := by omega
          obtain ⟨kp, hkp⟩ : ∃ q, q = k - 1 := ⟨_, rfl⟩
          have hkp1 : kp < k := by omega
          have hkp2 : i ≤ kp := by omega
          have e4 : IntKind.i64.wrap ((k : Int) - 1) = (kp : Int) := by rw [IntKind.wrap_i64]; omega
          have e5 : (k : Int) < (n : Int) := by omega
          have e6 : (kp : Int) < (n : Int) := by omega
          have c1 := HS.out.cell k (by omega)
          have c2 := HS.out.cell kp (by omega)
          have f1 := HS.out.free k
          have f2 := HS.out.free kp
          have c3 := HS.out.c2 k kp (by omega) (by omega) (.int .i64 (zn zk kp))
          have HX := Lib.hid ((HS.out.xch k kp (by omega) (by omega)).drew)
          have HE2 : Hid (∀ p, zn (xch zk k kp) p = shR (zn zs) m kp p) := by
            rw [hkp]; exact shR_step zk _ m k (by omega) (by omega) (by rw [HS.out.len]; omega) HE.out
          obtain ⟨x, hx⟩ : ∃ x, zn zk k = x := ⟨_, rfl⟩
          obtain ⟨y, hy⟩ : ∃ y, zn zk kp = y := ⟨_, rfl⟩
          rw [hx] at c1 HX
          rw [hy] at c2 c3 HX
          clear hx hy
          generalize xch zk k kp = z1 at HX HE2
          clear HS HE hkp
          go_wp2_with fail
          go_region
          go_wp2_with fail
          go_roundw
          case rel => exact ⟨kp, z1, by omega, by omega, rfl, HX, HE2⟩
          case measure => simp [intOf]; omega
        · obtain rfl : k = i := by omega
          go_wp2_with fail
          refine bodyPost_ret (results_none rfl _ _ _) rfl ?_
          exact ⟨rfl, zk, HS.out, HMG.out zk HE.out⟩
end Go.Proofs.Ytibhelfiibincaa
