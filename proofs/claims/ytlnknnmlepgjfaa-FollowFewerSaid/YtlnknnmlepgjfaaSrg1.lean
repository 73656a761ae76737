/- Contracts of the library's swapRangeCmpFunc and rotateCmpFunc at rows of elements of two cells. -/
import Derived.Test.YtlnknnmlepgjfaaSrg0
import Derived.BigRegion
namespace Go.Proofs.Ytlnknnmlepgjfaa.Sg
set_option linter.unusedVariables false
set_option linter.unusedSimpArgs false
open Go.ChangeShapes Go.WideShapes Go.ChangeAt Go.RowKit

/-- the k numbers from a on exchanged with those from b on -/
def swR (A : Nat → SEl) (a b k p : Nat) : SEl := if a ≤ p ∧ p < a + k then A (p + b - a) else if b ≤ p ∧ p < b + k then A (p + a - b) else A p
theorem swR_zero (A : Nat → SEl) (a b p : Nat) : swR A a b 0 p = A p := by
  unfold swR; rw [if_neg (by omega), if_neg (by omega)]
theorem swR_step (l : List SEl) (A : Nat → SEl) (a b k : Nat) (hab : a + (k + 1) ≤ b) (hb : b + (k + 1) ≤ l.length) (h : ∀ p, gn l p = swR A a b k p) (p : Nat) : gn (gxc l (a + k) (b + k)) p = swR A a b (k + 1) p := by
  rw [gxc_at l _ _ _ (by omega) (by omega), h, h, h]
  unfold swR
  repeat' split
  all_goals first | omega | (congr 1; omega) | rfl
set_option maxRecDepth 100000 in
set_option maxHeartbeats 4000000 in
theorem swaprange_c {w0 : World} {g n cap : Nat} {z0 : List SEl} (cv : Value) (w : World) (zs : List SEl) (a b K : Nat) (hab : a + K ≤ b) (hb : b + K ≤ n) (hn : n < 4611686018427387904) (S : SSg w0 g n cap z0 w zs) :
    Calls Try.prog 44 #[.slice (some ⟨g, 0, none⟩) n cap, .int .i64 a, .int .i64 b, .int .i64 K, cv] w fun e w' => e = .returned (.tuple #[]) ∧ ∃ zs', SSg w0 g n cap z0 w' zs' ∧ ∀ p, gn zs' p = swR (gn zs) a b K p := by
  have S0 := Lib.hid S
  clear S
  go_enter Try.func44, Try.ntmps44
  go_wp2_with fail
  go_loopw [10] (fun i wr => ∃ (k : Nat) (zk : List SEl), k ≤ K ∧ i = .int .i64 k ∧ Hid (SSg w0 g n cap z0 wr zk) ∧ Hid (∀ p, gn zk p = swR (gn zs) a b k p)) (fun i _ => K - (intOf i).toNat)
  case atStart => exact ⟨0, zs, by omega, rfl, S0.out, fun p => (swR_zero _ _ _ p).symm⟩
  case round =>
    obtain ⟨k, zk, hk, rfl, HS, HE⟩ := hrel
    by_cases hlt : k < K
    · obtain ⟨i1, hi1⟩ : ∃ q, q = a + k := ⟨_, rfl⟩
      obtain ⟨j1, hj1⟩ : ∃ q, q = b + k := ⟨_, rfl⟩
      have ea : ((a : Int) + (k : Int)).toNat = i1 := by omega
      have pa : (0 : Int) ≤ (a : Int) + (k : Int) := by omega
      have ba : (a : Int) + (k : Int) < (n : Int) := by omega
      have ra : IntKind.i64.wrap ((a : Int) + (k : Int)) = (a : Int) + (k : Int) := by rw [IntKind.wrap_i64]; omega
      have eb : ((b : Int) + (k : Int)).toNat = j1 := by omega
      have pb : (0 : Int) ≤ (b : Int) + (k : Int) := by omega
      have bb : (b : Int) + (k : Int) < (n : Int) := by omega
      have rb : IntKind.i64.wrap ((b : Int) + (k : Int)) = (b : Int) + (k : Int) := by rw [IntKind.wrap_i64]; omega
      have hij : i1 ≠ j1 := by omega
      have c1 := HS.out.c0 i1 (by omega)
      have c1b := HS.out.c1 i1 (by omega)
      have c2 := HS.out.c0 j1 (by omega)
      have c2b := HS.out.c1 j1 (by omega)
      have f1 := HS.out.free (i1 * 2)
      have f1b := HS.out.free (i1 * 2 + 1)
      have f2 := HS.out.free (j1 * 2)
      have f2b := HS.out.free (j1 * 2 + 1)
      have c3 := HS.out.d0 i1 j1 (by omega) hij (gn zk j1)
      have c3b := HS.out.d1 i1 j1 (by omega) hij (gn zk j1)
      have c4 := HS.out.e1 i1 (by omega) (eA (gn zk j1))
      have c5 := HS.out.e2 i1 j1 (by omega) hij (gn zk j1) (eA (gn zk i1))
      have HS2 := Lib.hid ((HS.out.gxc i1 j1 (by omega) (by omega)).drew)
      have HE2 : Hid (∀ p, gn (gxc zk i1 j1) p = swR (gn zs) a b (k + 1) p) := by
        intro p
        rw [hi1, hj1]
        exact swR_step zk _ a b k (by omega) (by rw [HS.out.len]; omega) HE.out p
      unfold stE at c3 c3b c5 HS2
      generalize gn zk i1 = x at c1 c1b c4 c5 HS2
      generalize gn zk j1 = y at c2 c2b c3 c3b c4 c5 HS2
      simp only [eA, eB] at c1 c1b c2 c2b c3 c3b c4 c5 HS2
      generalize gxc zk i1 j1 = z1 at HS2 HE2
      clear HS HE hi1 hj1
      go_wp2_with fail
      go_region
      go_wp2_with fail
      go_roundw
      case rel => exact ⟨k + 1, z1, by omega, by go_num, HS2, HE2⟩
      case measure => simp [intOf]; omega
    · obtain rfl : k = K := by omega
      go_wp2_with fail
      go_end0
      exact ⟨rfl, zk, HS.out, HE.out⟩

/-- the numbers of [a, m) and those of [m, b) exchanged, each in their order -/
def rtR (A : Nat → SEl) (a m b p : Nat) : SEl := if a ≤ p ∧ p < a + (b - m) then A (p + m - a) else if a + (b - m) ≤ p ∧ p < b then A (p + m - b) else A p
theorem rtR_left (A : Nat → SEl) (m i j p : Nat) (hi : i ≤ m) (hj : 0 < j) (hij : j < i) : rtR (swR A (m - i) m j) (m - i + j) m (m + j) p = rtR A (m - i) m (m + j) p := by
  unfold rtR swR
  repeat' split
  all_goals first | omega | (congr 1; omega) | rfl
theorem rtR_right (A : Nat → SEl) (m i j p : Nat) (hi : i ≤ m) (hi0 : 0 < i) (hij : i < j) : rtR (swR A (m - i) (m + j - i) i) (m - i) m (m + j - i) p = rtR A (m - i) m (m + j) p := by
  unfold rtR swR
  repeat' split
  all_goals first | omega | (congr 1; omega) | rfl
theorem rtR_end (A : Nat → SEl) (m i p : Nat) (hi : i ≤ m) : swR A (m - i) m i p = rtR A (m - i) m (m + i) p := by
  unfold rtR swR
  repeat' split
  all_goals first | omega | (congr 1; omega) | rfl
set_option maxRecDepth 100000 in
set_option maxHeartbeats 4000000 in
theorem rotate_c {w0 : World} {g n cap : Nat} {z0 : List SEl} (cv : Value) (w : World) (zs : List SEl) (a m b : Nat) (ham : a < m) (hmb : m < b) (hb : b ≤ n) (hn : n < 4611686018427387904) (S : SSg w0 g n cap z0 w zs) :
    Calls Try.prog 43 #[.slice (some ⟨g, 0, none⟩) n cap, .int .i64 a, .int .i64 m, .int .i64 b, cv] w fun e w' => e = .returned (.tuple #[]) ∧ ∃ zs', SSg w0 g n cap z0 w' zs' ∧ ∀ p, gn zs' p = rtR (gn zs) a m b p := by
  have S0 := Lib.hid S
  have SW := Lib.hid (fun (w' : World) zs' a b K h1 h2 S => swaprange_c (w0 := w0) (g := g) (n := n) (cap := cap) (z0 := z0) cv w' zs' a b K h1 h2 hn S)
  clear S
  go_enter Try.func43, Try.ntmps43
  go_wp2_with fail
  go_loopw [10, 11] (fun x y wr => ∃ (i j : Nat) (zk : List SEl), 0 < i ∧ 0 < j ∧ i ≤ m ∧ m + j ≤ n ∧ x = .int .i64 i ∧ y = .int .i64 j ∧ Hid (SSg w0 g n cap z0 wr zk) ∧ Hid (∀ p, rtR (gn zk) (m - i) m (m + j) p = rtR (gn zs) a m b p)) (fun x y _ => (intOf x).toNat + (intOf y).toNat)
  case atStart => exact ⟨m - a, b - m, zs, by omega, by omega, by omega, by omega, by go_num, by go_num, S0.out, fun p => by rw [show m - (m - a) = a by omega, show m + (b - m) = b by omega]⟩
  case round =>
    obtain ⟨i, j, zk, hi, hj, him, hjn, rfl, rfl, HS, HE⟩ := hrel
    obtain ⟨q, hq⟩ : ∃ q, q = m - i := ⟨_, rfl⟩
    have r1 : IntKind.i64.wrap ((m : Int) - (i : Int)) = (q : Int) := by rw [IntKind.wrap_i64]; omega
    by_cases hij : i = j
    · subst hij
      have HC := Lib.hid (SW.out wr zk q m i (by omega) (by omega) HS.out)
      have HR : Hid (∀ p, swR (gn zk) q m i p = rtR (gn zs) a m b p) := by
        intro p
        rw [hq, rtR_end (gn zk) m i p (by omega), ← HE.out]
      clear HS HE SW S0 hq
      go_wp2_with fail
      refine HC.out.mono ?_; rintro e w2 ⟨rfl, z2, S2, E2⟩
      go_wp2_with fail
      go_end0
      exact ⟨rfl, z2, S2, fun p => by rw [E2, HR.out]⟩
    · by_cases hgt : j < i
      · obtain ⟨d, hd⟩ : ∃ d, d = i - j := ⟨_, rfl⟩
        have r2 : IntKind.i64.wrap ((i : Int) - (j : Int)) = (d : Int) := by rw [IntKind.wrap_i64]; omega
        have HC := Lib.hid (SW.out wr zk q m j (by omega) (by omega) HS.out)
        have HR : Hid (∀ z2, (∀ p, gn z2 p = swR (gn zk) q m j p) → ∀ p, rtR (gn z2) (m - d) m (m + j) p = rtR (gn zs) a m b p) := by
          intro z2 h p
          have h1 := rtR_left (gn zk) m i j p (by omega) (by omega) (by omega)
          rw [show gn z2 = swR (gn zk) q m j from funext h, show m - d = m - i + j by omega, hq, h1, ← HE.out]
        have hd0 : 0 < d := by omega
        have hdm : d ≤ m := by omega
        have hdi : d < i := by omega
        clear HS HE S0 hq hd
        go_wp2_with fail
        refine HC.out.mono ?_; rintro e w2 ⟨rfl, z2, S2, E2⟩
        have HS2 := Lib.hid S2
        have HE2 := Lib.hid (HR.out z2 E2)
        clear S2 E2 HC HR
        go_wp2_with fail
        go_roundw
        case rel => exact ⟨d, j, z2, by omega, by omega, by omega, by omega, rfl, rfl, HS2, HE2⟩
        case measure => simp [intOf]; omega
      · obtain ⟨d, hd⟩ : ∃ d, d = j - i := ⟨_, rfl⟩
        obtain ⟨x, hx⟩ : ∃ x, x = m + j - i := ⟨_, rfl⟩
        have r3 : IntKind.i64.wrap ((m : Int) + (j : Int)) = (m : Int) + (j : Int) := by rw [IntKind.wrap_i64]; omega
        have r4 : IntKind.i64.wrap ((m : Int) + (j : Int) - (i : Int)) = (x : Int) := by rw [IntKind.wrap_i64]; omega
        have r5 : IntKind.i64.wrap ((j : Int) - (i : Int)) = (d : Int) := by rw [IntKind.wrap_i64]; omega
        have HC := Lib.hid (SW.out wr zk q x i (by omega) (by omega) HS.out)
        have HR : Hid (∀ z2, (∀ p, gn z2 p = swR (gn zk) q x i p) → ∀ p, rtR (gn z2) (m - i) m (m + d) p = rtR (gn zs) a m b p) := by
          intro z2 h p
          have h1 := rtR_right (gn zk) m i j p (by omega) (by omega) (by omega)
          rw [show gn z2 = swR (gn zk) q x i from funext h, show m + d = m + j - i by omega, hq, hx, h1, ← HE.out]
        have hd0 : 0 < d := by omega
        have hdm : m + d ≤ n := by omega
        have hdj : d < j := by omega
        clear HS HE S0 hq hd hx
        go_wp2_with fail
        refine HC.out.mono ?_; rintro e w2 ⟨rfl, z2, S2, E2⟩
        have HS2 := Lib.hid S2
        have HE2 := Lib.hid (HR.out z2 E2)
        clear S2 E2 HC HR
        go_wp2_with fail
        go_roundw
        case rel => exact ⟨i, d, z2, by omega, by omega, by omega, by omega, rfl, rfl, HS2, HE2⟩
        case measure => simp [intOf]; omega
end Go.Proofs.Ytlnknnmlepgjfaa.Sg
