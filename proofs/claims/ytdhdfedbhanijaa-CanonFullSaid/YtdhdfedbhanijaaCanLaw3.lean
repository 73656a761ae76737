/- The walk of the law CanonFree: it returns true at every input. -/
import Derived.Test.YtdhdfedbhanijaaCanLaw2
import Derived.BigRegion
namespace Go.Proofs.Ytdhdfedbhanijaa
set_option linter.unusedVariables false
set_option linter.unusedSimpArgs false
open Go.ChangeShapes Go.WideShapes Go.ChangeAt Go.RowKit

theorem free_ne (L : List Nat) (i k : Nat) (hi : i < L.length) (hk : k < L.length) (hL : ∀ y ∈ L, y ≤ 16) (hwt : wt L ≤ 65536) (hne : i ≠ k) (h0 : 0 < len L i) (hle : len L i ≤ len L k) : code L k % 2 ^ len L i ≠ code L i := by
  intro e
  have h1 := (hit_bits L (code L k) i 0 hi hL hwt h0).1 e
  have h2 := (hit_bits L (code L k) k 0 hk hL hwt (by omega)).1 (Nat.mod_eq_of_lt (code_lt L k))
  exact hne (hit_unique L _ i k h1 h2)
theorem code_lt16 (L : List Nat) (k : Nat) (h : len L k ≤ 16) : code L k < 65536 :=
  Nat.lt_of_lt_of_le (code_lt L k) (Nat.pow_le_pow_right (n := 2) (j := 16) (by decide) h)
set_option maxRecDepth 100000 in
set_option maxHeartbeats 4000000 in
theorem free_w (W : World) (v0 : Value) (zs0 : List Int) (h0 : Is .i64 W v0 zs0) : Calls Try.prog 5 #[v0] W fun e w' => e = .returned (.bool true) ∧ Keep [] W w' := by
  go_enter Try.func5, Try.ntmps5
  go_wp2_with fail
  refine (refints_c W v0 zs0 60 (by omega) h0).mono ?_; rintro e w1 ⟨va, rfl, ha, _, rfl⟩
  generalize zs0.take 60 = zs at ha
  clear h0
  go_wp2_with fail
  refine (can_codes W va zs ha).mono ?_; rintro e w2 ⟨cv, rfl, hcd, k2, _, hnil⟩
  by_cases hw : werr zs = 0
  · have hok := werr_ok hw
    have hLw : Lw zs = Ln zs := by unfold Lw; rw [if_pos hw]
    rw [hLw] at hcd
    rw [hw]
    have HG := Lib.hid (fun i hi => may_get hok.1 i hi)
    have hL := may_Ln hok.1
    have hwt := hok.2
    have hN := Ln_length zs
    generalize Ln zs = L at hcd HG hL hwt hN
    have HF := Lib.hid (fun i k hi hk => free_ne L i k hi hk hL hwt)
    have HA : Hid (∀ w' (k : Keep [] W w') i (hi : i < L.length), len L i ≤ 16 ∧ ∃ b off cap, va = .slice (some ⟨b, off, none⟩) L.length cap ∧ w'.cell? ⟨b, off + i, none⟩ = some (.int .i64 (len L i))) := by
      intro w' k i hi
      obtain ⟨g1, g2⟩ := HG.out i (by omega)
      refine ⟨g2, ?_⟩
      rw [← g1, hN]
      exact (ha.keep k (by simp)).at i (by omega)
    have HC := Lib.hid (fun w' (k : Keep [] w2 w') i hi => (hcd.keep k (by simp)).at i hi)
    obtain ⟨a, cap, rfl, hm⟩ := hcd.shape
    obtain ⟨a0, cap0, rfl, _⟩ := ha.sh
    rw [← hN]
    clear hcd ha hL hok hLw hw hnil hN HG
    go_wp2_with fail
    go_loopw [5] (fun i wr => ∃ k : Nat, k ≤ L.length ∧ i = .int .i64 k ∧ Keep [] w2 wr) (fun i _ => L.length - (intOf i).toNat)
    case atStart => exact ⟨0, by omega, rfl, Keep.refl _ _⟩
    case round =>
      obtain ⟨i, hi, rfl, kr⟩ := hrel
      by_cases hlt : i < L.length
      · obtain ⟨b, off, cap1, hv, e0, e1⟩ := HC.out _ kr i hlt
        simp only [Value.slice.injEq] at hv
        obtain ⟨rfl, _, rfl⟩ := hv
        obtain ⟨g2, b', off', cap1', hv, d0⟩ := HA.out _ (k2.trans kr (by simp)) i hlt
        simp only [Value.slice.injEq] at hv
        obtain ⟨rfl, _, rfl⟩ := hv
        go_wp2_with fail
        go_quiet (fail)
        have kr2 := kr.drewN nq
        generalize wr.drewN nq = wr2 at kr2 ⊢
        clear e0 e1 d0 kr
        go_wp2_with fail
        go_loopw [6] (fun m w4 => ∃ k : Nat, k ≤ L.length ∧ m = .int .i64 k ∧ Keep [] w2 w4) (fun m _ => L.length - (intOf m).toNat)
        case atStart => exact ⟨0, by omega, rfl, kr2⟩
        case round =>
          clear kr2
          obtain ⟨k, hk, rfl, k4⟩ := hrel
          by_cases hltk : k < L.length
          · obtain ⟨b, off, cap1, hv, e0, e1⟩ := HC.out _ k4 i hlt
            simp only [Value.slice.injEq] at hv
            obtain ⟨h1, _, rfl⟩ := hv
            injection h1 with h1
            injection h1 with h2 h3 _
            subst h2 h3
            obtain ⟨b, off, cap1, hv, f0, f1⟩ := HC.out _ k4 k hltk
            simp only [Value.slice.injEq] at hv
            obtain ⟨h1, _, rfl⟩ := hv
            injection h1 with h1
            injection h1 with h2 h3 _
            subst h2 h3
            have gk := (HA.out _ (k2.trans k4 (by simp)) k hltk).1
            have hx := code_lt16 L k gk
            have HFF := Lib.hid (HF.out i k hlt hltk)
            obtain ⟨P, hP, hP1, hP2, hmk⟩ := mask32' (code L k) (len L i) (by omega) g2
            have HE : Hid (i ≠ k → 0 < len L i → len L i ≤ len L k → (((code L k % 2 ^ len L i : Nat) : Int) == (code L i : Nat)) = false) := by
              intro a1 a2 a3
              have := HFF.out a1 a2 a3
              simp only [beq_eq_false_iff_ne, ne_eq]; intro e; exact this (Int.ofNat.inj e)
            clear HFF
            generalize code L k % 2 ^ len L i = xm at hmk HE
            generalize code L i = ci at e0 HE
            generalize code L k = ck at f0 hx hmk
            generalize len L i = li at *
            generalize len L k = lk at *
            have kA : ∀ o, Keep [] wr (wr.alloc o) := fun o => (Keep.refl [] wr).alloc o
            have kB : ∀ o o', Keep [] wr ((wr.alloc o).alloc o') := fun o o' => (kA o).alloc o'
            have e0A := fun o => (kA o).cellW e0
            have e1A := fun o => (kA o).cellW e1
            have f0A := fun o => (kA o).cellW f0
            have f1A := fun o => (kA o).cellW f1
            have e0B := fun o o' => (kB o o').cellW e0
            have e1B := fun o o' => (kB o o').cellW e1
            have f0B := fun o o' => (kB o o').cellW f0
            have f1B := fun o o' => (kB o o').cellW f1
            clear kA kB
            go_wp2_with fail
            go_region
            all_goals clear e0A e1A f0A f1A e0B e1B f0B f1B e0 e1 f0 f1
            all_goals
              by_cases hik : i = k
              · have t1 : ((i : Int) != k) = false := by simp; omega
                clear HE hmk
                go_wp2_with fail
                go_roundw
                case rel => exact ⟨k + 1, by omega, by go_num, ((k4.alloc _).alloc _).drew⟩
                case measure => simp [intOf]; omega
              have t1 : ((i : Int) != k) = true := by simp; omega
              by_cases hl0 : 0 < li
              · by_cases hll : li ≤ lk
                · have t4 := HE.out hik hl0 hll
                  clear HE hik
                  go_wp2_with fail
                  go_roundw
                  case rel => exact ⟨k + 1, by omega, by go_num, ((k4.alloc _).alloc _).drew⟩
                  case measure => simp [intOf]; omega
                · have t3 : decide (li ≤ lk) = false := by simp; omega
                  clear HE hmk hik
                  go_wp2_with fail
                  go_roundw
                  case rel => exact ⟨k + 1, by omega, by go_num, ((k4.alloc _).alloc _).drew⟩
                  case measure => simp [intOf]; omega
              · have t2 : decide ((0 : Int) < li) = false := by simp; omega
                clear HE hmk hik
                go_wp2_with fail
                go_roundw
                case rel => exact ⟨k + 1, by omega, by go_num, ((k4.alloc _).alloc _).drew⟩
                case measure => simp [intOf]; omega
          · obtain rfl : k = L.length := by omega
            go_wp2_with fail
            go_roundw
            case rel => exact ⟨i + 1, by omega, by go_num, k4⟩
            case measure => simp [intOf]; omega
      · obtain rfl : i = L.length := by omega
        go_wp2_with fail
        refine (lives_c _).mono ?_; rintro e w12 ⟨rfl, k12⟩
        go_wp2_with fail
        go_ret
        exact ⟨rfl, (k2.trans kr (by simp)).trans k12 (by simp)⟩
  · obtain rfl := hnil hw
    have hb : (((werr zs : Nat) : Int) != 0) = true := by simp; omega
    clear hcd hnil
    generalize werr zs = er at hb ⊢
    go_wp2_with fail
    refine (lives_c _).mono ?_; rintro e w12 ⟨rfl, k12⟩
    go_wp2_with fail
    go_ret
    exact ⟨rfl, k2.trans k12 (by simp)⟩
end Go.Proofs.Ytdhdfedbhanijaa
