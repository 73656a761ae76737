/- Contracts of limit's own mayBe and Cost. -/
import Derived.Test.YtibhelfiibincaaRefLim4
import Derived.Test.YtibhelfiibincaaSrt6
namespace Go.Proofs.Ytibhelfiibincaa
set_option linter.unusedVariables false
set_option linter.unusedSimpArgs false
open Go.ChangeShapes Go.WideShapes Go.ChangeAt Go.RowKit

set_option maxRecDepth 100000 in
set_option maxHeartbeats 1000000 in
theorem maybe_c (w : World) (v : Value) (zs : List Int) (most : Int) (h : Is .i64 w v zs) : Calls Try.prog 21 #[v, .int .i64 most] w fun e w' => e = .returned (.bool (mayF zs most)) ∧ ∃ n, w' = w.drewN n := by
  have HI := Lib.hid (fun i hi => h.at i hi)
  obtain ⟨a, cap, rfl, hl⟩ := h.sh
  have HM := Lib.hid (mayF_iff zs most)
  by_cases hlo : most < 1
  · have hf : Hid (mayF zs most = false) := by unfold Hid; rw [Bool.eq_false_iff]; intro hm; have := (HM.out.1 hm).1; omega
    clear h
    go_enter Try.func21, Try.ntmps21
    go_wp2
    go_ret
    exact ⟨by rw [hf.out]; rfl, 0, rfl⟩
  by_cases hhi : 16 < most
  · have hf : Hid (mayF zs most = false) := by unfold Hid; rw [Bool.eq_false_iff]; intro hm; have := (HM.out.1 hm).2.1; omega
    clear h
    go_enter Try.func21, Try.ntmps21
    go_wp2
    go_ret
    exact ⟨by rw [hf.out]; rfl, 0, rfl⟩
  obtain ⟨M, rfl⟩ : ∃ M : Nat, most = M := ⟨most.toNat, by omega⟩
  by_cases hbig : 4096 < zs.length
  · have hf : Hid (mayF zs M = false) := by unfold Hid; rw [Bool.eq_false_iff]; intro hm; have := (HM.out.1 hm).2.2.1; omega
    clear h
    go_enter Try.func21, Try.ntmps21
    go_wp2
    go_ret
    exact ⟨by rw [hf.out]; rfl, 0, rfl⟩
  clear h
  have m1 : 1 ≤ M := by omega
  have m2 : M ≤ 16 := by omega
  have b1 : decide ((M : Int) < 1) = false := decide_eq_false (by omega)
  have b2 : decide ((M : Int) > 16) = false := decide_eq_false (by omega)
  have b3 : decide ((zs.length : Int) > 4096) = false := decide_eq_false (by omega)
  go_enter Try.func21, Try.ntmps21
  go_wp2_with fail
  clear b1 b2 b3
  go_loopw [5, 21] (fun x i wr => ∃ (k y : Nat), k ≤ zs.length ∧ i = .int .i64 k ∧ x = .int .i64 y ∧ y ≤ k ∧ Hid (y = ct (fun i => decide (fn zs i ≠ 0)) k) ∧ Hid (∀ i (hi : i < zs.length), i < k → 0 ≤ zs[i] ∧ zs[i] ≤ 1099511627776) ∧ ∃ n, wr = w.drewN n) (fun _ i _ => zs.length - (intOf i).toNat)
  case atStart => exact ⟨0, 0, by omega, rfl, rfl, by omega, rfl, fun i _ hi => by omega, 0, rfl⟩
  case round =>
    obtain ⟨k, y, hk, rfl, rfl, hy, HY, HR, n, rfl⟩ := hrel
    by_cases hlt : k < zs.length
    · obtain ⟨b, off, cap', hv, e1⟩ := HI.out k hlt
      simp only [Value.slice.injEq] at hv
      obtain ⟨rfl, h2, rfl⟩ := hv
      clear h2
      by_cases hbad : zs[k] < 0 ∨ 1099511627776 < zs[k]
      · have hf : Hid (mayF zs M = false) := by
          unfold Hid; rw [Bool.eq_false_iff]; intro hm
          have h1 := (HM.out.1 hm).2.2.2.1
          rw [bad_F k hlt hbad] at h1; simp at h1
        generalize zs[k] = z at e1 hbad
        by_cases hneg : z < 0
        · clear hbad
          go_wp2_with fail
          go_ret
          exact ⟨by rw [hf.out]; rfl, _, rfl⟩
        · have : 1099511627776 < z := by omega
          clear hbad
          go_wp2_with fail
          go_ret
          exact ⟨by rw [hf.out]; rfl, _, rfl⟩
      · have HR2 : Hid (∀ i (hi : i < zs.length), i < k + 1 → 0 ≤ zs[i] ∧ zs[i] ≤ 1099511627776) := by
          intro i hi hij
          by_cases e : i = k
          · subst e; omega
          · exact HR.out i hi (by omega)
        have hz1 : ¬ zs[k] < 0 := by omega
        have hz2 : ¬ 1099511627776 < zs[k] := by omega
        have HS := Lib.hid (used_step zs k hlt)
        generalize zs[k] = z at e1 hz1 hz2 HS
        clear hbad HR
        by_cases h0 : 0 < z
        · rw [if_pos h0] at HS
          go_wp2_with fail
          go_roundw
          case rel => exact ⟨k + 1, y + 1, by omega, by go_num, by go_num, by omega, by unfold Hid; rw [HS.out, HY.out], HR2, _, rfl⟩
          case measure => simp [intOf]; omega
        · rw [if_neg h0] at HS
          go_wp2_with fail
          go_roundw
          case rel => exact ⟨k + 1, y, by omega, by go_num, rfl, by omega, by unfold Hid; rw [HS.out, HY.out]; rfl, HR2, _, rfl⟩
          case measure => simp [intOf]; omega
    · obtain rfl : k = zs.length := by omega
      have hok : okF zs = true := (okF_iff zs).2 (fun z hz => by
        obtain ⟨i, hi, rfl⟩ := List.getElem_of_mem hz
        exact HR.out i hi hi)
      have HP : Hid ((2 : Nat) ^ M ≤ 65536) := Nat.pow_le_pow_right (n := 2) (j := 16) (by decide) m2
      have hres : Hid (mayF zs M = decide ((y : Int) ≤ ((2 ^ M : Nat) : Int))) := by
        unfold Hid
        rw [HY.out]
        by_cases h : usedN zs.length (fn zs) ≤ 2 ^ M
        · rw [(HM.out).2 ⟨by omega, by omega, by omega, hok, by simpa using h⟩]
          exact (decide_eq_true (Int.ofNat_le.2 h)).symm
        · have hf : mayF zs (M : Int) = false := by
            rw [Bool.eq_false_iff]; intro hm; exact h (by simpa using (HM.out.1 hm).2.2.2.2)
          rw [hf]
          exact (decide_eq_false (fun h2 => h (Int.ofNat_le.1 h2))).symm
      clear hok HR HI HY
      go_wp2_with fail
      have hw : wrap64 ((2 : Int) ^ M) = ((2 ^ M : Nat) : Int) := by
        have hp := HP.out
        rw [show ((2 : Int) ^ M) = ((2 ^ M : Nat) : Int) by simp]
        generalize (2 ^ M : Nat) = P at hp
        unfold wrap64; omega
      go_ret
      rw [hres.out, hw]
      exact ⟨rfl, _, rfl⟩
theorem isum_stop (zs ls : List Int) (m N : Nat) (hm : m ≤ N) (h : ∀ i, m ≤ i → zn zs i * zn ls i = 0) : isum zs ls N = isum zs ls m := by
  induction N with
  | zero => rw [show m = 0 by omega]
  | succ N ih =>
    by_cases e : m = N + 1
    · rw [e]
    · rw [isum, ih (by omega), h N (by omega)]; simp
theorem zn_out (zs : List Int) (i : Nat) (h : zs.length ≤ i) : zn zs i = 0 := by
  unfold zn; rw [List.getD_eq_getElem?_getD, List.getElem?_eq_none h]; rfl
set_option maxHeartbeats 1000000 in
theorem cost_walk (w : World) (v v' : Value) (zs ls : List Int) (m : Nat) (hm : m = min zs.length ls.length) (h : Is .i64 w v zs) (h' : Is .i64 w v' ls) : Calls Try.prog 15 #[v, v'] w fun e w' => e = .returned (.int .i64 (IntKind.i64.wrap (isum zs ls m))) ∧ ∃ n, w' = w.drewN n := by
  have HI := Lib.hid (fun i hi => h.at i hi)
  have HI' := Lib.hid (fun i hi => h'.at i hi)
  obtain ⟨a, cap, rfl, hl⟩ := h.sh
  obtain ⟨a', cap', rfl, hl'⟩ := h'.sh
  clear h h'
  by_cases hc : zs.length ≤ ls.length
  · obtain rfl : m = zs.length := by omega
    clear hm
    have hcz : (zs.length : Int) ≤ (ls.length : Int) := by omega
    go_enter Try.func15, Try.ntmps15
    go_wp2_with fail
    go_loopw [5, 12] (fun x i wr => ∃ (k : Nat) (y : Int), k ≤ zs.length ∧ i = .int .i64 k ∧ x = .int .i64 y ∧ Hid (y = IntKind.i64.wrap (isum zs ls k)) ∧ ∃ n, wr = w.drewN n) (fun _ i _ => zs.length - (intOf i).toNat)
    case atStart => exact ⟨0, 0, by omega, rfl, rfl, rfl, 0, rfl⟩
    case round =>
      obtain ⟨k, y, hk, rfl, rfl, HY, n, rfl⟩ := hrel
      by_cases hlt : k < zs.length
      · obtain ⟨b, off, cap1, hv, e1⟩ := HI.out k (by omega)
        simp only [Value.slice.injEq] at hv
        obtain ⟨rfl, h2, rfl⟩ := hv
        clear h2
        obtain ⟨b', off', cap1', hv, e2⟩ := HI'.out k (by omega)
        simp only [Value.slice.injEq] at hv
        obtain ⟨rfl, h2, rfl⟩ := hv
        clear h2
        have HS : Hid (IntKind.i64.wrap (y + IntKind.i64.wrap (zs[k] * ls[k])) = IntKind.i64.wrap (isum zs ls (k + 1))) := by
          unfold Hid; rw [HY.out, wrap_add2, isum, zn_get zs k (by omega), zn_get ls k (by omega)]
        generalize zs[k] = z at e1 HS
        generalize ls[k] = z' at e2 HS
        generalize hp : IntKind.i64.wrap (z * z') = p at HS
        generalize hy2 : IntKind.i64.wrap (y + p) = y2 at HS
        have k1 : k < zs.length := by omega
        have k2 : k < ls.length := by omega
        clear HY
        go_wp2_with fail
        go_quiet (fail)
        go_wp2_with fail
        go_roundw
        case rel => exact ⟨k + 1, y2, by omega, by go_num, rfl, HS.out, _, rfl⟩
        case measure => simp [intOf]; omega
      · obtain rfl : k = zs.length := by omega
        go_wp2_with fail
        go_ret
        exact ⟨by rw [← HY.out]; rfl, _, rfl⟩
  · obtain rfl : m = ls.length := by omega
    clear hm
    have hcz : ¬ (zs.length : Int) ≤ (ls.length : Int) := by omega
    have hcz2 : ls.length ≤ zs.length := by omega
    go_enter Try.func15, Try.ntmps15
    go_wp2_with fail
    go_loopw [5, 12] (fun x i wr => ∃ (k : Nat) (y : Int), k ≤ ls.length ∧ i = .int .i64 k ∧ x = .int .i64 y ∧ Hid (y = IntKind.i64.wrap (isum zs ls k)) ∧ ∃ n, wr = w.drewN n) (fun _ i _ => ls.length - (intOf i).toNat)
    case atStart => exact ⟨0, 0, by omega, rfl, rfl, rfl, 0, rfl⟩
    case round =>
      obtain ⟨k, y, hk, rfl, rfl, HY, n, rfl⟩ := hrel
      by_cases hlt : k < ls.length
      · obtain ⟨b, off, cap1, hv, e1⟩ := HI.out k (by omega)
        simp only [Value.slice.injEq] at hv
        obtain ⟨rfl, h2, rfl⟩ := hv
        clear h2
        obtain ⟨b', off', cap1', hv, e2⟩ := HI'.out k (by omega)
        simp only [Value.slice.injEq] at hv
        obtain ⟨rfl, h2, rfl⟩ := hv
        clear h2
        have HS : Hid (IntKind.i64.wrap (y + IntKind.i64.wrap (zs[k] * ls[k])) = IntKind.i64.wrap (isum zs ls (k + 1))) := by
          unfold Hid; rw [HY.out, wrap_add2, isum, zn_get zs k (by omega), zn_get ls k (by omega)]
        generalize zs[k] = z at e1 HS
        generalize ls[k] = z' at e2 HS
        generalize hp : IntKind.i64.wrap (z * z') = p at HS
        generalize hy2 : IntKind.i64.wrap (y + p) = y2 at HS
        have k1 : k < zs.length := by omega
        have k2 : k < ls.length := by omega
        clear HY
        go_wp2_with fail
        go_quiet (fail)
        go_wp2_with fail
        go_roundw
        case rel => exact ⟨k + 1, y2, by omega, by go_num, rfl, HS.out, _, rfl⟩
        case measure => simp [intOf]; omega
      · obtain rfl : k = ls.length := by omega
        go_wp2_with fail
        go_ret
        exact ⟨by rw [← HY.out]; rfl, _, rfl⟩
theorem lim_cost (w : World) (v v' : Value) (zs ls : List Int) (h : Is .i64 w v zs) (h' : Is .i64 w v' ls) : Calls Try.prog 15 #[v, v'] w fun e w' => e = .returned (.int .i64 (IntKind.i64.wrap (isum zs ls zs.length))) ∧ ∃ n, w' = w.drewN n := by
  rw [isum_stop zs ls (min zs.length ls.length) zs.length (by omega) (fun i hi => by
    by_cases e : zs.length ≤ i
    · rw [zn_out zs i e]; simp
    · rw [zn_out ls i (by omega)]; simp)]
  exact cost_walk w v v' zs ls _ rfl h h'
end Go.Proofs.Ytibhelfiibincaa
