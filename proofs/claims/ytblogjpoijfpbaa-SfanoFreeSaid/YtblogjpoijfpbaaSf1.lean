/- Contracts of sfano's mayBe, weight. -/
import Derived.Test.YtblogjpoijfpbaaRefSf
namespace Go.Proofs.Ytblogjpoijfpbaa
set_option linter.unusedVariables false
set_option linter.unusedSimpArgs false
open Go.ChangeShapes Go.WideShapes Go.ChangeAt Go.RowKit

theorem smaybe_c (w : World) (v : Value) (zs : List Int) (h : Is .i64 w v zs) : Calls Try.prog 31 #[v] w fun e w' => e = .returned (.bool (mayS zs)) ∧ ∃ n, w' = w.drewN n := by
  have HI := Lib.hid (fun i hi => h.at i hi)
  obtain ⟨a, cap, rfl, hl⟩ := h.sh
  clear h
  by_cases h0 : zs.length < 1
  · have hb : mayS zs = false := by rw [Bool.eq_false_iff]; intro hm; have := (mayS_iff zs).1 hm; omega
    rw [hb]
    have h0' : zs.length = 0 := by omega
    rw [h0']
    clear hb HI hl h0 h0'
    go_enter Try.func31, Try.ntmps31
    go_wp2
    go_ret
    exact ⟨rfl, 0, rfl⟩
  by_cases hbig : 256 < zs.length
  · have hb : mayS zs = false := by rw [Bool.eq_false_iff]; intro hm; have := (mayS_iff zs).1 hm; omega
    rw [hb]
    clear hb HI
    go_enter Try.func31, Try.ntmps31
    go_wp2
    go_ret
    exact ⟨rfl, 0, rfl⟩
  go_enter Try.func31, Try.ntmps31
  go_wp2_with fail
  go_loopw [15] (fun i wr => ∃ k : Nat, k ≤ zs.length ∧ i = .int .i64 k ∧ Hid (∀ j (hj : j < zs.length), j < k → 1 ≤ zs[j] ∧ zs[j] ≤ 16) ∧ ∃ n, wr = w.drewN n) (fun i _ => zs.length - (intOf i).toNat)
  case atStart => exact ⟨0, by omega, rfl, fun j _ hj => by omega, 0, rfl⟩
  case round =>
    obtain ⟨k, hk, rfl, HR, n, rfl⟩ := hrel
    by_cases hlt : k < zs.length
    · obtain ⟨b, off, cap', hv, e1⟩ := HI.out k hlt
      simp only [Value.slice.injEq] at hv
      obtain ⟨rfl, hvv, rfl⟩ := hv
      clear hvv
      by_cases hbad : zs[k] < 1 ∨ 16 < zs[k]
      · have hc := Lib.hid (bad_S k hlt hbad)
        generalize zs[k] = z at e1 hbad
        by_cases hneg : z < 1
        · clear hbad
          go_wp2_with fail
          go_ret
          exact ⟨by rw [hc.out]; rfl, _, rfl⟩
        · have : 16 < z := by omega
          clear hbad
          go_wp2_with fail
          go_ret
          exact ⟨by rw [hc.out]; rfl, _, rfl⟩
      · have HR2 : Hid (∀ j (hj : j < zs.length), j < k + 1 → 1 ≤ zs[j] ∧ zs[j] ≤ 16) := by
          intro j hj hjk
          by_cases e : j = k
          · subst e; omega
          · exact HR.out j hj (by omega)
        generalize zs[k] = z at e1 hbad
        have h1 : 1 ≤ z := by omega
        have h2 : z ≤ 16 := by omega
        clear hbad HR
        go_wp2_with fail
        go_roundw
        case rel => exact ⟨k + 1, by omega, by go_num, HR2, _, rfl⟩
        case measure => simp [intOf]; omega
    · obtain rfl : k = zs.length := by omega
      have hm : mayS zs = true := (mayS_iff zs).2 ⟨by omega, by omega, fun z hz => by
        obtain ⟨j, hj, rfl⟩ := List.getElem_of_mem hz
        exact HR.out j hj hj⟩
      have HM := Lib.hid hm
      clear hm HR
      go_wp2_with fail
      go_ret
      exact ⟨by rw [HM.out]; rfl, _, rfl⟩
theorem shl1 (z : Nat) (hz : z ≤ 16) : ((2 : Int) ^ z = ((2 ^ z : Nat) : Int)) ∧ 2 ^ z ≤ 65536 := ⟨by simp, Nat.pow_le_pow_right (n := 2) (j := 16) (by decide) hz⟩
theorem sweight_c (w : World) (v : Value) (zs : List Int) (h : Is .i64 w v zs) (hm : mayS zs = true) : Calls Try.prog 32 #[v] w fun e w' => e = .returned (.int .i64 (tot16 (Ln zs) : Nat)) ∧ ∃ n, w' = w.drewN n := by
  have HG := Lib.hid (fun i hi => mayS_get hm i hi)
  have hlen := ((mayS_iff zs).1 hm).2.1
  have hN := Ln_length zs
  have HI := Lib.hid (fun i hi => h.at i hi)
  have hT : Hid (tot16 (Ln zs) = sm (wd16 (Ln zs)) zs.length) := by unfold Hid tot16; rw [hN]
  obtain ⟨a, cap, rfl, hl⟩ := h.sh
  clear h hm
  generalize Ln zs = L at *
  clear hN
  go_enter Try.func32, Try.ntmps32
  go_wp2_with fail
  go_loopw [3, 8] (fun x i wr => ∃ (k y : Nat), k ≤ zs.length ∧ i = .int .i64 k ∧ x = .int .i64 y ∧ y ≤ k * 65536 ∧ Hid (y = sm (wd16 L) k) ∧ ∃ n, wr = w.drewN n) (fun _ i _ => zs.length - (intOf i).toNat)
  case atStart => exact ⟨0, 0, by omega, rfl, rfl, by omega, rfl, 0, rfl⟩
  case round =>
    obtain ⟨k, y, hk, rfl, rfl, hy, HY, n, rfl⟩ := hrel
    by_cases hlt : k < zs.length
    · obtain ⟨b, off, cap', hv, e1⟩ := HI.out k hlt
      simp only [Value.slice.injEq] at hv
      obtain ⟨rfl, h2, rfl⟩ := hv
      clear h2
      obtain ⟨g1, g2, g3⟩ := HG.out k hlt
      rw [g1] at e1
      clear g1
      have hS : Hid (y + 2 ^ (16 - len L k) = sm (wd16 L) (k + 1)) := by unfold Hid; rw [sm, HY.out]; rfl
      obtain ⟨p1, p2⟩ := shl1 (16 - len L k) (by omega)
      have hsub2 : (16 - ((len L k : Nat) : Int)) = ((16 - len L k : Nat) : Int) := by omega
      generalize 16 - len L k = z at *
      obtain ⟨q, hq0⟩ : ∃ q, 2 ^ z = q := ⟨_, rfl⟩
      rw [hq0] at p1 p2 hS
      have hq : IntKind.i64.wrap ((2 : Int) ^ z) = (q : Int) := by rw [p1, IntKind.wrap_i64]; omega
      clear p1 hq0
      generalize len L k = lk at *
      go_wp2_with fail
      go_roundw
      case rel => exact ⟨k + 1, y + q, by omega, by go_num, by go_num, by omega, hS, _, rfl⟩
      case measure => simp [intOf]; omega
    · obtain rfl : k = zs.length := by omega
      rw [← HY.out] at hT
      go_wp2_with fail
      go_ret
      exact ⟨by rw [hT.out]; rfl, _, rfl⟩
/-- how far the first row goes -/
structure RowN (zs : List Int) (n : Nat) : Prop where
  pos : 1 ≤ n
  le : n ≤ 16
  len : n ≤ zs.length
  same : ∀ i, i < n → zs[i]? = zs[0]?
  stop : n = zs.length ∨ n = 16 ∨ zs[n]? ≠ zs[0]?
set_option maxHeartbeats 1000000 in
theorem srow_c (w : World) (v : Value) (zs : List Int) (h : Is .i64 w v zs) (h0 : 0 < zs.length) (h256 : zs.length ≤ 256) : Calls Try.prog 38 #[v] w fun e w' => ∃ n : Nat, e = .returned (.int .i64 n) ∧ RowN zs n ∧ ∃ m, w' = w.drewN m := by
  have HI := Lib.hid (fun i hi => h.at i hi)
  obtain ⟨b, off, cap, hv, e0⟩ := h.at 0 h0
  subst hv
  rw [Nat.add_zero] at e0
  clear h
  have hmin : ((min zs.length 16 : Nat) : Int) = min (zs.length : Int) 16 := by omega
  go_enter Try.func38, Try.ntmps38
  go_wp2_with fail
  go_loopw [3] (fun i wr => ∃ n : Nat, 1 ≤ n ∧ n ≤ 16 ∧ n ≤ zs.length ∧ i = .int .i64 n ∧ Hid (∀ j, j < n → zs[j]? = zs[0]?) ∧ ∃ m, wr = w.drewN m) (fun i _ => 16 - (intOf i).toNat)
  case atStart => exact ⟨1, by omega, by omega, by omega, rfl, fun j hj => by rw [show j = 0 by omega], 0, rfl⟩
  case round =>
    obtain ⟨n, h1, h2, h3, rfl, HR, m, rfl⟩ := hrel
    clear hmin
    rcases Nat.lt_or_ge 16 zs.length with hbn | hbn
    · have hbi : (16 : Int) < zs.length := by omega
      by_cases hlt : n < 16
      · have hlt2 : n < zs.length := by omega
        obtain ⟨b', off', cap', hv, e1⟩ := HI.out n hlt2
        simp only [Value.slice.injEq, Option.some.injEq, Addr.mk.injEq, and_true] at hv
        obtain ⟨⟨rfl, rfl⟩, hx, rfl⟩ := hv
        clear hx
        have d1 : decide ((n : Int) < 16) = true := by rw [decide_eq_true_eq]; omega
        by_cases he : zs[n]'hlt2 = zs[0]
        · have HR2 : Hid (∀ j, j < n + 1 → zs[j]? = zs[0]?) := by
            intro j hj
            by_cases e : j = n
            · subst e; rw [List.getElem?_eq_getElem hlt2, List.getElem?_eq_getElem h0, he]
            · exact HR.out j (by omega)
          rw [he] at e1
          generalize zs[0] = z at *
          have n16 : n < 16 := by omega
          clear HR he HI hbn
          go_wp2_with fail
          go_quiet (fail)
          go_wp2_with fail
          go_roundw
          case rel => exact ⟨n + 1, by omega, by omega, by omega, by go_num, HR2, _, rfl⟩
          case measure => simp [intOf]; omega
        · have hS : Hid (RowN zs n) := ⟨h1, h2, h3, HR.out, .inr (.inr (by
            rw [List.getElem?_eq_getElem hlt2, List.getElem?_eq_getElem h0]; simpa using he))⟩
          have d2 : (zs[n]'hlt2 == zs[0]) = false := by simpa using he
          generalize zs[n]'hlt2 = z1 at *
          generalize zs[0] = z at *
          clear HR he HI hbn
          go_wp2_with fail
          go_quiet (fail)
          go_wp2_with fail
          go_ret
          exact ⟨n, rfl, hS.out, _, World.drewN_drewN _ _ _⟩
      · have hS : Hid (RowN zs n) := ⟨h1, h2, h3, HR.out, by omega⟩
        have d1 : decide ((n : Int) < 16) = false := by rw [decide_eq_false_iff_not]; omega
        clear HR HI hbn
        go_wp2_with fail
        go_quiet (fail)
        go_wp2_with fail
        go_ret
        exact ⟨n, rfl, hS.out, _, World.drewN_drewN _ _ _⟩
    · have hbi : ¬ (16 : Int) < zs.length := by omega
      by_cases hlt : n < zs.length
      · have hlt2 : n < zs.length := by omega
        obtain ⟨b', off', cap', hv, e1⟩ := HI.out n hlt2
        simp only [Value.slice.injEq, Option.some.injEq, Addr.mk.injEq, and_true] at hv
        obtain ⟨⟨rfl, rfl⟩, hx, rfl⟩ := hv
        clear hx
        have d1 : decide ((n : Int) < zs.length) = true := by rw [decide_eq_true_eq]; omega
        have d3 : decide (n < zs.length) = true := by rw [decide_eq_true_eq]; omega
        by_cases he : zs[n]'hlt2 = zs[0]
        · have HR2 : Hid (∀ j, j < n + 1 → zs[j]? = zs[0]?) := by
            intro j hj
            by_cases e : j = n
            · subst e; rw [List.getElem?_eq_getElem hlt2, List.getElem?_eq_getElem h0, he]
            · exact HR.out j (by omega)
          rw [he] at e1
          generalize zs[0] = z at *
          have n16 : n < 16 := by omega
          clear HR he HI hbn
          go_wp2_with fail
          go_quiet (fail)
          go_wp2_with fail
          go_roundw
          case rel => exact ⟨n + 1, by omega, by omega, by omega, by go_num, HR2, _, rfl⟩
          case measure => simp [intOf]; omega
        · have hS : Hid (RowN zs n) := ⟨h1, h2, h3, HR.out, .inr (.inr (by
            rw [List.getElem?_eq_getElem hlt2, List.getElem?_eq_getElem h0]; simpa using he))⟩
          have d2 : (zs[n]'hlt2 == zs[0]) = false := by simpa using he
          generalize zs[n]'hlt2 = z1 at *
          generalize zs[0] = z at *
          clear HR he HI hbn
          go_wp2_with fail
          go_quiet (fail)
          go_wp2_with fail
          go_ret
          exact ⟨n, rfl, hS.out, _, World.drewN_drewN _ _ _⟩
      · have hS : Hid (RowN zs n) := ⟨h1, h2, h3, HR.out, by omega⟩
        have d1 : decide ((n : Int) < zs.length) = false := by rw [decide_eq_false_iff_not]; omega
        have d3 : decide (n < zs.length) = false := by rw [decide_eq_false_iff_not]; omega
        clear HR HI hbn
        go_wp2_with fail
        go_quiet (fail)
        go_wp2_with fail
        go_ret
        exact ⟨n, rfl, hS.out, _, World.drewN_drewN _ _ _⟩
end Go.Proofs.Ytblogjpoijfpbaa
