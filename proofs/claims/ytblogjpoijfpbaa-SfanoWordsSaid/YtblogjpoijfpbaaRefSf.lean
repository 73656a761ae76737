/- The document's own answers of layer 6: May, two, Check. -/
import Derived.Test.YtblogjpoijfpbaaSfMath
import Derived.Test.YtblogjpoijfpbaaRefCan
import Derived.Test.YtblogjpoijfpbaaInts
namespace Go.Proofs.Ytblogjpoijfpbaa
set_option linter.unusedVariables false
set_option linter.unusedSimpArgs false
open Go.ChangeShapes Go.WideShapes Go.ChangeAt Go.RowKit

theorem sftwo_c (w : World) (n : Nat) (hn : n ≤ 32) : Calls Try.prog 36 #[.int .i64 n] w fun e w' => e = .returned (.int .i64 (2 ^ n : Nat)) ∧ ∃ n, w' = w.drewN n := by
  go_enter Try.func36, Try.ntmps36
  go_wp2_with fail
  go_loopw [3, 4] (fun x i wr => ∃ (k y : Nat), k ≤ n ∧ i = .int .i64 k ∧ x = .int .i64 y ∧ y ≤ 4294967296 ∧ Hid (y = 2 ^ k) ∧ ∃ m, wr = w.drewN m) (fun _ i _ => n - (intOf i).toNat)
  case atStart => exact ⟨0, 1, by omega, rfl, rfl, by omega, rfl, 0, rfl⟩
  case round =>
    obtain ⟨k, y, hk, rfl, rfl, hy, HY, m, rfl⟩ := hrel
    by_cases hlt : k < n
    · have h2 : Hid (y * 2 = 2 ^ (k + 1)) := by unfold Hid; rw [HY.out, Nat.pow_succ]
      have h3 : y * 2 ≤ 4294967296 := by rw [h2.out]; exact Nat.pow_le_pow_right (n := 2) (j := 32) (by decide) (by omega)
      go_wp2_with fail
      go_roundw
      case rel => exact ⟨k + 1, y * 2, by omega, by go_num, by go_num, h3, h2, _, rfl⟩
      case measure => simp [intOf]; omega
    · obtain rfl : k = n := by omega
      go_wp2_with fail
      go_ret
      exact ⟨by rw [HY.out]; rfl, _, rfl⟩
def mayS (zs : List Int) : Bool := decide (0 < zs.length) && (decide (zs.length ≤ 256) && zs.all fun z => decide (1 ≤ z) && decide (z ≤ 16))
theorem mayS_iff (zs : List Int) : mayS zs = true ↔ 0 < zs.length ∧ zs.length ≤ 256 ∧ ∀ z ∈ zs, 1 ≤ z ∧ z ≤ 16 := by simp [mayS]
theorem mayS_get {zs : List Int} (h : mayS zs = true) (i : Nat) (hi : i < zs.length) : zs[i] = ((len (Ln zs) i : Nat) : Int) ∧ 1 ≤ len (Ln zs) i ∧ len (Ln zs) i ≤ 16 := by
  have h1 := ((mayS_iff zs).1 h).2.2 zs[i] (List.getElem_mem hi)
  have h2 : len (Ln zs) i = zs[i].toNat := by rw [len_get _ _ (by rw [Ln_length]; exact hi)]; simp [Ln]
  omega
theorem bad_S {zs : List Int} (i : Nat) (hi : i < zs.length) (h : zs[i] < 1 ∨ 16 < zs[i]) : mayS zs = false := by
  rw [Bool.eq_false_iff]
  intro hm
  have := ((mayS_iff zs).1 hm).2.2 zs[i] (List.getElem_mem hi)
  omega
set_option maxHeartbeats 1000000 in
theorem sfmay_c (w : World) (v : Value) (zs : List Int) (h : Is .i64 w v zs) : Calls Try.prog 39 #[v] w fun e w' => e = .returned (.bool (mayS zs)) ∧ ∃ n, w' = w.drewN n := by
  have HI := Lib.hid (fun i hi => h.at i hi)
  have HM := Lib.hid (mayS_iff zs)
  obtain ⟨a, cap, rfl, hl⟩ := h.sh
  clear h
  go_enter Try.func39, Try.ntmps39
  go_wp2_with fail
  go_loopw [3] (fun i wr => ∃ j : Nat, j ≤ zs.length ∧ i = .int .i64 j ∧ Hid (∀ i (hi : i < zs.length), i < j → 1 ≤ zs[i] ∧ zs[i] ≤ 16) ∧ ∃ m, wr = w.drewN m) (fun i _ => zs.length - (intOf i).toNat)
  case atStart => exact ⟨0, by omega, rfl, fun i _ hi => by omega, 0, rfl⟩
  case round =>
    obtain ⟨j, hj, rfl, HR, m2, rfl⟩ := hrel
    by_cases hltj : j < zs.length
    · obtain ⟨b, off, cap', hv, e1⟩ := HI.out j hltj
      simp only [Value.slice.injEq] at hv
      obtain ⟨rfl, h2, rfl⟩ := hv
      clear h2
      by_cases hbad : zs[j] < 1 ∨ 16 < zs[j]
      · have hf := Lib.hid (bad_S j hltj hbad)
        generalize zs[j] = z at e1 hbad
        by_cases hneg : z < 1
        · clear hbad
          go_wp2_with fail
          go_ret
          exact ⟨by rw [hf.out]; rfl, _, rfl⟩
        · have : 16 < z := by omega
          clear hbad
          go_wp2_with fail
          go_ret
          exact ⟨by rw [hf.out]; rfl, _, rfl⟩
      · have HR2 : Hid (∀ i (hi : i < zs.length), i < j + 1 → 1 ≤ zs[i] ∧ zs[i] ≤ 16) := by
          intro i hi hij
          by_cases e : i = j
          · subst e; omega
          · exact HR.out i hi (by omega)
        have hz1 : ¬ zs[j] < 1 := by omega
        have hz2 : ¬ 16 < zs[j] := by omega
        generalize zs[j] = z at e1 hz1 hz2
        clear hbad
        go_wp2_with fail
        go_roundw
        case rel => exact ⟨j + 1, by omega, by go_num, HR2, _, rfl⟩
        case measure => simp [intOf]; omega
    · obtain rfl : j = zs.length := by omega
      have hall : ∀ z ∈ zs, 1 ≤ z ∧ z ≤ 16 := fun z hz => by
        obtain ⟨i, hi, rfl⟩ := List.getElem_of_mem hz
        exact HR.out i hi hi
      by_cases h0 : 0 < zs.length
      · by_cases h1 : zs.length ≤ 256
        · have hf := Lib.hid (HM.out.2 ⟨h0, h1, hall⟩)
          have d1 : decide ((zs.length : Int) ≤ 256) = true := by simp; omega
          clear HR hall
          go_wp2_with fail
          go_ret
          exact ⟨by rw [hf.out]; rfl, _, rfl⟩
        · have hf : Hid (mayS zs = false) := by unfold Hid; rw [Bool.eq_false_iff]; intro hm; have := (HM.out.1 hm).2.1; omega
          have d1 : decide ((zs.length : Int) ≤ 256) = false := by simp; omega
          clear HR hall
          go_wp2_with fail
          go_ret
          exact ⟨by rw [hf.out]; rfl, _, rfl⟩
      · have hf : Hid (mayS zs = false) := by unfold Hid; rw [Bool.eq_false_iff]; intro hm; have := (HM.out.1 hm).1; omega
        have hz : zs.length = 0 := by omega
        have d0 : decide ((0 : Int) < zs.length) = false := by rw [decide_eq_false_iff_not]; omega
        have d0' : decide (0 < zs.length) = false := by rw [decide_eq_false_iff_not]; omega
        clear HR hall h0 hj hz
        go_wp2_with fail
        go_ret
        exact ⟨by rw [hf.out]; rfl, _, rfl⟩
def schk (zs : List Int) : Nat := if mayS zs = false then 2 else if tot16 (Ln zs) = 65536 then 0 else 6
set_option maxRecDepth 100000 in
set_option maxHeartbeats 1000000 in
theorem sfcheck_c (w : World) (v : Value) (zs : List Int) (h : Is .i64 w v zs) : Calls Try.prog 35 #[v] w fun e w' => e = .returned (.int .i64 (schk zs)) ∧ ∃ n, w' = w.drewN n := by
  have HMY := Lib.hid (sfmay_c w v zs h)
  have HI := Lib.hid (fun i hi => h.at i hi)
  obtain ⟨a, cap, rfl, hl⟩ := h.sh
  clear h
  by_cases hm : mayS zs = true
  · have HG := Lib.hid (fun i hi => mayS_get hm i hi)
    have hlen := ((mayS_iff zs).1 hm).2.1
    have hs : Hid (schk zs = if tot16 (Ln zs) = 65536 then 0 else 6) := by unfold Hid schk; rw [hm]; rfl
    rw [hm] at HMY
    have hN := Ln_length zs
    have hT : Hid (tot16 (Ln zs) = sm (wd16 (Ln zs)) zs.length) := by unfold Hid tot16; rw [hN]
    clear hm
    generalize Ln zs = L at *
    clear hN
    have HTW := Lib.hid (fun w' n (hn : n ≤ 16) => sftwo_c w' n (by omega))
    go_enter Try.func35, Try.ntmps35
    go_wp2_with fail
    refine HMY.out.mono ?_; rintro e w1 ⟨rfl, m1, rfl⟩
    go_wp2_with fail
    go_loopw [3, 4] (fun x i wr => ∃ (k y : Nat), k ≤ zs.length ∧ i = .int .i64 k ∧ x = .int .i64 y ∧ y ≤ k * 65536 ∧ Hid (y = sm (wd16 L) k) ∧ ∃ n, wr = w.drewN n) (fun _ i _ => zs.length - (intOf i).toNat)
    case atStart => exact ⟨0, 0, by omega, rfl, rfl, by omega, rfl, _, rfl⟩
    case round =>
      obtain ⟨k, y, hk, rfl, rfl, hy, HY, n, rfl⟩ := hrel
      by_cases hlt : k < zs.length
      · obtain ⟨b, off, cap', hv, e1⟩ := HI.out k hlt
        simp only [Value.slice.injEq] at hv
        obtain ⟨rfl, h2, rfl⟩ := hv
        clear h2
        obtain ⟨g1, g2, g3⟩ := HG.out k hlt
        rw [g1] at e1
        clear g1
        have hS : Hid (y + 2 ^ (16 - len L k) = sm (wd16 L) (k + 1)) := by unfold Hid; rw [sm, HY.out]; rfl
        have hp : 2 ^ (16 - len L k) ≤ 65536 := Nat.pow_le_pow_right (n := 2) (j := 16) (by decide) (by omega)
        have hsub : IntKind.i64.wrap (16 - ((len L k : Nat) : Int)) = ((16 - len L k : Nat) : Int) := by rw [IntKind.wrap_i64]; omega
        have hsub2 : (16 - ((len L k : Nat) : Int)) = ((16 - len L k : Nat) : Int) := by omega
        have HT2 := Lib.hid (fun w' => HTW.out w' (16 - len L k) (by omega))
        generalize 16 - len L k = z at *
        generalize 2 ^ z = q at *
        generalize len L k = lk at *
        go_wp2_with fail
        refine (HT2.out _).mono ?_; rintro e w2 ⟨rfl, m2, rfl⟩
        go_wp2_with fail
        go_roundw
        case rel => exact ⟨k + 1, y + q, by omega, by go_num, by go_num, by omega, hS, _, rfl⟩
        case measure => simp [intOf]; omega
      · obtain rfl : k = zs.length := by omega
        rw [← HY.out] at hT
        by_cases he : y = 65536
        · rw [hT.out, if_pos he] at hs
          subst he
          clear hT HY
          go_wp2_with fail
          go_ret
          exact ⟨by rw [hs.out]; rfl, _, rfl⟩
        · rw [hT.out, if_neg he] at hs
          have hb : ((y : Int) != 65536) = true := by simp; omega
          have hb2 : ((y : Int) == 65536) = false := by simp; omega
          clear hT HY he hy
          go_wp2_with fail
          go_ret
          exact ⟨by rw [hs.out]; rfl, _, rfl⟩
  · have hf : mayS zs = false := by simpa using hm
    have hs : Hid (schk zs = 2) := by unfold Hid schk; rw [hf]; rfl
    rw [hf] at HMY
    clear hm hf
    go_enter Try.func35, Try.ntmps35
    go_wp2_with fail
    refine HMY.out.mono ?_; rintro e w1 ⟨rfl, m1, rfl⟩
    go_wp2_with fail
    go_ret
    exact ⟨by rw [hs.out]; rfl, _, rfl⟩
end Go.Proofs.Ytblogjpoijfpbaa
