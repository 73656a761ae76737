/- The document's own answers of layer 5: Used, May, Weight, Cost, two. -/
import Derived.Test.YtibhelfiibincaaLimBest
import Derived.Test.YtibhelfiibincaaInts
namespace Go.Proofs.Ytibhelfiibincaa
set_option linter.unusedVariables false
set_option linter.unusedSimpArgs false
open Go.ChangeShapes Go.WideShapes Go.ChangeAt Go.RowKit

theorem Is.drewN' {k : IntKind} {w : World} {v : Value} {zs : List Int} (h : Is k w v zs) (n : Nat) : Is k (w.drewN n) v zs := h.keep ((Keep.refl [] w).drewN _) (by simp)
/-- a list's numbers, by place -/
def fn (zs : List Int) (i : Nat) : Nat := (zs.getD i 0).toNat
theorem fn_get (zs : List Int) (i : Nat) (h : i < zs.length) : fn zs i = zs[i].toNat := by simp [fn, h]
def okF (zs : List Int) : Bool := zs.all fun z => decide (0 ≤ z) && decide (z ≤ 1099511627776)
theorem okF_iff (zs : List Int) : okF zs = true ↔ ∀ z ∈ zs, 0 ≤ z ∧ z ≤ 1099511627776 := by simp [okF]
theorem okF_get {zs : List Int} (h : okF zs = true) (i : Nat) (hi : i < zs.length) : zs[i] = ((fn zs i : Nat) : Int) ∧ fn zs i ≤ 1099511627776 := by
  have h1 := (okF_iff zs).1 h zs[i] (List.getElem_mem hi)
  rw [fn_get zs i hi]; omega
def mayF (zs : List Int) (most : Int) : Bool := decide (1 ≤ most) && (decide (most ≤ 16) && (decide (zs.length ≤ 4096) && (okF zs && decide (usedN zs.length (fn zs) ≤ 2 ^ most.toNat))))
theorem mayF_iff (zs : List Int) (most : Int) : mayF zs most = true ↔ 1 ≤ most ∧ most ≤ 16 ∧ zs.length ≤ 4096 ∧ okF zs = true ∧ usedN zs.length (fn zs) ≤ 2 ^ most.toNat := by simp [mayF]
theorem used_le (zs : List Int) (k : Nat) : ct (fun i => decide (fn zs i ≠ 0)) k ≤ k := ct_le _ _
theorem used_step (zs : List Int) (k : Nat) (h : k < zs.length) : ct (fun i => decide (fn zs i ≠ 0)) (k + 1) = ct (fun i => decide (fn zs i ≠ 0)) k + if 0 < zs[k] then 1 else 0 := by
  rw [ct_succ, fn_get zs k h]
  by_cases h0 : 0 < zs[k]
  · rw [if_pos h0, if_pos (by simp; omega)]
  · rw [if_neg h0, if_neg (by simp; omega)]
set_option maxHeartbeats 1000000 in
theorem refused_c (w : World) (v : Value) (zs : List Int) (h : Is .i64 w v zs) : Calls Try.prog 13 #[v] w fun e w' => e = .returned (.int .i64 (usedN zs.length (fn zs))) ∧ ∃ n, w' = w.drewN n := by
  have HI := Lib.hid (fun i hi => h.at i hi)
  obtain ⟨a, cap, rfl, hl⟩ := h.sh
  clear h
  go_enter Try.func13, Try.ntmps13
  go_wp2_with fail
  go_loopw [3, 4] (fun x i wr => ∃ (k y : Nat), k ≤ zs.length ∧ i = .int .i64 k ∧ x = .int .i64 y ∧ y ≤ k ∧ Hid (y = ct (fun i => decide (fn zs i ≠ 0)) k) ∧ ∃ n, wr = w.drewN n) (fun _ i _ => zs.length - (intOf i).toNat)
  case atStart => exact ⟨0, 0, by omega, rfl, rfl, by omega, rfl, 0, rfl⟩
  case round =>
    obtain ⟨k, y, hk, rfl, rfl, hy, HY, n, rfl⟩ := hrel
    by_cases hlt : k < zs.length
    · obtain ⟨b, off, cap', hv, e1⟩ := HI.out k hlt
      simp only [Value.slice.injEq] at hv
      obtain ⟨rfl, h2, rfl⟩ := hv
      clear h2
      have HS := Lib.hid (used_step zs k hlt)
      generalize zs[k] = z at e1 HS
      by_cases h0 : 0 < z
      · rw [if_pos h0] at HS
        go_wp2_with fail
        go_roundw
        case rel => exact ⟨k + 1, y + 1, by omega, by go_num, by go_num, by omega, by unfold Hid; rw [HS.out, HY.out], _, rfl⟩
        case measure => simp [intOf]; omega
      · rw [if_neg h0] at HS
        go_wp2_with fail
        go_roundw
        case rel => exact ⟨k + 1, y, by omega, by go_num, rfl, by omega, by unfold Hid; rw [HS.out, HY.out]; rfl, _, rfl⟩
        case measure => simp [intOf]; omega
    · obtain rfl : k = zs.length := by omega
      go_wp2_with fail
      go_ret
      exact ⟨by rw [HY.out]; rfl, _, rfl⟩
theorem reftwo_c (w : World) (n : Nat) (hn : n ≤ 32) : Calls Try.prog 26 #[.int .i64 n] w fun e w' => e = .returned (.int .i64 (2 ^ n : Nat)) ∧ ∃ n, w' = w.drewN n := by
  go_enter Try.func26, Try.ntmps26
  go_wp2_with fail
  go_loopw [3, 4] (fun x i wr => ∃ (k y : Nat), k ≤ n ∧ i = .int .i64 k ∧ x = .int .i64 y ∧ y ≤ 4294967296 ∧ Hid (y = 2 ^ k) ∧ ∃ m, wr = w.drewN m) (fun _ i _ => n - (intOf i).toNat)
  case atStart => exact ⟨0, 1, by omega, rfl, rfl, by omega, rfl, 0, rfl⟩
  case round =>
    obtain ⟨k, y, hk, rfl, rfl, hy, HY, m, rfl⟩ := hrel
    by_cases hlt : k < n
    · have h2 : Hid (y * 2 = 2 ^ (k + 1)) := by unfold Hid; rw [HY.out, Nat.pow_succ]
      have h3 : y * 2 ≤ 4294967296 := by rw [h2.out]; exact Nat.pow_le_pow_right (n := 2) (j := 32) (by decide) (by omega)
      go_wp2_with fail
      go_roundw
      case rel => exact ⟨k + 1, y * 2, by omega, by go_num, by go_num, h3, h2, _, rfl⟩
      case measure => simp [intOf]; omega
    · obtain rfl : k = n := by omega
      go_wp2_with fail
      go_ret
      exact ⟨by rw [HY.out]; rfl, _, rfl⟩
theorem bad_F {zs : List Int} (i : Nat) (hi : i < zs.length) (h : zs[i] < 0 ∨ 1099511627776 < zs[i]) : okF zs = false := by
  rw [Bool.eq_false_iff]
  intro hm
  have := (okF_iff zs).1 hm zs[i] (List.getElem_mem hi)
  omega
set_option maxRecDepth 100000 in
set_option maxHeartbeats 1000000 in
theorem refmay_c (w : World) (v : Value) (zs : List Int) (most : Int) (h : Is .i64 w v zs) : Calls Try.prog 10 #[v, .int .i64 most] w fun e w' => e = .returned (.bool (mayF zs most)) ∧ ∃ n, w' = w.drewN n := by
  have HU := Lib.hid (fun n => refused_c (w.drewN n) v zs (h.drewN' n))
  have HI := Lib.hid (fun i hi => h.at i hi)
  obtain ⟨a, cap, rfl, hl⟩ := h.sh
  have HM := Lib.hid (mayF_iff zs most)
  by_cases hlo : most < 1
  · have hf : Hid (mayF zs most = false) := by unfold Hid; rw [Bool.eq_false_iff]; intro hm; have := (HM.out.1 hm).1; omega
    clear h
    go_enter Try.func10, Try.ntmps10
    go_wp2
    go_ret
    exact ⟨by rw [hf.out]; rfl, 0, rfl⟩
  by_cases hhi : 16 < most
  · have hf : Hid (mayF zs most = false) := by unfold Hid; rw [Bool.eq_false_iff]; intro hm; have := (HM.out.1 hm).2.1; omega
    clear h
    go_enter Try.func10, Try.ntmps10
    go_wp2
    go_ret
    exact ⟨by rw [hf.out]; rfl, 0, rfl⟩
  obtain ⟨M, rfl⟩ : ∃ M : Nat, most = M := ⟨most.toNat, by omega⟩
  by_cases hbig : 4096 < zs.length
  · have hf : Hid (mayF zs M = false) := by unfold Hid; rw [Bool.eq_false_iff]; intro hm; have := (HM.out.1 hm).2.2.1; omega
    clear h
    go_enter Try.func10, Try.ntmps10
    go_wp2
    go_ret
    exact ⟨by rw [hf.out]; rfl, 0, rfl⟩
  clear h
  go_enter Try.func10, Try.ntmps10
  go_wp2_with fail
  go_loopw [5, 6] (fun x i wr => ∃ (k y : Nat), k ≤ M ∧ i = .int .i64 k ∧ x = .int .i64 y ∧ y ≤ 65536 ∧ Hid (y = 2 ^ k) ∧ ∃ m, wr = w.drewN m) (fun _ i _ => M - (intOf i).toNat)
  case atStart => exact ⟨0, 1, by omega, rfl, rfl, by omega, rfl, 0, rfl⟩
  case round =>
    obtain ⟨k, y, hk, rfl, rfl, hy, HY, m, rfl⟩ := hrel
    by_cases hlt : k < M
    · have h2 : Hid (y * 2 = 2 ^ (k + 1)) := by unfold Hid; rw [HY.out, Nat.pow_succ]
      have h3 : y * 2 ≤ 65536 := by rw [h2.out]; exact Nat.pow_le_pow_right (n := 2) (j := 16) (by decide) (by omega)
      go_wp2_with fail
      go_roundw
      case rel => exact ⟨k + 1, y * 2, by omega, by go_num, by go_num, h3, h2, _, rfl⟩
      case measure => simp [intOf]; omega
    · obtain rfl : k = M := by omega
      clear hlt
      go_wp2_with fail
      go_loopw [7] (fun i wr => ∃ j : Nat, j ≤ zs.length ∧ i = .int .i64 j ∧ Hid (∀ i (hi : i < zs.length), i < j → 0 ≤ zs[i] ∧ zs[i] ≤ 1099511627776) ∧ ∃ m, wr = w.drewN m) (fun i _ => zs.length - (intOf i).toNat)
      case atStart => exact ⟨0, by omega, rfl, fun i _ hi => by omega, _, rfl⟩
      case round =>
        obtain ⟨j, hj, rfl, HR, m2, rfl⟩ := hrel
        by_cases hltj : j < zs.length
        · obtain ⟨b, off, cap', hv, e1⟩ := HI.out j hltj
          simp only [Value.slice.injEq] at hv
          obtain ⟨rfl, h2, rfl⟩ := hv
          clear h2
          by_cases hbad : zs[j] < 0 ∨ 1099511627776 < zs[j]
          · have hf : Hid (mayF zs k = false) := by
              unfold Hid; rw [Bool.eq_false_iff]; intro hm
              have h1 := (HM.out.1 hm).2.2.2.1
              rw [bad_F j hltj hbad] at h1; simp at h1
            generalize zs[j] = z at e1 hbad
            by_cases hneg : z < 0
            · clear hbad
              go_wp2_with fail
              go_ret
              exact ⟨by rw [hf.out]; rfl, _, rfl⟩
            · have : 1099511627776 < z := by omega
              clear hbad
              go_wp2_with fail
              go_ret
              exact ⟨by rw [hf.out]; rfl, _, rfl⟩
          · have HR2 : Hid (∀ i (hi : i < zs.length), i < j + 1 → 0 ≤ zs[i] ∧ zs[i] ≤ 1099511627776) := by
              intro i hi hij
              by_cases e : i = j
              · subst e; omega
              · exact HR.out i hi (by omega)
            have hz1 : ¬ zs[j] < 0 := by omega
            have hz2 : ¬ 1099511627776 < zs[j] := by omega
            generalize zs[j] = z at e1 hz1 hz2
            clear hbad
            go_wp2_with fail
            go_roundw
            case rel => exact ⟨j + 1, by omega, by go_num, HR2, _, rfl⟩
            case measure => simp [intOf]; omega
        · obtain rfl : j = zs.length := by omega
          have hok : okF zs = true := (okF_iff zs).2 (fun z hz => by
            obtain ⟨i, hi, rfl⟩ := List.getElem_of_mem hz
            exact HR.out i hi hi)
          have hres : Hid (mayF zs k = decide ((usedN zs.length (fn zs) : Int) ≤ (y : Int))) := by
            unfold Hid
            rw [HY.out]
            by_cases h : usedN zs.length (fn zs) ≤ 2 ^ k
            · rw [(HM.out).2 ⟨by omega, by omega, by omega, hok, by simpa using h⟩]
              exact (decide_eq_true (Int.ofNat_le.2 h)).symm
            · have hf : mayF zs (k : Int) = false := by
                rw [Bool.eq_false_iff]; intro hm; exact h (by simpa using (HM.out.1 hm).2.2.2.2)
              rw [hf]
              exact (decide_eq_false (fun h2 => h (Int.ofNat_le.1 h2))).symm
          clear hok HR HI HY
          go_wp2_with fail
          refine (HU.out _).mono ?_; rintro e w3 ⟨rfl, m3, rfl⟩
          generalize usedN zs.length (fn zs) = u at *
          go_wp2_with fail
          go_ret
          rw [hres.out]
          exact ⟨by simp, _, rfl⟩
def isum (zs ls : List Int) : Nat → Int
  | 0 => 0
  | k + 1 => isum zs ls k + zn zs k * zn ls k
theorem wrap_add2 (a p : Int) : IntKind.i64.wrap (IntKind.i64.wrap a + IntKind.i64.wrap p) = IntKind.i64.wrap (a + p) := by
  simp only [IntKind.wrap_i64]; omega
set_option maxHeartbeats 1000000 in
theorem refcost_c (w : World) (v v' : Value) (zs ls : List Int) (h : Is .i64 w v zs) (h' : Is .i64 w v' ls) : Calls Try.prog 19 #[v, v'] w fun e w' => e = .returned (.int .i64 (IntKind.i64.wrap (isum zs ls zs.length))) ∧ ∃ n, w' = w.drewN n := by
  have HI := Lib.hid (fun i hi => h.at i hi)
  have HI' := Lib.hid (fun i hi => h'.at i hi)
  obtain ⟨a, cap, rfl, hl⟩ := h.sh
  obtain ⟨a', cap', rfl, hl'⟩ := h'.sh
  clear h h'
  go_enter Try.func19, Try.ntmps19
  go_wp2_with fail
  go_loopw [5, 6] (fun x i wr => ∃ (k : Nat) (y : Int), k ≤ zs.length ∧ i = .int .i64 k ∧ x = .int .i64 y ∧ Hid (y = IntKind.i64.wrap (isum zs ls k)) ∧ ∃ n, wr = w.drewN n) (fun _ i _ => zs.length - (intOf i).toNat)
  case atStart => exact ⟨0, 0, by omega, rfl, rfl, rfl, 0, rfl⟩
  case round =>
    obtain ⟨k, y, hk, rfl, rfl, HY, n, rfl⟩ := hrel
    by_cases hlt : k < zs.length
    · obtain ⟨b, off, cap1, hv, e1⟩ := HI.out k hlt
      simp only [Value.slice.injEq] at hv
      obtain ⟨rfl, h2, rfl⟩ := hv
      clear h2
      by_cases hlt2 : k < ls.length
      · obtain ⟨b', off', cap1', hv, e2⟩ := HI'.out k hlt2
        simp only [Value.slice.injEq] at hv
        obtain ⟨rfl, h2, rfl⟩ := hv
        clear h2
        have HS : Hid (IntKind.i64.wrap (y + IntKind.i64.wrap (zs[k] * ls[k])) = IntKind.i64.wrap (isum zs ls (k + 1))) := by
          unfold Hid; rw [HY.out, wrap_add2, isum, zn_get zs k hlt, zn_get ls k hlt2]
        generalize zs[k] = z at e1 HS
        generalize ls[k] = z' at e2 HS
        generalize hp : IntKind.i64.wrap (z * z') = p at HS
        generalize hy2 : IntKind.i64.wrap (y + p) = y2 at HS
        clear HY
        go_wp2_with fail
        go_quiet (fail)
        go_wp2_with fail
        go_roundw
        case rel => exact ⟨k + 1, y2, by omega, by go_num, rfl, HS.out, _, rfl⟩
        case measure => simp [intOf]; omega
      · have HS : Hid (y = IntKind.i64.wrap (isum zs ls (k + 1))) := by
          unfold Hid; rw [HY.out, isum]
          have : zn ls k = 0 := by unfold zn; rw [List.getD_eq_getElem?_getD, List.getElem?_eq_none (by omega)]; rfl
          rw [this]; simp
        clear HY
        go_wp2_with fail
        go_roundw
        case rel => exact ⟨k + 1, y, by omega, by go_num, rfl, HS, _, rfl⟩
        case measure => simp [intOf]; omega
    · obtain rfl : k = zs.length := by omega
      go_wp2_with fail
      go_ret
      exact ⟨by rw [HY.out]; rfl, _, rfl⟩
end Go.Proofs.Ytibhelfiibincaa
