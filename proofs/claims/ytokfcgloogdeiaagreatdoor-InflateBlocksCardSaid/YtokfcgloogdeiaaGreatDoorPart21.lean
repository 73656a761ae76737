/- Texts put together: DynRt DynRd DynRd2 DynRd3 -/
import Derived.Test.YtokfcgloogdeiaaGreatDoorPart14
import Derived.Test.YtokfcgloogdeiaaGreatDoorPart11
import Derived.Test.YtokfcgloogdeiaaGreatDoorPart17
import Derived.Lib.MinMax
import Derived.Test.YtokfcgloogdeiaaGreatDoorPart12
import Derived.BigRegion
import Derived.Test.YtokfcgloogdeiaaGreatDoorPart3
namespace Go.Proofs.YtokfcgloogdeiaaGreatDoor
set_option linter.unusedVariables false
set_option linter.unusedSimpArgs false
set_option maxRecDepth 100000
open Go.ChangeShapes Go.WideShapes Go.ChangeAt Go.RowKit

/-- the greatest of the first numbers -/
def mx (l : List Int) : Nat → Int
  | 0 => zn l 0
  | k + 1 => max (mx l k) (zn l (k + 1))
theorem mx_le (l : List Int) (k : Nat) (y : Int) : mx l k ≤ y ↔ ∀ j, j ≤ k → zn l j ≤ y := by
  induction k with
  | zero => exact ⟨fun h j hj => by obtain rfl : j = 0 := by omega
                                    exact h, fun h => h 0 (by omega)⟩
  | succ k ih =>
    rw [mx]
    constructor
    · intro h j hj
      by_cases e : j = k + 1
      · subst e; omega
      · exact ih.1 (by omega) j (by omega)
    · intro h
      have h1 := ih.2 (fun j hj => h j (by omega))
      have h2 := h (k + 1) (by omega)
      omega
theorem max_c (w : World) (v : Value) (l : List Int) (h : Is .i64 w v l) (h0 : 0 < l.length) : Calls Tryz.prog 111 #[v] w fun e w' => e = .returned (.int .i64 (mx l (l.length - 1))) ∧ ∃ n, w' = w.drewN n := by
  have hl := h.len
  have HI := Lib.hid (fun i hi => h.at i hi)
  have HZ := Lib.hid (zn_get l)
  obtain ⟨a, cap, rfl, _, _⟩ := h.shape
  obtain ⟨R, hR⟩ : ∃ R, mx l (l.length - 1) = R := ⟨_, rfl⟩
  have HR := Lib.hid hR
  rw [hR]
  clear hR h
  obtain ⟨b, off, cap', hv, e1⟩ := HI.out 0 h0
  simp only [Value.slice.injEq] at hv
  obtain ⟨rfl, hvv, rfl⟩ := hv
  clear hvv
  rw [Nat.add_zero] at e1
  have HS : Hid (l[0] = mx l 0) := (zn_get l 0 h0).symm
  rw [HS.out] at e1
  obtain ⟨m0, hm0⟩ : ∃ m, mx l 0 = m := ⟨_, rfl⟩
  rw [hm0] at e1
  have HM0 := Lib.hid hm0
  have h0z : (0 : Int) < (l.length : Int) := by omega
  have h0w : ¬ (l.length : Int) < 1 := by omega
  clear hm0
  go_enter Tryz.func111, Tryz.ntmps111
  go_wp2_with fail
  go_loopw [3, 4] (fun m i wr => ∃ (k : Nat) (y : Int), k < l.length ∧ m = .int .i64 y ∧ i = .int .i64 ((k + 1 : Nat) : Int) ∧ Hid (mx l k = y) ∧ ∃ n, wr = w.drewN n) (fun m i _ => l.length - (intOf i).toNat)
  case atStart => exact ⟨0, m0, h0, rfl, rfl, HM0, 0, rfl⟩
  case round =>
    obtain ⟨k, y, hk, rfl, rfl, HY, n, rfl⟩ := hrel
    by_cases hlt : k + 1 < l.length
    · obtain ⟨b', off', cap'', hv, e2⟩ := HI.out (k + 1) hlt
      simp only [Value.slice.injEq, Option.some.injEq, Addr.mk.injEq] at hv
      obtain ⟨⟨rfl, rfl, _⟩, _, rfl⟩ := hv
      have HS2 : Hid (mx l (k + 1) = max y l[k + 1]) := by
        unfold Hid; rw [mx, HY.out, zn_get l (k + 1) hlt]
      obtain ⟨z, hz⟩ : ∃ z, l[k + 1] = z := ⟨_, rfl⟩
      rw [hz] at e2 HS2
      obtain ⟨x, hx⟩ : ∃ x, max y z = x := ⟨_, rfl⟩
      rw [hx] at HS2
      clear hz HY
      go_wp2_with fail
      go_roundw
      case rel => exact ⟨k + 1, x, hlt, rfl, by go_num, HS2, _, rfl⟩
      case measure => simp [intOf]; omega
    · obtain rfl : k = l.length - 1 := by omega
      have e : y = R := by rw [← HY.out, HR.out]
      subst e
      have hnl : ¬ (((l.length - 1 + 1 : Nat) : Int) < (l.length : Int)) := by omega
      clear HY HR
      go_wp2_with fail
      go_ret
      exact ⟨rfl, _, rfl⟩
/-- a full code, or one word of one bit -/
def isC (l : List Int) : Bool := decide (chk l = 1) || (decide (chk l = 3) && decide (l.sum = 1))
theorem take_sum1 (l : List Int) (k : Nat) (h : k < l.length) : (l.take (k + 1)).sum = (l.take k).sum + l[k] := by
  rw [← List.take_append_getElem h, List.sum_append]; simp
theorem sum_in (l : List Int) (h : ∀ z ∈ l, 0 ≤ z ∧ z ≤ 16) : 0 ≤ l.sum ∧ l.sum ≤ 16 * l.length := by
  induction l with
  | nil => simp
  | cons z l ih =>
    have h1 := ih (fun x hx => h x (by simp [hx]))
    have h2 := h z (by simp)
    rw [List.sum_cons, List.length_cons]; omega
theorem sum_zero (l : List Int) (h : ∀ z ∈ l, 0 ≤ z) : 0 ≤ l.sum ∧ (l.sum = 0 ↔ l.countP (fun z => decide (0 < z)) = 0) ∧ l.countP (fun z => decide (z = 1)) ≤ l.countP (fun z => decide (0 < z)) := by
  induction l with
  | nil => simp
  | cons z l ih =>
    obtain ⟨h1, h2, h3⟩ := ih (fun x hx => h x (by simp [hx]))
    have hz := h z (by simp)
    rw [List.sum_cons, List.countP_cons, List.countP_cons]
    simp only [decide_eq_true_eq]
    split <;> split <;> omega
theorem sum_one (l : List Int) (h : ∀ z ∈ l, 0 ≤ z) : l.sum = 1 ↔ l.countP (fun z => decide (0 < z)) = 1 ∧ l.countP (fun z => decide (z = 1)) = 1 := by
  induction l with
  | nil => simp
  | cons z l ih =>
    have h0 := fun x hx => h x (List.mem_cons_of_mem z hx)
    have i1 := ih h0
    obtain ⟨h1, h2, h3⟩ := sum_zero l h0
    have hz := h z (by simp)
    rw [List.sum_cons, List.countP_cons, List.countP_cons]
    simp only [decide_eq_true_eq]
    split <;> split <;> omega
theorem wt_one (l : List Int) (h : ∀ z ∈ l, 0 ≤ z) (h0 : l.countP (fun z => decide (0 < z)) = 0) : wt (Ln l) = 0 := by
  induction l with
  | nil => rfl
  | cons z l ih =>
    rw [List.countP_cons] at h0
    have i1 := ih (fun x hx => h x (List.mem_cons_of_mem z hx)) (by omega)
    have hz := h z (by simp)
    have hz0 : z = 0 := by
      by_cases e : 0 < z
      · simp [e] at h0
      · omega
    subst hz0
    show ((Int.toNat 0 :: Ln l).map wt1).sum = 0
    rw [List.map_cons, List.sum_cons]
    show 0 + wt (Ln l) = 0
    omega
theorem wt_half (l : List Int) (h : ∀ z ∈ l, 0 ≤ z) (h0 : l.sum = 1) : wt (Ln l) = 32768 := by
  induction l with
  | nil => simp at h0
  | cons z l ih =>
    have h1 := fun x hx => h x (List.mem_cons_of_mem z hx)
    obtain ⟨a, b, c⟩ := sum_zero l h1
    have hz := h z (by simp)
    rw [List.sum_cons] at h0
    have e : wt (Ln (z :: l)) = wt1 z.toNat + wt (Ln l) := by
      show ((Int.toNat z :: Ln l).map wt1).sum = _
      rw [List.map_cons, List.sum_cons]; rfl
    rw [e]
    by_cases e0 : z = 0
    · subst e0
      rw [ih h1 (by omega)]; rfl
    · obtain rfl : z = 1 := by omega
      rw [wt_one l h1 (b.1 (by omega))]; rfl
/-- what isCode and Check tell of lengths is what the document asks -/
theorem isC_whole (l : List Int) (h : ∀ z ∈ l, 0 ≤ z ∧ z ≤ 15) (hl : l.length ≤ 4096) : isC l = whole17 l false ∧ (isC l || decide (chk l = 4)) = whole17 l true := by
  have h0 : ∀ z ∈ l, 0 ≤ z := fun z hz => (h z hz).1
  have hall : l.all (fun z => decide (0 ≤ z) && decide (z ≤ 15)) = true := by
    rw [List.all_eq_true]; intro z hz; have := h z hz; simp [this]
  have hmay : mayB l = true := (may_iff l).2 ⟨hl, fun z hz => by have := h z hz; omega⟩
  have h1 := sum_one l h0
  have hC : chk l = if wt (Ln l) = 0 then 4 else if 65536 < wt (Ln l) then 2 else if wt (Ln l) < 65536 then 3 else 1 := by unfold chk; rw [hmay]; rfl
  have hz := wt_one l h0
  have hh := wt_half l h0
  have hnz : l.countP (fun z => decide (0 < z)) ≠ 0 → wt (Ln l) ≠ 0 := fun hc he => by
    obtain ⟨z, hzl, hz0⟩ := List.countP_pos_iff.1 (Nat.pos_of_ne_zero hc)
    simp at hz0
    obtain ⟨i, hi, rfl⟩ := List.getElem_of_mem hzl
    have := wt_zero (Ln l) (may_Ln hmay) he i
    rw [len_get _ i (by rw [Ln_length]; exact hi)] at this
    have e : (Ln l)[i]'(by rw [Ln_length]; exact hi) = l[i].toNat := by simp [Ln]
    omega
  unfold isC whole17
  rw [hall]
  by_cases c0 : l.countP (fun z => decide (0 < z)) = 0
  · have e := hz c0
    rw [if_pos e] at hC
    rw [if_pos c0, if_pos c0, hC]
    exact ⟨rfl, rfl⟩
  · have e := hnz c0
    rw [if_neg e] at hC
    have h4 : chk l ≠ 4 := by rw [hC]; split <;> (try split) <;> omega
    rw [if_neg c0, if_neg c0, Bool.true_and, decide_eq_false h4, Bool.or_false]
    have key : (decide (chk l = 1) || (decide (chk l = 3) && decide (l.sum = 1))) = ((decide (l.countP (fun z => decide (0 < z)) = 1) && decide (l.countP (fun z => decide (z = 1)) = 1)) || decide (chk l = 1)) := by
      by_cases s1 : l.sum = 1
      · have hw := hh s1
        have h3 : chk l = 3 := by rw [hC, hw]; decide
        have := h1.1 s1
        rw [h3, decide_eq_true s1, decide_eq_true this.1, decide_eq_true this.2]; rfl
      · have : ¬ (l.countP (fun z => decide (0 < z)) = 1 ∧ l.countP (fun z => decide (z = 1)) = 1) := fun hc => s1 (h1.2 hc)
        rw [decide_eq_false s1, Bool.and_false, Bool.or_false, ← Bool.decide_and, decide_eq_false this, Bool.false_or]
    exact ⟨key, key⟩
theorem iscode_c (w : World) (v : Value) (l : List Int) (h : Is .i64 w v l) (hn : l.length ≤ 400) : Calls Tryz.prog 112 #[v] w fun e w' => e = .returned (.bool (isC l)) ∧ Keep [] w w' := by
  have HC := Lib.hid (can_check w v l h)
  have HIS := Lib.hid (fun w' (k : Keep [] w w') => h.keep k (by simp))
  obtain ⟨a, cap, rfl, _, _⟩ := h.shape
  obtain ⟨R, hR⟩ : ∃ R, isC l = R := ⟨_, rfl⟩
  have HR := Lib.hid hR
  rw [hR]
  clear hR h
  by_cases h1 : chk l = 1
  · have e : R = true := by rw [← HR.out]; unfold isC; rw [decide_eq_true h1]; rfl
    rw [h1] at HC
    subst e
    clear h1 HR HIS
    go_enter Tryz.func112, Tryz.ntmps112
    go_wp2_with fail
    refine HC.out.mono ?_; rintro e w1 ⟨rfl, k1⟩
    go_wp2_with fail
    go_ret
    exact ⟨rfl, k1⟩
  · by_cases h3 : chk l = 3
    · have e : decide (l.sum = 1) = R := by rw [← HR.out]; unfold isC; rw [h3]; rfl
      have hm : mayB l = true := by
        cases hm : mayB l with
        | true => rfl
        | false => rw [chk_bad hm] at h3; omega
      have HZ := Lib.hid ((may_iff l).1 hm).2
      have HE := Lib.hid e
      rw [h3] at HC
      clear h1 h3 e HR hm
      go_enter Tryz.func112, Tryz.ntmps112
      go_wp2_with fail
      refine HC.out.mono ?_; rintro e w1 ⟨rfl, k1⟩
      have HI := Lib.hid (fun i hi => (HIS.out w1 k1).at i hi)
      have HK := Lib.hid k1
      clear k1 HC HIS
      go_wp2_with fail
      go_loopw [3, 14] (fun s i wr => ∃ (k : Nat) (y : Int), k ≤ l.length ∧ s = .int .i64 y ∧ i = .int .i64 (k : Int) ∧ Hid ((l.take k).sum = y) ∧ ∃ n, wr = w1.drewN n) (fun s i _ => l.length - (intOf i).toNat)
      case atStart => exact ⟨0, 0, by omega, rfl, rfl, rfl, 0, rfl⟩
      case round =>
        obtain ⟨k, y, hk, rfl, rfl, HY, n, rfl⟩ := hrel
        by_cases hlt : k < l.length
        · obtain ⟨b', off', cap'', hv, e2⟩ := HI.out k hlt
          simp only [Value.slice.injEq] at hv
          obtain ⟨rfl, hvv, rfl⟩ := hv
          clear hvv
          have HS2 : Hid ((l.take (k + 1)).sum = y + l[k]) := by unfold Hid; rw [take_sum1 l k hlt, HY.out]
          have hb := sum_in (l.take k) (fun z hz => HZ.out z (List.mem_of_mem_take hz))
          rw [HY.out, List.length_take] at hb
          have hz := HZ.out l[k] (List.getElem_mem hlt)
          obtain ⟨z, hzz⟩ : ∃ z, l[k] = z := ⟨_, rfl⟩
          rw [hzz] at e2 HS2 hz
          have hwr : IntKind.i64.wrap (y + z) = y + z := by rw [IntKind.wrap_i64]; omega
          have hkz : (k : Int) < (l.length : Int) := by omega
          clear hzz HY hb hz
          go_wp2_with fail
          go_roundw
          case rel => exact ⟨k + 1, y + z, hlt, rfl, by go_num, HS2, _, rfl⟩
          case measure => simp [intOf]; omega
        · obtain rfl : k = l.length := by omega
          have e := HY.out
          rw [List.take_length] at e
          have hR2 : (y == 1) = R := by rw [← HE.out, e]; rfl
          have HR2 := Lib.hid hR2
          clear HY HE e hR2
          go_wp2_with fail
          go_ret
          exact ⟨by rw [HR2.out]; rfl, HK.out.drewN _⟩
    · have e : R = false := by rw [← HR.out]; unfold isC; rw [decide_eq_false h1, decide_eq_false h3]; rfl
      have b1 : (((chk l : Nat) : Int) == 1) = false := by simp; omega
      have b3 : (((chk l : Nat) : Int) == 3) = false := by simp; omega
      subst e
      generalize chk l = c at *
      clear h1 h3 HR HIS
      go_enter Tryz.func112, Tryz.ntmps112
      go_wp2_with fail
      refine HC.out.mono ?_; rintro e w1 ⟨rfl, k1⟩
      go_wp2_with fail
      go_ret
      exact ⟨rfl, k1⟩

theorem isC_whole' (l : List Int) (h : ∀ j, j < l.length → zn l j ≤ 15) (hl : l.length ≤ 4096) : isC l = whole17 l false ∧ (isC l || decide (chk l = 4)) = whole17 l true := by
  by_cases hn : ∀ z ∈ l, 0 ≤ z
  · refine isC_whole l (fun z hz => ⟨hn z hz, ?_⟩) hl
    obtain ⟨i, hi, rfl⟩ := List.getElem_of_mem hz
    have := h i hi
    rwa [zn_get l i hi] at this
  · have : ∃ z ∈ l, z < 0 := Classical.byContradiction fun hc => hn fun z hz => Classical.byContradiction fun h1 => hc ⟨z, hz, by omega⟩
    obtain ⟨z, hz, h0⟩ := this
    obtain ⟨i, hi, rfl⟩ := List.getElem_of_mem hz
    have hm := chk_bad (bad_at i hi (.inl h0))
    rw [whole17_bad l false i hi (.inl h0), whole17_bad l true i hi (.inl h0)]
    unfold isC
    rw [hm]; exact ⟨rfl, rfl⟩
theorem whole17_max (l : List Int) (b : Bool) (h0 : 0 < l.length) (h : ¬ mx l (l.length - 1) ≤ 15) : whole17 l b = false := by
  rw [mx_le] at h
  have : ∃ j, j < l.length ∧ 15 < zn l j := Classical.byContradiction fun hc => h fun j hj => Classical.byContradiction fun h1 => hc ⟨j, by omega, by omega⟩
  obtain ⟨j, hj, h1⟩ := this
  rw [zn_get l j hj] at h1
  exact whole17_bad l b j hj (.inr h1)
set_option maxHeartbeats 4000000 in
theorem dyn_right (w : World) (v1 v2 : Value) (l d : List Int) (large : Bool) (h1 : Is .i64 w v1 l) (h2 : Is .i64 w v2 d) : Calls Tryz.prog 98 #[v1, v2, .bool large] w fun e w' => e = .returned (.bool (right17 l d large)) ∧ Keep [] w w' := by
  have HD := Lib.hid (fun w => dcodes_c w large)
  obtain ⟨M, hM⟩ : ∃ M : Nat, (if large then 32 else 30) = M := ⟨_, rfl⟩
  have HRT : Hid (right17 l d large = (decide (257 ≤ l.length ∧ l.length ≤ 286 ∧ 1 ≤ d.length ∧ d.length ≤ M) && (decide (0 < l.getD 256 0) && (whole17 l false && whole17 d true)))) := by unfold Hid right17; rw [hM]
  have hM2 : M ≤ 32 := by rw [← hM]; split <;> omega
  rw [hM] at HD
  clear hM
  obtain ⟨R, hR⟩ : ∃ R, right17 l d large = R := ⟨_, rfl⟩
  rw [hR] at HRT ⊢
  clear hR
  have HI1 := Lib.hid (fun w' (k : Keep [] w w') => h1.keep k (by simp))
  have HI2 := Lib.hid (fun w' (k : Keep [] w w') => h2.keep k (by simp))
  obtain ⟨a1, c1, rfl, _, _⟩ := h1.shape
  obtain ⟨a2, c2, rfl, _, _⟩ := h2.shape
  have HX1 := Lib.hid (fun w' (k : Keep [] w w') (h0 : 0 < l.length) => max_c w' _ l (HI1.out w' k) h0)
  have HX2 := Lib.hid (fun w' (k : Keep [] w w') (h0 : 0 < d.length) => max_c w' _ d (HI2.out w' k) h0)
  have HQ1 := Lib.hid (fun w' (k : Keep [] w w') (h0 : l.length ≤ 400) => iscode_c w' _ l (HI1.out w' k) h0)
  have HQ2 := Lib.hid (fun w' (k : Keep [] w w') (h0 : d.length ≤ 400) => iscode_c w' _ d (HI2.out w' k) h0)
  have HK2 := Lib.hid (fun w' (k : Keep [] w w') => can_check w' _ d (HI2.out w' k))
  clear h1 h2
  by_cases hA : 257 ≤ l.length ∧ l.length ≤ 286 ∧ 1 ≤ d.length ∧ d.length ≤ M
  · rw [decide_eq_true hA] at HRT
    obtain ⟨g1, g2, g3, g4⟩ := hA
    have z1 : decide ((l.length : Int) ≤ 256) = false := by simp; omega
    have z2 : decide ((l.length : Int) > 286) = false := by simp; omega
    have z3 : decide ((d.length : Int) < 1) = false := by simp; omega
    have z4 : decide ((d.length : Int) > (M : Int)) = false := by simp; omega
    have HB1 := Lib.hid (whole17_max l false (by omega))
    have HB2 := Lib.hid (whole17_max d true (by omega))
    have HG1 : Hid (mx l (l.length - 1) ≤ 15 → isC l = whole17 l false) := fun h => (isC_whole' l (fun j hj => (mx_le l _ 15).1 h j (by omega)) (by omega)).1
    have HG2 : Hid (mx d (d.length - 1) ≤ 15 → (isC d || decide (chk d = 4)) = whole17 d true) := fun h => (isC_whole' d (fun j hj => (mx_le d _ 15).1 h j (by omega)) (by omega)).2
    obtain ⟨m1, hm1⟩ : ∃ m, mx l (l.length - 1) = m := ⟨_, rfl⟩
    obtain ⟨m2, hm2⟩ : ∃ m, mx d (d.length - 1) = m := ⟨_, rfl⟩
    obtain ⟨B1, hB1⟩ : ∃ m, isC l = m := ⟨_, rfl⟩
    obtain ⟨B2, hB2⟩ : ∃ m, isC d = m := ⟨_, rfl⟩
    obtain ⟨W1, hW1⟩ : ∃ m, whole17 l false = m := ⟨_, rfl⟩
    obtain ⟨W2, hW2⟩ : ∃ m, whole17 d true = m := ⟨_, rfl⟩
    obtain ⟨cd, hcd⟩ : ∃ m, chk d = m := ⟨_, rfl⟩
    have he : l.getD 256 0 = l[256] := by rw [List.getD_eq_getElem?_getD, List.getElem?_eq_getElem (by omega)]; rfl
    rw [hm1] at HX1 HB1 HG1
    rw [hm2] at HX2 HB2 HG2
    rw [hB1] at HG1 HQ1
    rw [hB2] at HG2 HQ2
    rw [hW1] at HG1 HRT HB1
    rw [hW2] at HG2 HRT HB2
    rw [hcd] at HG2 HK2
    rw [he] at HRT
    have HL := Lib.hid (fun w' k => (HI1.out w' k).at 256 (by omega))
    obtain ⟨z, hz⟩ : ∃ z, l[256] = z := ⟨_, rfl⟩
    rw [hz] at HL HRT
    clear hm1 hm2 hB1 hB2 hW1 hW2 hcd he hz HI1 HI2
    go_enter Tryz.func98, Tryz.ntmps98
    go_wp2_with fail
    refine (HD.out w).mono ?_; rintro e w1 ⟨rfl, rfl⟩
    go_wp2_with fail
    refine (HX1.out _ (Keep.refl _ _) (by omega)).mono ?_; rintro e w1 ⟨rfl, n1, rfl⟩
    by_cases q1 : m1 ≤ 15
    · have q1' : decide (m1 > 15) = false := by simp; omega
      have q1'' : decide (15 < m1) = false := by simp; omega
      go_wp2_with fail
      refine (HX2.out _ ((Keep.refl _ _).drewN n1) (by omega)).mono ?_; rintro e w2 ⟨rfl, n2, rfl⟩
      rw [World.drewN_drewN]
      by_cases q2 : m2 ≤ 15
      · have q2' : decide (m2 > 15) = false := by simp; omega
        have q2'' : decide (15 < m2) = false := by simp; omega
        obtain ⟨b, off, cap', hv, e2⟩ := HL.out _ ((Keep.refl [] w).drewN (n1 + n2))
        simp only [Value.slice.injEq] at hv
        obtain ⟨rfl, hvv, rfl⟩ := hv
        clear hvv HX1 HX2 HL HB1 HB2
        have hG1 := HG1.out q1
        have hG2 := HG2.out q2
        have h256 : (256 : Int) < (l.length : Int) := by omega
        by_cases q3 : 0 < z
        · have q3' : decide (z > 0) = true := by simp; omega
          have q3'' : decide (0 < z) = true := by simp; omega
          rw [q3''] at HRT
          have HW := Lib.hid hG2
          have HK := Lib.hid ((Keep.refl [] w).drewN (n1 + n2))
          generalize w.drewN (n1 + n2) = w2 at HK e2 ⊢
          clear hG2 HG1 HG2 HD
          cases B1 with
          | false =>
            have e : R = false := by rw [HRT.out, ← hG1]; rfl
            subst e
            clear HRT hG1 HW
            go_wp2_with fail
            refine (HQ1.out _ HK.out (by omega)).mono ?_; rintro e w3 ⟨rfl, k3⟩
            have K3 := HK.out.trans k3 (by simp)
            go_wp2_with fail
            go_ret
            exact ⟨rfl, K3⟩
          | true =>
            have e : R = W2 := by rw [HRT.out, ← hG1]; simp
            subst e
            clear HRT hG1
            go_wp2_with fail
            refine (HQ1.out _ HK.out (by omega)).mono ?_; rintro e w3 ⟨rfl, k3⟩
            have HK3 := Lib.hid (HK.out.trans k3 (by simp))
            clear k3 HQ1 HK
            go_wp2_with fail
            refine (HQ2.out _ HK3.out (by omega)).mono ?_; rintro e w4 ⟨rfl, k4⟩
            have HK4 := Lib.hid (HK3.out.trans k4 (by simp))
            clear k4 HQ2 HK3
            cases B2 with
            | true =>
              have e : R = true := by rw [← HW.out]; rfl
              subst e
              clear HW
              go_wp2_with fail
              go_ret
              exact ⟨rfl, HK4.out⟩
            | false =>
              have e : ((cd : Int) == 4) = R := by
                rw [← HW.out, Bool.false_or]
                by_cases h4 : cd = 4
                · subst h4; rfl
                · rw [decide_eq_false h4, beq_eq_false_iff_ne]; omega
              clear HW
              go_wp2_with fail
              refine (HK2.out _ HK4.out).mono ?_; rintro e w5 ⟨rfl, k5⟩
              have HK5 := Lib.hid (HK4.out.trans k5 (by simp))
              clear k5 HK2 HK4
              go_wp2_with fail
              go_ret
              exact ⟨rfl, HK5.out⟩
        · have q3' : decide (z > 0) = false := by simp; omega
          have q3'' : decide (0 < z) = false := by simp; omega
          rw [q3''] at HRT
          have e : R = false := by rw [HRT.out]; rfl
          subst e
          clear HG1 HG2 HRT hG1 hG2
          go_wp2_with fail
          go_ret
          exact ⟨rfl, (Keep.refl _ _).drewN _⟩
      · have q2' : decide (m2 > 15) = true := by simp; omega
        have q2'' : decide (15 < m2) = true := by simp; omega
        have e : R = false := by rw [HRT.out, HB2.out (by omega)]; simp
        subst e
        clear HG1 HG2 HRT HB1 HB2 HX1 HX2 HL
        go_wp2_with fail
        go_ret
        exact ⟨rfl, (Keep.refl _ _).drewN _⟩
    · have q1' : decide (m1 > 15) = true := by simp; omega
      have q1'' : decide (15 < m1) = true := by simp; omega
      have e : R = false := by rw [HRT.out, HB1.out (by omega)]; simp
      subst e
      clear HG1 HG2 HRT HB1 HB2 HX1 HX2 HL
      go_wp2_with fail
      go_ret
      exact ⟨rfl, (Keep.refl _ _).drewN _⟩
  · rw [decide_eq_false hA] at HRT
    have e : R = false := by rw [HRT.out]; rfl
    subst e
    clear HRT HX1 HX2 HQ1 HQ2 HK2 HI1 HI2
    by_cases g1 : l.length ≤ 256
    · have z1 : decide ((l.length : Int) ≤ 256) = true := by simp; omega
      clear hA
      go_enter Tryz.func98, Tryz.ntmps98
      go_wp2_with fail
      go_ret
      exact ⟨rfl, Keep.refl _ _⟩
    · by_cases g2 : 286 < l.length
      · have z1 : decide ((l.length : Int) ≤ 256) = false := by simp; omega
        have z2 : decide ((l.length : Int) > 286) = true := by simp; omega
        clear hA
        go_enter Tryz.func98, Tryz.ntmps98
        go_wp2_with fail
        go_ret
        exact ⟨rfl, Keep.refl _ _⟩
      · by_cases g3 : d.length < 1
        · have z1 : decide ((l.length : Int) ≤ 256) = false := by simp; omega
          have z2 : decide ((l.length : Int) > 286) = false := by simp; omega
          have z3 : decide ((d.length : Int) < 1) = true := by simp; omega
          clear hA
          go_enter Tryz.func98, Tryz.ntmps98
          go_wp2_with fail
          go_ret
          exact ⟨rfl, Keep.refl _ _⟩
        · have z1 : decide ((l.length : Int) ≤ 256) = false := by simp; omega
          have z2 : decide ((l.length : Int) > 286) = false := by simp; omega
          have z3 : decide ((d.length : Int) < 1) = false := by simp; omega
          have z4 : decide ((d.length : Int) > (M : Int)) = true := by simp; omega
          have z5 : (M : Int) < (d.length : Int) := by omega
          clear hA
          go_enter Tryz.func98, Tryz.ntmps98
          go_wp2_with fail
          refine (HD.out w).mono ?_; rintro e w1 ⟨rfl, rfl⟩
          go_wp2_with fail
          go_ret
          exact ⟨rfl, Keep.refl _ _⟩
end Go.Proofs.YtokfcgloogdeiaaGreatDoor
namespace Go.Proofs.YtokfcgloogdeiaaGreatDoor
set_option linter.unusedVariables false
set_option linter.unusedSimpArgs false
set_option maxRecDepth 100000
open Go.ChangeShapes Go.WideShapes Go.ChangeAt Go.RowKit

/-- for how many lengths a symbol stands at least, and how many bits say for how many more -/
def rpL (i : Nat) : Nat := if i = 2 then 11 else 3
def rpB (i : Nat) : Nat := if i = 0 then 2 else if i = 1 then 3 else 7
/-- the package's two tables lie as its text lays them -/
structure G17 (w : World) : Prop where
  order : ∀ i, i < 19 → w.cell? ⟨0, i, none⟩ = some (.int .i64 (ordD.getD i 0 : Nat))
  least : ∀ i, i < 3 → w.cell? ⟨1, 2 * i, none⟩ = some (.int .i64 (rpL i))
  bits : ∀ i, i < 3 → w.cell? ⟨1, 2 * i + 1, none⟩ = some (.int .i64 (rpB i))
theorem G17.keep {w w' : World} {S : List Nat} (h : G17 w) (k : Keep S w w') (h0 : 0 ∉ S) (h1 : 1 ∉ S) : G17 w' :=
  ⟨fun i hi => k.cell (h.order i hi) h0, fun i hi => k.cell (h.least i hi) h1, fun i hi => k.cell (h.bits i hi) h1⟩
theorem G17.lt {w : World} (h : G17 w) : 0 < w.heap.size ∧ 1 < w.heap.size :=
  ⟨World.block_lt_of_cell? w _ (h.order 0 (by decide)), World.block_lt_of_cell? w _ (h.least 0 (by decide))⟩
theorem repeatof_c (w : World) (h : G17 w) (i : Nat) (hi : i < 3) : Calls Tryz.prog 118 #[.int .i64 ((16 + i : Nat) : Int)] w fun e w' => e = .returned (.agg #[.int .i64 (rpL i), .int .i64 (rpB i)]) ∧ Keep [] w w' := by
  have hc : i = 0 ∨ i = 1 ∨ i = 2 := by omega
  have c1 : ∀ o, (w.alloc o).cell? ⟨1, 2 * i, none⟩ = some (.int .i64 (rpL i)) := fun o => (h.keep ((Keep.refl [] w).alloc o) (by simp) (by simp)).least i hi
  have c2 : ∀ o, (w.alloc o).cell? ⟨1, 2 * i + 1, none⟩ = some (.int .i64 (rpB i)) := fun o => (h.keep ((Keep.refl [] w).alloc o) (by simp) (by simp)).bits i hi
  clear h
  rcases hc with rfl | rfl | rfl
  all_goals
    simp only [rpL, rpB, if_true, if_false, Nat.reduceMul, Nat.reduceAdd, Nat.reduceEqDiff, Nat.mul_zero, Nat.zero_add] at c1 c2 ⊢
    go_enter Tryz.func118, Tryz.ntmps118
    go_wp2_with fail
    refine bodyPost_ret (results_cell_row rfl _ _ _ _ _ (0, 0) _ rfl (Blk.new w _ _) Tryz.underlying177 rfl (by kernel_rfl)) rfl ?_
    exact ⟨rfl, (Keep.refl [] w).alloc _⟩
/-- what is wrong with the third code's lengths -/
def thE (s : RS) (n : Nat) : Nat := if (th17 s n).2.E ≠ 0 then (th17 s n).2.E else if chk (th17 s n).1 ≠ 1 then 6 else 0
theorem th17_len' (s : RS) (k : Nat) : (th17 s k).1.length = 19 := by
  induction k with
  | zero => simp [th17]
  | succ k ih => rw [th17]; simp [ih]
set_option maxHeartbeats 8000000 in
theorem readthird_c (w : World) (q : Nat) (v : Value) (s : RS) (n : Nat) (hr : Rd w q v s) (hg : G17 w) (hq0 : 0 ≠ q) (hq1 : 1 ≠ q) (hn : n ≤ 19) : Calls Tryz.prog 95 #[.pointer (some ⟨q, 0, none⟩), .int .i64 n] w fun e w' =>
    ∃ p, e = .returned (.tuple #[.pointer p, .int .i64 (thE s n)]) ∧ Rd w' q v (th17 s n).2 ∧ Keep [q] w w' ∧ (thE s n = 0 → ∃ qd bs, p = some ⟨qd, 0, none⟩ ∧ Dec w' qd bs (Ln (th17 s n).1) ∧ ∀ b ∈ bs, w.heap.size ≤ b) := by
  have HRR := Lib.hid hr
  have HG := Lib.hid hg
  have HM : (Instr.makeSlice 38 (.int .i64 19) (.int .i64 19)).run Tryz.prog w = .ok (.slice (some ⟨w.heap.size, 0, none⟩) 19 19) (w.alloc (.cells (madeCells #[.int .i64 0] 19) 3)) := run_make_intsC w 19 19 (Nat.le_refl _) (by decide)
  have hO := OwnI.made w 19 (by decide)
  have hK := (Keep.refl [] w).alloc (.cells (madeCells #[.int .i64 0] 19) 3)
  obtain ⟨g, hgz⟩ : ∃ g, w.heap.size = g := ⟨_, rfl⟩
  have hqg : q < g := by have := hr.1.lt; omega
  have hvg : ∀ b, v.ownBlock = some b → b < g := fun b hb => by have := hr.2.1.lt b hb; omega
  have hgo := hg.lt
  rw [hgz] at HM hO hgo
  obtain ⟨wd, hwd⟩ : ∃ wd, w.alloc (.cells (madeCells #[.int .i64 0] 19) 3) = wd := ⟨_, rfl⟩
  rw [hwd] at HM hO hK
  have HRD : Hid (Rd wd q v s) := hr.keep hK (by simp) (by simp)
  have HKD : Hid (Keep [q] w wd) := hK.mono (by simp)
  have HGD : Hid (G17 wd) := hg.keep hK (by simp) (by simp)
  have HO := Lib.hid hO
  have HSZ : Hid (w.heap.size = g) := hgz
  have HQG := Lib.hid hqg
  have HVG := Lib.hid hvg
  have HGO := Lib.hid hgo
  have HQ0 := Lib.hid hq0
  have HQ1 := Lib.hid hq1
  have hlen := th17_len' s n
  obtain ⟨⟨T, s4⟩, htn⟩ : ∃ x, th17 s n = x := ⟨_, rfl⟩
  obtain ⟨te, hte⟩ : ∃ te, thE s n = te := ⟨_, rfl⟩
  have htE : te = if s4.E ≠ 0 then s4.E else if chk T ≠ 1 then 6 else 0 := by rw [← hte]; unfold thE; rw [htn]
  have HTE := Lib.hid htE
  have HTN := Lib.hid htn
  rw [htn] at hlen ⊢
  rw [hte]
  dsimp only at hlen ⊢
  clear hwd hO hK hgz hr hg hqg hvg hgo hq0 hq1 hte htE htn
  go_enter Tryz.func95, Tryz.ntmps95
  go_wp2_with fail
  go_loopw [11] (fun iv wr => ∃ k : Nat, k ≤ n ∧ iv = .int .i64 k ∧ Hid (Rd wr q v (th17 s k).2) ∧ Hid (OwnI wr (.slice (some ⟨g, 0, none⟩) 19 19) (th17 s k).1) ∧ Hid (Keep [q] w wr) ∧ Hid (G17 wr)) (fun iv _ => n - (intOf iv).toNat)
  case atStart => exact ⟨0, Nat.zero_le _, rfl, HRD, HO, HKD, HGD⟩
  case round =>
    clear HRD HO HKD HGD HM
    obtain ⟨k, hk, rfl, HR, HO, HKW, HGW⟩ := hrel
    by_cases hlt : k < n
    · have hk19 : k < 19 := by omega
      have c1 := HGW.out.order k hk19
      obtain ⟨y, hy⟩ : ∃ y, ordD.getD k 0 = y := ⟨_, rfl⟩
      have hy19 : y < 19 := by rw [← hy]; exact (ordI_at ⟨k, hk19⟩).2
      rw [hy] at c1
      have hth : th17 s (k + 1) = ((th17 s k).1.set y (((th17 s k).2.bits 3).1 : Int), ((th17 s k).2.bits 3).2) := by rw [th17, hy]
      have hx8 : ((th17 s k).2.bits 3).1 < 8 := (bits_lt17 _).2.1
      have HB := Lib.hid (fun wx (h : Rd wx q v (th17 s k).2) => bits_c wx q v (th17 s k).2 3 h)
      obtain ⟨⟨Tk, sk⟩, htk⟩ : ∃ x, th17 s k = x := ⟨_, rfl⟩
      have hlen : Tk.length = 19 := by have := th17_len' s k; rw [htk] at this; exact this
      rw [htk] at hth hx8 HB HR HO
      dsimp only at hth hx8 HB HR HO
      obtain ⟨⟨x, sn⟩, hbx⟩ : ∃ z, sk.bits 3 = z := ⟨_, rfl⟩
      rw [hbx] at hth hx8 HB
      dsimp only at hth hx8 HB
      have HTH := Lib.hid hth
      have HLEN := Lib.hid hlen
      have hwx : IntKind.i64.wrap (x : Int) = x := by rw [IntKind.wrap_i64]; omega
      have wfx : (Lit.int .i64 (x : Int)).wf = true := by simp [Lit.wf, IntKind.min, IntKind.max, IntKind.bits, IntKind.signed]; omega
      have WFX := Lib.hid wfx
      have hwk : IntKind.i64.wrap ((k : Int) + 1) = ((k + 1 : Nat) : Int) := by rw [IntKind.wrap_i64]; omega
      have hkz : (k : Int) < (n : Int) := by omega
      clear hy hth hbx htk hx8 hlen wfx
      go_wp2_with fail
      have HD : Hid (Rd wr.drew q v sk) := HR.out.drewN 1
      have HDB := Lib.hid (HB.out _ HD.out)
      have KD : Keep [] wr wr.drew := (Keep.refl [] wr).drew
      have HCELL : ∀ wx, Keep [q] wr.drew wx → wx.cell? ⟨g, y, none⟩ = some (.int .i64 (zn Tk y)) ∧ wx.frozen? ⟨g, y, none⟩ = false ∧ wx.cell? ⟨0, k, none⟩ = some (.int .i64 (y : Int)) := fun wx hk => by
        have ho := (HO.out.keep KD (by simp)).keep hk (fun b hb hm => by simp [Value.ownBlock] at hb hm; have := HQG.out; omega)
        exact ⟨ho.cell y (by rw [HLEN.out]; exact hy19), ho.free y, hk.cell (KD.cell c1 (by simp)) (by have := HQ0.out; simpa using this)⟩
      have HCE := Lib.hid HCELL
      have hy19i : (y : Int) < 19 := by omega
      have hk19i : (k : Int) < 19 := by omega
      have c1d := KD.cell c1 (by simp)
      clear HCELL
      go_region_with (first | (go_at_call 45; (refine HDB.out.mono ?_); (rintro e w2 ⟨rfl, hr2, k2⟩); (obtain ⟨d1, d2, d3⟩ := HCE.out w2 k2)))
      all_goals
        go_wp2_with fail
        have HFIN : Hid (Rd (w2.setCell ⟨g, y, none⟩ (.int .i64 x)) q v (th17 s (k + 1)).2 ∧ OwnI (w2.setCell ⟨g, y, none⟩ (.int .i64 x)) (.slice (some ⟨g, 0, none⟩) 19 19) (th17 s (k + 1)).1 ∧ Keep [q] w (w2.setCell ⟨g, y, none⟩ (.int .i64 x)) ∧ G17 (w2.setCell ⟨g, y, none⟩ (.int .i64 x))) := by
          have kg : Keep [g] w2 (w2.setCell ⟨g, y, none⟩ (.int .i64 x)) := (Keep.refl [g] w2).setCell (.inl (by simp)) _
          have hqg := HQG.out
          have hgo := HGO.out
          have hq0 := HQ0.out
          have hq1 := HQ1.out
          refine ⟨?_, ?_, ?_, ?_⟩
          · rw [HTH.out]
            exact hr2.keep kg (by simp; omega) (fun b hb => by have := HVG.out b hb; simp; omega)
          · rw [HTH.out]
            have ho := (HO.out.keep KD (by simp)).keep k2 (fun b hb hm => by simp [Value.ownBlock] at hb hm; omega)
            exact ho.store y x WFX.out
          · exact ((HKW.out.trans KD (by simp)).trans k2 (fun _ h => .inl h)).setCell (.inr (by have := HSZ.out; simp; omega)) _
          · exact ((HGW.out.keep KD (by simp) (by simp)).keep k2 (by simp; omega) (by simp; omega)).keep kg (by simp; omega) (by simp; omega)
        go_roundw
        case rel => exact ⟨k + 1, by omega, by first | rfl | simp, HFIN.out.1, HFIN.out.2.1, HFIN.out.2.2.1, HFIN.out.2.2.2⟩
        case measure => simp [intOf]; omega
    · obtain rfl : k = n := by omega
      have htk := HTN.out
      rw [htk] at HR HO
      dsimp only at HR HO
      have HE := Lib.hid (err_c wr q v s4 HR.out)
      have HCH := Lib.hid (can_check wr _ T HO.out.is)
      have HNW := Lib.hid (fun w' (k : Keep [] wr w') => can_new w' _ T (HO.out.is.keep k (by simp)))
      have HKR := Lib.hid (fun w' (k : Keep [] wr w') => HR.out.keep k (by simp) (by simp))
      clear htk
      obtain ⟨E4, hE4⟩ : ∃ E4, s4.E = E4 := ⟨_, rfl⟩
      obtain ⟨C4, hC4⟩ : ∃ C4, chk T = C4 := ⟨_, rfl⟩
      have hwe : C4 = 1 → werr T = 0 := fun h => by unfold werr; rw [hC4, h]; rfl
      have HWE := Lib.hid hwe
      rw [hE4] at HE HTE
      rw [hC4] at HCH HTE
      clear hE4 hC4 hwe HGW
      go_wp2_with fail
      refine HE.out.mono ?_; rintro e w1 ⟨rfl, rfl⟩
      by_cases hE0 : E4 = 0
      · subst hE0
        by_cases hc1 : C4 = 1
        · subst hc1
          have hte : te = 0 := by rw [HTE.out]; rfl
          subst hte
          go_wp2_with fail
          refine HCH.out.mono ?_; rintro e w2 ⟨rfl, k2⟩
          have hnw := HNW.out w2 k2
          rw [HWE.out trivial] at hnw
          have HN2 := Lib.hid hnw
          have HK2 : Hid (Keep [q] w w2) := HKW.out.trans k2 (by simp)
          have HK20 := Lib.hid k2
          clear hnw HWE HTE HCH HNW k2
          go_wp2_with fail
          refine HN2.out.mono ?_; rintro e w3 ⟨p, rfl, k3, -, hp⟩
          obtain ⟨qd, bs, rfl, hdec, hbs⟩ := hp trivial
          have HDEC := Lib.hid hdec
          have HR3 := Lib.hid (HKR.out w3 (HK20.out.trans k3 (by simp)))
          have HK3 : Hid (Keep [q] w w3) := HK2.out.trans k3 (by simp)
          have HBS : Hid (∀ b ∈ bs, w.heap.size ≤ b) := fun b hb => by have := hbs b hb; have := HK2.out.size; omega
          clear hp hdec hbs k3
          go_wp2_with fail
          go_ret2
          exact ⟨_, rfl, HR3.out, HK3.out, by first | exact fun _ => ⟨qd, bs, rfl, HDEC.out, HBS.out⟩ | exact ⟨qd, rfl, bs, HDEC.out, HBS.out⟩ | exact ⟨qd, bs, rfl, HDEC.out, HBS.out⟩⟩
        · have hte : te = 6 := by rw [HTE.out, if_neg (by simp), if_pos hc1]
          subst hte
          have b1 : ((C4 : Int) != 1) = true := by simp; omega
          clear HWE HTE HNW hc1
          go_wp2_with fail
          refine HCH.out.mono ?_; rintro e w2 ⟨rfl, k2⟩
          have HK2 : Hid (Keep [q] w w2) := HKW.out.trans k2 (by simp)
          have HR2 := Lib.hid (HKR.out w2 k2)
          clear k2
          go_wp2_with fail
          go_ret2
          exact ⟨_, rfl, HR2.out, HK2.out, fun h => by simp at h⟩
      · have hte : te = E4 := by rw [HTE.out, if_pos hE0]
        subst hte
        have b1 : ((te : Int) != 0) = true := by simp; omega
        have HE0 := Lib.hid hE0
        clear HTE HWE HNW HCH hE0
        go_wp2_with fail
        go_ret2
        exact ⟨_, rfl, HR.out, HKW.out, fun h => absurd h HE0.out⟩
/-- what a symbol of the third code stands for behind lengths: a length, how many times, what is wrong, the reader -/
def sm17 (LL : List Nat) (M : List Int) (s : RS) : Int × Nat × Nat × RS :=
  if (s.next LL).2.1 ≠ 0 then (0, 0, (s.next LL).2.1, (s.next LL).2.2)
  else if (s.next LL).1 < 16 then ((s.next LL).1, 1, 0, (s.next LL).2.2)
  else if (often17 (s.next LL).1 (s.next LL).2.2).2.E ≠ 0 then (0, 0, (often17 (s.next LL).1 (s.next LL).2.2).2.E, (often17 (s.next LL).1 (s.next LL).2.2).2)
  else if (s.next LL).1 ≠ 16 then (0, (often17 (s.next LL).1 (s.next LL).2.2).1, 0, (often17 (s.next LL).1 (s.next LL).2.2).2)
  else if M = [] then (0, 0, 7, (often17 (s.next LL).1 (s.next LL).2.2).2)
  else (M.getLastD 0, (often17 (s.next LL).1 (s.next LL).2.2).1, 0, (often17 (s.next LL).1 (s.next LL).2.2).2)
theorem next_E (LL : List Nat) (s : RS) (h : (s.next LL).2.1 = 0) : (s.next LL).2.2.E = 0 := by
  by_cases hE : s.E = 0
  · cases hp : pick LL (tr 16 (num s.l s.pos 16) 0) (min 16 s.left) with
    | some i => rw [RS.next_hit LL s hE i hp]; exact hE
    | none => rw [RS.next_none LL s hE hp]; exact hE
  · rw [RS.next_err LL s hE] at h; exact absurd h hE
/-- a round of both lists -/
theorem ls17_round (LL : List Nat) (N F : Nat) (M : List Int) (s : RS) (hL : ∀ x ∈ LL, x ≤ 16) (hLL : LL.length = 19) (h : M.length < N) : ls17 LL N (F + 1) M s =
    if (sm17 LL M s).2.2.1 ≠ 0 then ([], (sm17 LL M s).2.2.1, (sm17 LL M s).2.2.2) else if N - M.length < (sm17 LL M s).2.1 then ([], 4, (sm17 LL M s).2.2.2)
    else ls17 LL N F (M ++ List.replicate (sm17 LL M s).2.1 (sm17 LL M s).1) (sm17 LL M s).2.2.2 := by
  have hin := next_in LL hL s
  have hE := next_E LL s
  obtain ⟨⟨y, er, s2⟩, hnx⟩ : ∃ x, s.next LL = x := ⟨_, rfl⟩
  rw [hnx] at hin hE
  dsimp only at hin hE
  by_cases he : er = 0
  · subst he
    obtain ⟨i, hi, rfl⟩ := hin rfl
    have hE := hE rfl
    obtain ⟨⟨og, s3⟩, ho⟩ : ∃ x, often17 (i : Int) s2 = x := ⟨_, rfl⟩
    by_cases h16 : i < 16
    · have ho1 : often17 (i : Int) s2 = (1, s2) := by unfold often17; rw [if_neg (by omega), if_neg (by omega), if_neg (by omega)]
      have hs : sm17 LL M s = ((i : Int), 1, 0, s2) := by unfold sm17; rw [hnx]; dsimp only; rw [if_neg (by simp), if_pos (by omega)]
      rw [hs]
      dsimp only
      rw [if_neg (by simp), if_neg (by omega), ls17_go h hnx ho1 hE (by omega) (by omega), what17_zi M i (by omega) (by omega) (by omega)]
    · by_cases hs3 : s3.E = 0
      · by_cases h6 : i = 16
        · subst h6
          by_cases hm : M = []
          · have hs : sm17 LL M s = (0, 0, 7, s3) := by unfold sm17; rw [hnx]; dsimp only; rw [if_neg (by simp), if_neg (by omega), ho]; dsimp only; rw [if_neg (by omega), if_neg (by simp), if_pos hm]
            rw [hs]; dsimp only; rw [if_pos (by decide), ls17_code h hnx ho hs3 ⟨rfl, hm⟩]
          · have hs : sm17 LL M s = (M.getLastD 0, og, 0, s3) := by unfold sm17; rw [hnx]; dsimp only; rw [if_neg (by simp), if_neg (by omega), ho]; dsimp only; rw [if_neg (by omega), if_neg (by simp), if_neg hm]
            rw [hs]; dsimp only; rw [if_neg (by simp)]
            by_cases hf : N - M.length < og
            · rw [if_pos hf, ls17_form h hnx ho hs3 (fun hh => hm hh.2) hf]
            · rw [if_neg hf, ls17_go h hnx ho hs3 (fun hh => hm hh.2) hf, what17_z16]
        · have hs : sm17 LL M s = (0, og, 0, s3) := by unfold sm17; rw [hnx]; dsimp only; rw [if_neg (by simp), if_neg (by omega), ho]; dsimp only; rw [if_neg (by omega), if_pos (by omega)]
          rw [hs]; dsimp only; rw [if_neg (by simp)]
          have hw : what17 M (i : Int) = 0 := by unfold what17; rw [if_neg (by omega), if_pos (by omega)]
          by_cases hf : N - M.length < og
          · rw [if_pos hf, ls17_form h hnx ho hs3 (by omega) hf]
          · rw [if_neg hf, ls17_go h hnx ho hs3 (by omega) hf, hw]
      · have hs : sm17 LL M s = (0, 0, s3.E, s3) := by unfold sm17; rw [hnx]; dsimp only; rw [if_neg (by simp), if_neg (by omega), ho]; dsimp only; rw [if_pos hs3]
        rw [hs]; dsimp only; rw [if_pos hs3, ls17_err2 h hnx ho hs3]
  · have hs : sm17 LL M s = (0, 0, er, s2) := by unfold sm17; rw [hnx]; exact if_pos he
    rw [hs]; dsimp only; rw [if_pos he, ls17_err h hnx he]
theorem sm17_le (LL : List Nat) (M : List Int) (s : RS) : (sm17 LL M s).2.1 ≤ 138 := by
  unfold sm17
  have : ∀ y s, (often17 y s).1 ≤ 138 := fun y s => by
    obtain ⟨a, b, c⟩ := bits_lt17 s
    unfold often17
    repeat' split
    all_goals (dsimp only; omega)
  repeat' split
  all_goals first | (dsimp only; omega) | exact this _ _
theorem sm17_pos (LL : List Nat) (M : List Int) (s : RS) (h : (sm17 LL M s).2.2.1 = 0) : 1 ≤ (sm17 LL M s).2.1 := by
  unfold sm17 at h ⊢
  have : ∀ y s, 1 ≤ (often17 y s).1 := fun y s => by
    unfold often17
    repeat' split
    all_goals (dsimp only; omega)
  repeat' split
  all_goals first | exact this _ _ | simp_all
set_option maxHeartbeats 8000000 in
theorem readsome_c (w : World) (q : Nat) (v : Value) (s : RS) (qd : Nat) (bs LL : List Nat) (va : Value) (M : List Int) (hr : Rd w q v s) (hd : Dec w qd bs LL) (hqb : q ∉ bs) (hLL : LL.length = 19) (hg : G17 w) (hq0 : 0 ≠ q) (hq1 : 1 ≠ q) (hM : Is .i64 w va M) (hva : ∀ b, va.ownBlock = some b → b ≠ q) :
    Calls Tryz.prog 110 #[.pointer (some ⟨q, 0, none⟩), .pointer (some ⟨qd, 0, none⟩), va] w fun e w' => e = .returned (.tuple #[.int .i64 (sm17 LL M s).1, .int .i64 (sm17 LL M s).2.1, .int .i64 (sm17 LL M s).2.2.1]) ∧ Rd w' q v (sm17 LL M s).2.2.2 ∧ Keep [q] w w' := by
  have HIN := next_in LL (hd.ok).1 s
  have HNX := Lib.hid (can_next w qd q v s bs LL hd hr hqb)
  have HIS := Lib.hid (fun w' (k : Keep [q] w w') => hM.keep k (fun b hb hm => hva b hb (by simpa using hm)))
  have HGK := Lib.hid (fun w' (k : Keep [q] w w') => hg.keep k (by simpa using hq0) (by simpa using hq1))
  obtain ⟨R, hR⟩ : ∃ R, sm17 LL M s = R := ⟨_, rfl⟩
  rw [hR]
  unfold sm17 at hR
  obtain ⟨⟨y, er, s2⟩, hnx⟩ : ∃ x, s.next LL = x := ⟨_, rfl⟩
  rw [hnx] at HIN HNX hR
  dsimp only at HIN HNX hR
  have HQ : Hid (q < w.heap.size) := hr.1.lt
  obtain ⟨aa, cc, rfl, hml⟩ := hM.sh
  clear hr hd hqb hg hM hva hnx
  by_cases he : er = 0
  · subst he
    obtain ⟨i, hi, rfl⟩ := HIN rfl
    rw [if_neg (by simp)] at hR
    by_cases h16 : i < 16
    · rw [if_pos (by omega)] at hR
      subst hR
      have b1 : decide ((i : Int) < 16) = true := by simp; omega
      clear HIN
      go_enter Tryz.func110, Tryz.ntmps110
      go_wp2_with fail
      refine HNX.out.mono ?_; rintro e w1 ⟨rfl, hr1, k1⟩
      have HR1 := Lib.hid hr1
      have HK1 := Lib.hid k1
      clear hr1 k1 HNX
      go_wp2_with fail
      go_ret3
      exact ⟨rfl, HR1.out, HK1.out⟩
    · rw [if_neg (by omega)] at hR
      obtain ⟨j, rfl⟩ : ∃ j, i = 16 + j := ⟨i - 16, by omega⟩
      have hj : j < 3 := by omega
      have ho : often17 ((16 + j : Nat) : Int) s2 = (rpL j + (s2.bits (rpB j)).1, (s2.bits (rpB j)).2) := by
        have hc : j = 0 ∨ j = 1 ∨ j = 2 := by omega
        rcases hc with rfl | rfl | rfl <;> rfl
      have hlt := bits_lt17 s2
      have hle : (s2.bits (rpB j)).1 < 128 ∧ rpL j ≤ 11 := by
        have hc : j = 0 ∨ j = 1 ∨ j = 2 := by omega
        rcases hc with rfl | rfl | rfl
        · exact ⟨Nat.lt_of_lt_of_le hlt.1 (by decide), by decide⟩
        · exact ⟨Nat.lt_of_lt_of_le hlt.2.1 (by decide), by decide⟩
        · exact ⟨hlt.2.2, by decide⟩
      rw [ho] at hR
      have HRP := Lib.hid (fun w' (h : G17 w') => repeatof_c w' h j hj)
      have HBT := Lib.hid (fun w' (h : Rd w' q v s2) => bits_c w' q v s2 (rpB j) h)
      obtain ⟨bl, hbl⟩ : ∃ x, rpL j = x := ⟨_, rfl⟩
      obtain ⟨bb, hbb⟩ : ∃ x, rpB j = x := ⟨_, rfl⟩
      rw [hbl] at hR hle HRP
      rw [hbb] at hR hle HRP HBT
      obtain ⟨⟨x, s3⟩, hx⟩ : ∃ x, s2.bits (bb : Int) = x := ⟨_, rfl⟩
      rw [hx] at hR hle HBT
      dsimp only at hR hle HBT
      obtain ⟨og, hog⟩ : ∃ og, bl + x = og := ⟨_, rfl⟩
      rw [hog] at hR
      have hw1 : IntKind.i64.wrap (x : Int) = (x : Int) := by rw [IntKind.wrap_i64]; omega
      have hw2 : IntKind.i64.wrap ((bl : Int) + (x : Int)) = (og : Int) := by rw [IntKind.wrap_i64]; omega
      have b1 : decide (((16 + j : Nat) : Int) < 16) = false := by simp; omega
      have HRR := Lib.hid hR
      obtain ⟨i, hii⟩ : ∃ i, 16 + j = i := ⟨_, rfl⟩
      rw [hii] at HRP HNX HRR b1
      have hiz : (i : Int) ≠ 16 ↔ j ≠ 0 := by omega
      clear hR ho hlt hbl hbb hx HIN hi h16
      go_enter Tryz.func110, Tryz.ntmps110
      go_wp2_with fail
      refine HNX.out.mono ?_; rintro e w1 ⟨rfl, hr1, k1⟩
      have HR1 := Lib.hid hr1
      have HK1 := Lib.hid k1
      have HP := Lib.hid (HRP.out w1 (HGK.out w1 k1))
      clear hr1 k1 HNX HRP
      go_wp2_with fail
      refine HP.out.mono ?_; rintro e w2 ⟨rfl, k2⟩
      have HR2 : Hid (Rd w2 q v s2) := HR1.out.keep k2 (by simp) (by simp)
      have HK2 : Hid (Keep [q] w w2) := HK1.out.trans k2 (by simp)
      clear k2 HP HR1 HK1
      go_upto_region 7 with fail
      obtain ⟨g3, hg3⟩ : ∃ g3, w2.heap.size = g3 := ⟨_, rfl⟩
      have hbx := Blk.new w2 #[.int .i64 bl, .int .i64 bb] 177
      have hk3 := (Keep.refl [] w2).alloc (.cells #[.int .i64 bl, .int .i64 bb] 177)
      have HQG : Hid (q < g3) := by have := HQ.out; have := HK2.out.size; unfold Hid; omega
      rw [hg3] at hbx ⊢
      generalize w2.alloc (.cells #[.int .i64 bl, .int .i64 bb] 177) = w3 at hbx hk3 ⊢
      have HR3 : Hid (Rd w3 q v s2) := HR2.out.keep hk3 (by simp) (by simp)
      have HK3 : Hid (Keep [q] w w3) := HK2.out.trans hk3 (by simp)
      have KD : Keep [] w3 w3.drew := (Keep.refl [] w3).drew
      have HDB := Lib.hid (HBT.out w3.drew (HR3.out.drewN 1))
      have HCE : Hid (∀ wx, Keep [q] w3.drew wx → wx.cell? ⟨g3, 0, none⟩ = some (.int .i64 bl) ∧ wx.cell? ⟨g3, 1, none⟩ = some (.int .i64 bb)) := fun wx hk =>
        ⟨((hbx.keep KD (by simp)).keep hk (by have := HQG.out; simp; omega)).cell 0 _ rfl, ((hbx.keep KD (by simp)).keep hk (by have := HQG.out; simp; omega)).cell 1 _ rfl⟩
      obtain ⟨e1, e2⟩ := HCE.out _ (Keep.refl _ _)
      have HKD := Lib.hid KD
      clear hbx hk3 hg3 HR2 HK2 KD HBT HGK HR3
      go_cut [12] (fun tv wx => tv = .int .i64 og ∧ Rd wx q v s3 ∧ Keep [q] w wx)
      case first =>
        go_region_with (first | (go_at_call 45; (refine HDB.out.mono ?_); (rintro e w4 ⟨rfl, hr4, k4⟩); (obtain ⟨d1, d2⟩ := HCE.out w4 k4)))
        all_goals
          go_wp2_with fail
          go_meet
          exact ⟨rfl, hr4, (HK3.out.trans HKD.out (by simp)).trans k4 (fun _ h => .inl h)⟩
      case rest =>
      obtain ⟨rfl, hr4, hk4⟩ := hcut
      have HE := Lib.hid (err_c wc q v s3 hr4)
      have HR4 := Lib.hid hr4
      have HK4 := Lib.hid hk4
      have HI4 := Lib.hid (fun i hi => (HIS.out wc hk4).at i hi)
      obtain ⟨E3, hE3⟩ : ∃ E3, s3.E = E3 := ⟨_, rfl⟩
      rw [hE3] at HE HRR
      clear hr4 hk4 hE3 HIS HK3 HDB HCE HKD e1 e2
      go_wp2_with fail
      refine HE.out.mono ?_; rintro e w5 ⟨rfl, rfl⟩
      by_cases hE : E3 = 0
      · subst hE
        have hRR := HRR.out
        rw [if_neg (by simp)] at hRR
        by_cases hj0 : j = 0
        · subst hj0
          have b2 : ((i : Int) != 16) = false := by rw [bne_eq_false_iff_eq]; omega
          rw [if_neg (by omega)] at hRR
          obtain ⟨m, hm⟩ : ∃ m, M.length = m := ⟨_, rfl⟩
          by_cases hm0 : M = []
          · rw [if_pos hm0] at hRR
            have hm0' : m = 0 := by rw [← hm, hm0]; rfl
            have b3 : ((m : Int) == 0) = true := by simp; omega
            rw [hm]
            subst hRR
            clear HRR HI4 hm0 hm hm0'
            go_wp2_with fail
            go_ret3
            exact ⟨rfl, HR4.out, HK4.out⟩
          · rw [if_neg hm0] at hRR
            have hmp : 0 < M.length := List.length_pos_iff.2 hm0
            have b3 : ((m : Int) == 0) = false := by simp; omega
            obtain ⟨bk, off, cp, hv, hc⟩ := HI4.out (M.length - 1) (by omega)
            simp only [Value.slice.injEq] at hv
            obtain ⟨rfl, hvv, rfl⟩ := hv
            have hlast : M[M.length - 1]'(by omega) = M.getLastD 0 := by
              rw [List.getLastD_eq_getLast?, List.getLast?_eq_getElem?, List.getElem?_eq_getElem (by omega)]; rfl
            rw [hlast] at hc
            obtain ⟨z, hz⟩ : ∃ z, M.getLastD 0 = z := ⟨_, rfl⟩
            rw [hz] at hc hRR
            rw [hm] at hc hmp ⊢
            have hw3 : IntKind.i64.wrap ((m : Int) - 1) = ((m - 1 : Nat) : Int) := by rw [IntKind.wrap_i64]; omega
            have hlt : m - 1 < m := by omega
            have hltz : ((m - 1 : Nat) : Int) < (m : Int) := by omega
            subst hRR
            clear HRR HI4 hm0 hm hvv hlast hz
            go_wp2_with fail
            go_ret3
            exact ⟨rfl, HR4.out, HK4.out⟩
        · have b2 : ((i : Int) != 16) = true := by rw [bne_iff_ne]; omega
          rw [if_pos (by omega)] at hRR
          subst hRR
          clear HRR HI4
          go_wp2_with fail
          go_ret3
          exact ⟨rfl, HR4.out, HK4.out⟩
      · have hRR := HRR.out
        rw [if_pos hE] at hRR
        have b2 : ((E3 : Int) != 0) = true := by simp; omega
        subst hRR
        clear HRR HI4 hE
        go_wp2_with fail
        go_ret3
        exact ⟨rfl, HR4.out, HK4.out⟩
  · rw [if_pos he] at hR
    subst hR
    have b1 : ((er : Int) != 0) = true := by simp; omega
    clear HIN he
    go_enter Tryz.func110, Tryz.ntmps110
    go_wp2_with fail
    refine HNX.out.mono ?_; rintro e w1 ⟨rfl, hr1, k1⟩
    have HR1 := Lib.hid hr1
    have HK1 := Lib.hid k1
    clear hr1 k1 HNX
    go_wp2_with fail
    go_ret3
    exact ⟨rfl, HR1.out, HK1.out⟩
end Go.Proofs.YtokfcgloogdeiaaGreatDoor
namespace Go.Proofs.YtokfcgloogdeiaaGreatDoor
set_option linter.unusedVariables false
set_option linter.unusedSimpArgs false
set_option maxRecDepth 100000
open Go.ChangeShapes Go.WideShapes Go.ChangeAt Go.RowKit

/-- a reader and a row of one's own, since w -/
structure UnR (w : World) (q : Nat) (v : Value) (s : RS) (l : Value) (L : List Int) (wr : World) : Prop where
  rd : Rd wr q v s
  own : OwnI wr l L
  keep : Keep [q] w wr
  bb : ∀ x, l.ownBlock = some x → w.heap.size ≤ x
theorem sm17_wf (LL : List Nat) (hL : ∀ x ∈ LL, x ≤ 16) (M : List Int) (s : RS) (hM : ∀ z ∈ M, (Lit.int .i64 z).wf = true) (h : (sm17 LL M s).2.2.1 = 0) : (Lit.int .i64 (sm17 LL M s).1).wf = true := by
  have hin := next_in LL hL s
  unfold sm17 at h ⊢
  by_cases he : (s.next LL).2.1 = 0
  · rw [if_neg (by simpa using he)] at h ⊢
    obtain ⟨i, hi, e⟩ := hin he
    by_cases h16 : (s.next LL).1 < 16
    · rw [if_pos h16]; rw [e] at h16 ⊢
      simp [Lit.wf, IntKind.min, IntKind.max, IntKind.bits, IntKind.signed]; omega
    · rw [if_neg h16] at h ⊢
      split
      · rename_i g; rw [if_pos g] at h; exact absurd h g
      · split
        · show (Lit.int .i64 0).wf = true; decide
        · split
          · show (Lit.int .i64 0).wf = true; decide
          · rename_i g
            obtain ⟨z, hz⟩ : ∃ z, M.getLast? = some z := by cases M with | nil => exact absurd rfl g | cons a M => exact ⟨_, List.getLast?_eq_some_getLast (by simp)⟩
            show (Lit.int .i64 (M.getLastD 0)).wf = true
            rw [List.getLastD_eq_getLast?, hz]
            exact hM z (List.mem_of_getLast? hz)
  · rw [if_pos (by simpa using he)] at h; exact absurd h he
set_option maxHeartbeats 8000000 in
theorem readboth_c (w : World) (q : Nat) (v : Value) (s : RS) (qd : Nat) (bs LL : List Nat) (N : Nat) (hr : Rd w q v s) (hd : Dec w qd bs LL) (hqb : q ∉ bs) (hLL : LL.length = 19) (hg : G17 w) (hq0 : 0 ≠ q) (hq1 : 1 ≠ q) (hN : N ≤ 400) :
    Calls Tryz.prog 96 #[.pointer (some ⟨q, 0, none⟩), .pointer (some ⟨qd, 0, none⟩), .int .i64 N] w fun e w' => ∃ v', e = .returned (.tuple #[v', .int .i64 (ls17 LL N (N + 1) [] s).2.1]) ∧ OwnI w' v' (ls17 LL N (N + 1) [] s).1 ∧ Rd w' q v (ls17 LL N (N + 1) [] s).2.2 ∧ Keep [q] w w' ∧ ∀ b, v'.ownBlock = some b → w.heap.size ≤ b := by
  obtain ⟨R, hR⟩ : ∃ R, ls17 LL N (N + 1) [] s = R := ⟨_, rfl⟩
  rw [hR]
  have HR := Lib.hid hR
  have hL16 := (hd.ok).1
  have HL16 := Lib.hid hL16
  have HVL : Hid (∀ b, v.ownBlock = some b → b < w.heap.size) := fun b hb => hr.2.1.lt b hb
  have HQ : Hid (q < w.heap.size) := hr.1.lt
  have HSM := Lib.hid (fun W sk (hR : Rd W q v sk) (hk : Keep [q] w W) va M (hM : Is .i64 W va M) (hva : ∀ b, va.ownBlock = some b → b ≠ q) => readsome_c W q v sk qd bs LL va M hR (hd.keep hk (fun b hb hm => by simp at hm; subst hm; exact hqb hb)) hqb hLL (hg.keep hk (by simpa using hq0) (by simpa using hq1)) hq0 hq1 hM hva)
  have HLR := Lib.hid (fun F M sk => ls17_round LL N F M sk hL16 hLL)
  have hmk := run_make_intsC w 0 N (Nat.zero_le _) (by omega)
  have hO := OwnI.made0 w N (by omega)
  have hK := (Keep.refl [] w).alloc (.cells (madeCells #[.int .i64 0] N) 3)
  obtain ⟨g, hgz⟩ : ∃ g, w.heap.size = g := ⟨_, rfl⟩
  rw [hgz] at hmk hO
  obtain ⟨wd, hwd⟩ : ∃ wd, w.alloc (.cells (madeCells #[.int .i64 0] N) 3) = wd := ⟨_, rfl⟩
  rw [hwd] at hmk hO hK
  have hS0 : Hid (UnR w q v s (.slice (some ⟨g, 0, none⟩) 0 N) [] wd) := ⟨hr.keep hK (by simp) (by simp), hO, hK.mono (by simp), fun x hx => by simp [Value.ownBlock] at hx; omega⟩
  have hmk' : (Instr.makeSlice 38 (.int .i64 0) (.int .i64 (N : Int))).run Tryz.prog w = .ok (.slice (some ⟨g, 0, none⟩) 0 N) wd := hmk
  clear hr hR hd hqb hg hL16 hO hK hwd hgz hmk hq0 hq1
  go_enter Tryz.func96, Tryz.ntmps96
  go_wp2_with fail
  clear hmk'
  go_loopw [8] (fun al wr => ∃ (M : List Int) (sk : RS) (F : Nat) (a : Option Addr) (c : Nat), al = .slice a M.length c ∧ Hid (UnR w q v sk (.slice a M.length c) M wr) ∧ Hid (ls17 LL N F M sk = R) ∧ N + 1 ≤ F + M.length ∧ M.length ≤ N) (fun al _ => match al with | .slice _ n _ => N - n | _ => 0)
  case atStart => exact ⟨[], s, N + 1, some ⟨g, 0, none⟩, N, rfl, hS0, HR, by simp, by simp⟩
  case round =>
    clear hS0
    obtain ⟨M, sk, F1, a, c, rfl, HS, HRk, hF, hM⟩ := hrel
    obtain ⟨m, hm⟩ : ∃ m, M.length = m := ⟨_, rfl⟩
    by_cases hlt : m < N
    · obtain ⟨F, rfl⟩ : ∃ F, F1 = F + 1 := ⟨F1 - 1, by omega⟩
      have t0 : decide (m < N) = true := by simpa using hlt
      have hRR := HRk.out
      rw [HLR.out F M sk (by omega)] at hRR
      have hle := sm17_le LL M sk
      have hpos := sm17_pos LL M sk
      have hwf := sm17_wf LL HL16.out M sk HS.out.own.2
      have hcall := HSM.out wr sk HS.out.rd HS.out.keep _ M HS.out.own.is (fun b hb => by have := HS.out.bb b hb; have := HQ.out; omega)
      obtain ⟨⟨y, og, er, s3⟩, hsm⟩ : ∃ x, sm17 LL M sk = x := ⟨_, rfl⟩
      rw [hsm] at hRR hle hpos hwf hcall
      dsimp only at hRR hle hpos hwf hcall
      rw [hm] at HS hcall hRR hF hM ⊢
      have HCALL := Lib.hid hcall
      have HM := Lib.hid hm
      have HPOS := Lib.hid hpos
      have HWF := Lib.hid hwf
      have HRR := Lib.hid hRR
      clear hcall hsm hm hRR hpos hwf HRk
      go_wp2_with fail
      refine HCALL.out.mono ?_; rintro e w2 ⟨rfl, hr2, hk2⟩
      have K2 : Keep [q] w w2 := HS.out.keep.trans hk2 (fun b hb => .inl hb)
      have hO2 := HS.out.own.keep hk2 (fun b hb hm => by have := HS.out.bb b hb; have := HQ.out; simp at hm; omega)
      have HS2 : Hid (UnR w q v s3 (.slice a m c) M w2) := ⟨hr2, hO2, K2, HS.out.bb⟩
      clear hr2 hk2 HS K2 hO2 HCALL
      by_cases he : er = 0
      · subst he
        have HO1 := Lib.hid (HPOS.out rfl)
        have HWF0 := Lib.hid (HWF.out rfl)
        have hRR := HRR.out
        rw [if_neg (by simp)] at hRR
        clear HPOS HWF HRR
        by_cases hf : N - m < og
        · rw [if_pos hf] at hRR
          have t8 : decide ((og : Int) > (N : Int) - (m : Int)) = true := decide_eq_true (by omega)
          have t8' : decide ((N : Int) - (m : Int) < (og : Int)) = true := decide_eq_true (by omega)
          have hw8 : IntKind.i64.wrap ((N : Int) - (m : Int)) = (N : Int) - (m : Int) := by rw [IntKind.wrap_i64]; omega
          have HRR := Lib.hid hRR
          clear hRR hf
          go_wp2_with fail
          go_ret2
          rw [← HRR.out]
          exact ⟨_, rfl, OwnI.nil _, HS2.out.rd, HS2.out.keep, by simp [Value.ownBlock]⟩
        · rw [if_neg hf] at hRR
          have t8 : decide ((og : Int) > (N : Int) - (m : Int)) = false := decide_eq_false (by omega)
          have t8' : decide ((N : Int) - (m : Int) < (og : Int)) = false := decide_eq_false (by omega)
          have hw8 : IntKind.i64.wrap ((N : Int) - (m : Int)) = (N : Int) - (m : Int) := by rw [IntKind.wrap_i64]; omega
          have HRR := Lib.hid hRR
          have HOG : Hid (m + og ≤ N) := by unfold Hid; omega
          have HII := Lib.hid (fun (u : World) => Is.one17 u y HWF0.out)
          clear hRR hf
          go_wp2_with fail
          go_loopw [8, 36] (fun al jv wr => ∃ (p : Nat) (a : Option Addr) (c : Nat), p ≤ og ∧ jv = .int .i64 p ∧ al = .slice a (m + p) c ∧ Hid (UnR w q v s3 (.slice a (m + p) c) (M ++ List.replicate p y) wr)) (fun _ jv _ => og - (intOf jv).toNat)
          case atStart => exact ⟨0, a, c, by omega, rfl, rfl, by simpa using HS2⟩
          case round =>
            clear HS2
            obtain ⟨p, a4, c4, hp, rfl, rfl, HX⟩ := hrel
            by_cases hpx : p < og
            · have t9 : decide (p < og) = true := by simpa using hpx
              have hs9 : IntKind.i64.wrap ((p : Int) + 1) = ((p + 1 : Nat) : Int) := by rw [IntKind.wrap_i64]; omega
              have hle2 : (M ++ List.replicate p y).length = m + p := by simp; exact HM.out
              have hlen2 : (M ++ List.replicate p y).length + 1 ≤ 17592186044416 := by rw [hle2]; have := HOG.out; omega
              have HL2 := Lib.hid hlen2; have HLE := Lib.hid hle2
              have HPX : Hid (p < og) := hpx
              have hsn : Hid ((M ++ List.replicate p y) ++ [y] = M ++ List.replicate (p + 1) y) := by
                unfold Hid; rw [List.append_assoc, ← List.replicate_succ']
              have hO3 := Lib.hid (fun o => (HX.out.own.keep ((Keep.refl [] wr).alloc o) (by simp)))
              have hR3 := Lib.hid (fun o => (HX.out.rd.keep ((Keep.refl [] wr).alloc o) (by simp) (by simp)))
              have hK3 := Lib.hid (fun o => (HX.out.keep.trans ((Keep.refl [] wr).alloc o) (by simp)))
              have hbb := Lib.hid HX.out.bb
              clear hlen2 hle2 HX hpx
              obtain ⟨MM, hMM⟩ : ∃ MM, M ++ List.replicate p y = MM := ⟨_, rfl⟩
              rw [hMM] at hO3 HL2 HLE hsn
              clear hMM
              go_wp2_with (at_builtin; (refine wpList_appendI (.tmp 38) (.tmp 40) rfl rfl (.slice a4 (m + p) c4) MM rfl (hO3.out _) _ [y] rfl (HII.out _) HL2.out ?_); (intro v4 w4 ho4 hk4 hb4 hz4))
              obtain ⟨a5, c5, rfl, hl5⟩ := ho4.is.sh
              have e5 : (MM ++ [y]).length = m + (p + 1) := by simp; have := HLE.out; omega
              rw [e5] at hb4 ho4
              rw [hsn.out] at ho4
              have := HPX.out
              refine ⟨⟨p + 1, a5, c5, by omega, by simp, by rw [e5], ?_⟩, by simp [intOf]; omega⟩
              refine ⟨(hR3.out _).keep hk4 (fun hm => ?_) ?_, ho4, (hK3.out _).trans hk4 (fun b hb => .inr (hbb.out b (by simpa using hb))), fun b hb => ?_⟩
              · have := hbb.out q (by simpa using hm); have := HQ.out; omega
              · intro b hb hm
                have h1 := HVL.out b hb
                have h2 := hbb.out b (by simpa using hm)
                omega
              · rcases hb4 b hb with h | h
                · exact hbb.out b h
                · rw [h]; exact (hK3.out _).size
            · have t9 : decide (p < og) = false := by simpa using hpx
              have hp2 : og = p := by omega
              have HOG2 : Hid (m + p ≤ N) := by unfold Hid; have := HOG.out; omega
              have HP1 : Hid (1 ≤ p) := by unfold Hid; have := HO1.out; omega
              have hRR := HRR.out
              rw [hp2] at hRR
              have HRR2 := Lib.hid hRR
              have hfl : Hid ((M ++ List.replicate p y).length = m + p) := by unfold Hid; simp; exact HM.out
              clear hpx hp2 hRR HRR
              go_wp2_with fail
              go_roundw
              case rel => have := HOG2.out; have := HP1.out; have e9 := hfl.out; exact ⟨M ++ List.replicate p y, s3, F, a4, c4, by rw [e9], by rw [e9]; exact HX.out, HRR2.out, by rw [e9]; omega, by rw [e9]; omega⟩
              case measure => have := HOG2.out; have := HP1.out; simp; omega
      · have herr : ((er : Int) != 0) = true := by simp; omega
        have hRR := HRR.out
        rw [if_pos he] at hRR
        have HRR := Lib.hid hRR
        clear hRR he HPOS HWF
        go_wp2_with fail
        go_ret2
        rw [← HRR.out]
        exact ⟨_, rfl, OwnI.nil _, HS2.out.rd, HS2.out.keep, by simp [Value.ownBlock]⟩
    · have hmN : m = N := by omega
      have t0 : decide (m < N) = false := by simpa using hlt
      obtain ⟨F, rfl⟩ : ∃ F, F1 = F + 1 := ⟨F1 - 1, by omega⟩
      have hRR := HRk.out
      rw [ls17_end (by omega)] at hRR
      have HRR := Lib.hid hRR
      rw [hm] at HS ⊢
      clear hRR HRk HSM HLR
      go_wp2_with fail
      go_ret2
      rw [← HRR.out]
      exact ⟨_, rfl, HS.out.own, HS.out.rd, HS.out.keep, HS.out.bb⟩
end Go.Proofs.YtokfcgloogdeiaaGreatDoor
namespace Go.Proofs.YtokfcgloogdeiaaGreatDoor
set_option linter.unusedVariables false
set_option linter.unusedSimpArgs false
set_option maxRecDepth 100000
open Go.ChangeShapes Go.WideShapes Go.ChangeAt Go.RowKit

theorem clonei_nil (w : World) : Calls Tryz.prog 97 #[.slice none 0 0] w fun e w' => e = .returned (.slice none 0 0) ∧ w = w' := by
  have hn := Lib.run_eql_slice_nil (P := Tryz.prog) w 38 3 none 0 0 0 0 Tryz.underlying38
  go_enter Tryz.func97, Tryz.ntmps97
  go_wp2
  go_ret
  exact ⟨rfl, rfl⟩
theorem made00 (w : World) : OwnI (w.alloc (.cells #[] 3)) (.slice (some ⟨w.heap.size, 0, none⟩) 0 0) [] := by
  have h := OwnI.made0 w 0 (by decide)
  have e : madeCells #[Value.int .i64 0] 0 = #[] := Array.eq_empty_of_size_eq_zero (by rw [size_madeCells])
  rwa [e] at h
/-- a copy of a row of numbers, in new memory -/
structure CLI (w w' : World) (v : Value) (l : List Int) : Prop where
  own : OwnI w' v l
  keep : Keep [] w w'
  new : ∀ b, v.ownBlock = some b → w.heap.size ≤ b
theorem clonei_c (w : World) (v : Value) (l : List Int) (hl : l.length ≤ 17592186044416) (h : Is .i64 w v l) : Calls Tryz.prog 97 #[v] w fun e w' => ∃ v', e = .returned v' ∧ CLI w w' v' l := by
  have h0 := h
  obtain ⟨a, cap, rfl, h1, h2, h3, h4, h5⟩ := h
  cases a with
  | none =>
    obtain rfl := h3 rfl
    obtain rfl : l = [] := List.eq_nil_of_length_eq_zero (by omega)
    exact (clonei_nil w).mono fun e w' ⟨he, hw⟩ => ⟨_, he, hw ▸ OwnI.nil w, hw ▸ Keep.refl _ _, fun b hb => by simp [Value.ownBlock] at hb⟩
  | some x =>
    have hn := Lib.run_eql_slice_nil (P := Tryz.prog) w 38 3 (some x) l.length cap 0 0 Tryz.underlying38
    clear h4 h3 h5
    have hb : Is .i64 (w.alloc (.cells #[] 3)) (.slice (some x) l.length cap) l := h0.keep ((Keep.refl [] w).alloc _) (by simp)
    have hm := made00 w
    clear h0
    go_enter Tryz.func97, Tryz.ntmps97
    go_wp2_with (at_builtin; refine wpList_appendI (.tmp 5) (.tmp 6) rfl rfl (.slice (some ⟨w.heap.size, 0, none⟩) 0 0) [] rfl hm (.slice (some x) l.length cap) l rfl hb (by simpa using hl) ?_; intro v' w' ho hk hv hz)
    go_ret
    refine ⟨v', rfl, ho, (((Keep.refl [] w).alloc _).trans hk (by simp [Value.ownBlock])), fun b hb => ?_⟩
    rcases hv b hb with h | h
    · simp only [Value.ownBlock, Option.some.injEq] at h; omega
    · simp at h; omega
set_option maxHeartbeats 8000000 in
theorem dynread_c (w : World) (q : Nat) (v : Value) (s : RS) (large : Bool) (hr : Rd w q v s) (hg : G17 w) (hq0 : 0 ≠ q) (hq1 : 1 ≠ q) : Calls Tryz.prog 82 #[.pointer (some ⟨q, 0, none⟩), .bool large] w fun e w' =>
    ∃ v1 v2, e = .returned (.tuple #[v1, v2, .int .i64 (rd17 s large).2.2.1]) ∧ Is .i64 w' v1 (rd17 s large).1 ∧ Is .i64 w' v2 (rd17 s large).2.1 ∧ (∀ b, v1.ownBlock = some b → w.heap.size ≤ b) ∧ (∀ b, v2.ownBlock = some b → w.heap.size ≤ b) ∧ Rd w' q v (rd17 s large).2.2.2 ∧ Keep [q] w w' := by
  obtain ⟨x1, s1, h1⟩ : ∃ x1 s1, s.bits 5 = (x1, s1) := ⟨_, _, rfl⟩
  obtain ⟨x2, s2, h2⟩ : ∃ x2 s2, s1.bits 5 = (x2, s2) := ⟨_, _, rfl⟩
  obtain ⟨x3, s3, h3⟩ : ∃ x3 s3, s2.bits 4 = (x3, s3) := ⟨_, _, rfl⟩
  obtain ⟨T, s4, h4⟩ : ∃ T s4, th17 s3 (x3 + 4) = (T, s4) := ⟨_, _, rfl⟩
  obtain ⟨al, er, s5, h5⟩ : ∃ al er s5, ls17 (Ln T) (x1 + 257 + (x2 + 1)) (x1 + 257 + (x2 + 1) + 1) [] s4 = (al, er, s5) := ⟨_, _, _, rfl⟩
  have hx1 : x1 < 32 := by have := bits_lt5 s; rw [h1] at this; exact this
  have hx2 : x2 < 32 := by have := bits_lt5 s1; rw [h2] at this; exact this
  have hx3 : x3 < 16 := by have := bits_lt4 s2; rw [h3] at this; exact this
  obtain ⟨k1, k2, k3⟩ := rd17_cases s large x1 s1 x2 s2 x3 s3 T s4 al er s5 h1 h2 h3 h4 h5
  have HB1 := Lib.hid (bits_c w q v s 5 hr)
  have HB2 := Lib.hid (fun w1 (h : Rd w1 q v s1) => bits_c w1 q v s1 5 h)
  have HB3 := Lib.hid (fun w1 (h : Rd w1 q v s2) => bits_c w1 q v s2 4 h)
  rw [h1] at HB1; rw [h2] at HB2; rw [h3] at HB3
  dsimp only at HB1 HB2 HB3
  obtain ⟨R, hR⟩ : ∃ R, rd17 s large = R := ⟨_, rfl⟩
  rw [hR] at k1 k2 k3 ⊢
  have K1 := Lib.hid k1; have K2 := Lib.hid k2; have K3 := Lib.hid k3
  have hql : q < w.heap.size := hr.1.lt
  have HQ := Lib.hid hql
  have w1 : IntKind.i64.wrap (x1 : Int) = x1 := by rw [IntKind.wrap_i64]; omega
  have w2 : IntKind.i64.wrap (x2 : Int) = x2 := by rw [IntKind.wrap_i64]; omega
  have w3 : IntKind.i64.wrap (x3 : Int) = x3 := by rw [IntKind.wrap_i64]; omega
  obtain ⟨a, ha⟩ : ∃ a, x1 + 257 = a := ⟨_, rfl⟩
  obtain ⟨b, hb⟩ : ∃ b, x2 + 1 = b := ⟨_, rfl⟩
  obtain ⟨n, hn⟩ : ∃ n, x3 + 4 = n := ⟨_, rfl⟩
  obtain ⟨y1, hy1⟩ : ∃ y, x1 + 256 = y := ⟨_, rfl⟩
  have w4 : IntKind.i64.wrap ((x1 : Int) + 256) = y1 := by rw [IntKind.wrap_i64]; omega
  have w4' : IntKind.i64.wrap ((y1 : Int) + 1) = a := by rw [IntKind.wrap_i64]; omega
  have w5 : IntKind.i64.wrap ((x2 : Int) + 1) = b := by rw [IntKind.wrap_i64]; omega
  have w6 : IntKind.i64.wrap ((x3 : Int) + 4) = n := by rw [IntKind.wrap_i64]; omega
  have HAB : Hid (257 ≤ a ∧ a ≤ 288 ∧ 1 ≤ b ∧ b ≤ 32 ∧ n ≤ 19) := by unfold Hid; omega
  have htE : thE s3 n = if s4.E ≠ 0 then s4.E else if chk T ≠ 1 then 6 else 0 := by unfold thE; rw [← hn, h4]
  have hT19 : T.length = 19 := by have := th17_len' s3 (x3 + 4); rw [h4] at this; exact this
  have HTH := Lib.hid (fun w1 (h : Rd w1 q v s3) (k : Keep [q] w w1) => readthird_c w1 q v s3 n h (hg.keep k (by simpa using hq0) (by simpa using hq1)) hq0 hq1 (by omega))
  have HBO := Lib.hid (fun w1 (h : Rd w1 q v s4) (k : Keep [q] w w1) qd bs (hd : Dec w1 qd bs (Ln T)) (hqb : q ∉ bs) => readboth_c w1 q v s4 qd bs (Ln T) (a + b) h hd hqb (by rw [Ln_length]; exact hT19) (hg.keep k (by simpa using hq0) (by simpa using hq1)) hq0 hq1 (by omega))
  have hal : Hid (er = 0 → al.length = a + b) := fun h0 => by have := ls17_len (Ln T) (x1 + 257 + (x2 + 1)) (x1 + 257 + (x2 + 1) + 1) [] s4 (by simp) (by rw [h5]; exact h0); rw [h5] at this; rw [← ha, ← hb]; exact this
  rw [ha, hb] at h5
  rw [hn] at h4
  rw [ha, hb] at K2 K3
  rw [h4] at HTH
  rw [h5] at HBO
  dsimp only at HTH HBO
  have HDC := Lib.hid (fun w => dcodes_c w large)
  obtain ⟨MX, hMX⟩ : ∃ M : Nat, (if large then 32 else 30) = M := ⟨_, rfl⟩
  rw [hMX] at HDC
  have hMX2 : (30 < b ∧ large = false) ∨ b ≤ MX := by cases large <;> simp at hMX <;> subst hMX <;> simp <;> omega
  have hMX3 : MX < b → 30 < b ∧ large = false := fun h => by rcases hMX2 with g | g; exact g; omega
  have hMX4 : b ≤ MX → ¬ (30 < b ∧ large = false) := fun h ⟨h1, h2⟩ => by subst h2; simp at hMX; omega
  have HM3 := Lib.hid hMX3
  have HM4 := Lib.hid hMX4
  have HTE := Lib.hid htE
  obtain ⟨te, hte⟩ : ∃ te, thE s3 n = te := ⟨_, rfl⟩
  rw [hte] at HTH HTE
  have HER := Lib.hid (fun w1 (h : Rd w1 q v s3) => err_c w1 q v s3 h)
  obtain ⟨E3, hE3⟩ : ∃ E3, s3.E = E3 := ⟨_, rfl⟩
  obtain ⟨E4, hE4⟩ : ∃ E4, s4.E = E4 := ⟨_, rfl⟩
  obtain ⟨C4, hC4⟩ : ∃ C4, chk T = C4 := ⟨_, rfl⟩
  rw [hE3] at HER K1 K2 K3
  rw [hE4] at K3 HTE
  rw [hC4] at K3 HTE
  clear k1 k2 k3 h1 h2 h3 h4 h5 hR hx1 hx2 hx3 ha hb hn hr hql hg htE hT19 hMX hMX2 hMX3 hMX4 hte hE3 hE4 hC4 hy1 hq0 hq1
  go_enter Tryz.func82, Tryz.ntmps82
  go_wp2_with fail
  refine HB1.out.mono ?_; rintro e wa ⟨rfl, hra, ka⟩
  go_wp2_with fail
  refine (HB2.out wa hra).mono ?_; rintro e wb ⟨rfl, hrb, kb⟩
  go_wp2_with fail
  refine (HB3.out wb hrb).mono ?_; rintro e wc ⟨rfl, hrc, kc⟩
  have HKC : Hid (Keep [q] w wc) := (ka.trans kb (fun _ h => .inl h)).trans kc (fun _ h => .inl h)
  have HRC := Lib.hid hrc
  have HE3 := Lib.hid (HER.out wc hrc)
  clear ka kb kc hra hrb HB1 HB2 HB3 hrc w1 w2 HER
  go_wp2_with fail
  refine HE3.out.mono ?_; rintro e wd ⟨rfl, rfl⟩
  clear HE3
  by_cases g3 : E3 = 0
  · subst g3
    obtain ⟨bz, hbz⟩ : ∃ bz, (decide (286 < a) || decide (MX < b)) = bz := ⟨_, rfl⟩
    have HBZ := Lib.hid hbz
    clear hbz
    go_upto_region 7 with fail
    go_cut [41] (fun cv wx => cv = .bool bz ∧ wx = wc)
    case first =>
      have hz := HBZ.out
      by_cases c1 : 286 < a
      · have d1 : decide ((a : Int) > 286) = true := by simp; omega
        have d2 : (286 : Int) < a := by omega
        have e : bz = true := by rw [← hz, decide_eq_true c1]; rfl
        clear hz
        go_wp2_with fail
        go_meet
        exact ⟨by rw [e], rfl⟩
      · have d1 : decide ((a : Int) > 286) = false := by simp; omega
        have e : decide ((MX : Int) < (b : Int)) = bz := by rw [← hz, decide_eq_false c1, Bool.false_or]; congr 1; simp
        have HEE := Lib.hid e
        clear hz e
        go_wp2_with fail
        refine (HDC.out wc).mono ?_; rintro e wd ⟨rfl, rfl⟩
        go_wp2_with fail
        all_goals
          go_meet
          exact ⟨by rw [← HEE.out] <;> simp_all, rfl⟩
    case rest =>
    obtain ⟨rfl, hwc⟩ := hcut
    have h := hwc.symm
    subst h
    cases bz with
    | true =>
      have hz := HBZ.out
      have HR := Lib.hid (K2.out trivial (by
        simp only [Bool.or_eq_true, decide_eq_true_eq] at hz
        rcases hz with hz | hz
        · exact .inl hz
        · exact .inr (HM3.out hz)))
      clear hz K1 K2 K3 hwc
      go_wp2_with fail
      go_ret3
      rw [HR.out]
      exact ⟨_, _, rfl, Is.nil64 _, Is.nil64 _, by simp [Value.ownBlock], by simp [Value.ownBlock], HRC.out, HKC.out⟩
    | false =>
      have hz := HBZ.out
      have hk := K3.out trivial (by
        simp only [Bool.or_eq_false_iff, decide_eq_false_iff_not] at hz
        rintro (g | g)
        · exact hz.1 g
        · exact HM4.out (by omega) g)
      have HK := Lib.hid hk
      have HT2 := Lib.hid (HTH.out wc HRC.out HKC.out)
      clear hz hk K1 K2 K3 HTH HRC HM3 HM4 HDC HBZ hwc
      go_wp2_with fail
      refine HT2.out.mono ?_; rintro e w4 ⟨p, rfl, hr4, k4, hp⟩
      have HR4 := Lib.hid hr4
      have HK4 : Hid (Keep [q] w w4) := HKC.out.trans k4 (fun _ h => .inl h)
      have HP := Lib.hid hp
      have HSZ : Hid (w.heap.size ≤ wc.heap.size) := HKC.out.size
      clear hr4 k4 hp HT2 HKC
      by_cases g4 : E4 = 0
      · subst g4
        by_cases gc : C4 = 1
        · subst gc
          have hte : te = 0 := by rw [HTE.out]; rfl
          subst hte
          have HK5 := Lib.hid ((HK.out.2 rfl).2 rfl)
          obtain ⟨qd, bs, rfl, hdec, hbs⟩ := HP.out rfl
          have hb5 := HBO.out w4 HR4.out HK4.out qd bs hdec (fun hm => by have := hbs q hm; have := HSZ.out; have := HQ.out; omega)
          have hw9 : IntKind.i64.wrap ((a : Int) + (b : Int)) = ((a + b : Nat) : Int) := by have := HAB.out; rw [IntKind.wrap_i64]; omega
          obtain ⟨ab, hab⟩ : ∃ ab, a + b = ab := ⟨_, rfl⟩
          rw [hab] at hb5 hw9 hal
          have HB5 := Lib.hid hb5
          have HABB := Lib.hid hab
          clear hb5 hab HP HTE HK HR4 HBO hdec hbs
          go_wp2_with fail
          refine HB5.out.mono ?_; rintro e w5 ⟨va, rfl, hoa, hr5, k5, hb5⟩
          have HR5 := Lib.hid hr5
          have HK6 : Hid (Keep [q] w w5) := HK4.out.trans k5 (fun _ h => .inl h)
          have HI5 := Lib.hid hoa.is
          clear HB5 hoa hr5 k5 hb5 HK4
          by_cases ge : er = 0
          · subst ge
            have halen := hal.out rfl
            have HR2 := Lib.hid (HK5.out.2 rfl)
            have hab := HABB.out
            obtain ⟨v1, e1, i1, -⟩ := HI5.out.upto a (a : Int) rfl (by omega)
            obtain ⟨v2, e2, i2, -⟩ := HI5.out.from a (a : Int) rfl (by omega)
            have KD : Keep [] w5 w5.drew := (Keep.refl [] w5).drew
            have HKD := Lib.hid KD
            have HC1 := Lib.hid (fun wx (k : Keep [] w5.drew wx) => clonei_c wx v1 _ (by rw [List.length_take]; have := HAB.out; omega) ((i1.keep KD (by simp)).keep k (by simp)))
            have HC2 := Lib.hid (fun wx (k : Keep [] w5.drew wx) => clonei_c wx v2 _ (by rw [List.length_drop]; have := HAB.out; omega) ((i2.keep KD (by simp)).keep k (by simp)))
            obtain ⟨L1, hL1⟩ : ∃ L, al.take a = L := ⟨_, rfl⟩
            obtain ⟨L2, hL2⟩ : ∃ L, al.drop a = L := ⟨_, rfl⟩
            rw [hL1] at HC1 HR2
            rw [hL2] at HC2 HR2
            obtain ⟨bz2, hbz2⟩ : ∃ z, right17 L1 L2 large = z := ⟨_, rfl⟩
            rw [hbz2] at HR2
            have HBZ2 := Lib.hid hbz2
            clear i1 i2 hbz2 halen hal KD HK5 hL1 hL2 hab
            go_wp2_with fail
            go_upto_region 15 with fail
            go_cut [14, 15] (fun u1 u2 wx => Is .i64 wx u1 L1 ∧ Is .i64 wx u2 L2 ∧ (∀ b, u1.ownBlock = some b → w5.heap.size ≤ b) ∧ (∀ b, u2.ownBlock = some b → w5.heap.size ≤ b) ∧ Keep [] w5 wx)
            case first =>
              go_region_with (first | (go_at_call 97; (with_reducible refine (HC1.out _ (Keep.refl _ _)).mono ?_); (rintro e wa ⟨u1, rfl, hca⟩)) | (go_at_call 97; (with_reducible refine (HC2.out _ hca.keep).mono ?_); (rintro e wb ⟨u2, rfl, hcb⟩)))
              all_goals
                go_wp2_with fail
                go_meet
                exact ⟨hca.own.is.keep hcb.keep (by simp), hcb.own.is, fun b hb => hca.new b hb, fun b hb => Nat.le_trans hca.keep.size (hcb.new b hb), (HKD.out.trans hca.keep (by simp)).trans hcb.keep (by simp)⟩
            case rest =>
            obtain ⟨j1, j2, j3, j4, j5⟩ := hcut
            have HRI := Lib.hid (dyn_right wc _ _ L1 L2 large j1 j2)
            rw [HBZ2.out] at HRI
            have HJ1 := Lib.hid j1; have HJ2 := Lib.hid j2
            have HJ3 : Hid (∀ b, u14.ownBlock = some b → w.heap.size ≤ b) := fun b hb => Nat.le_trans HK6.out.size (j3 b hb)
            have HJ4 : Hid (∀ b, u15.ownBlock = some b → w.heap.size ≤ b) := fun b hb => Nat.le_trans HK6.out.size (j4 b hb)
            have HRJ : Hid (Rd wc q v s5) := HR5.out.keep j5 (by simp) (by simp)
            have HKJ : Hid (Keep [q] w wc) := HK6.out.trans j5 (by simp)
            clear j1 j2 j3 j4 j5 HC1 HC2 HKD HBZ2 HR5 HK6 HI5 e1 e2
            go_wp2_with fail
            refine HRI.out.mono ?_; rintro e w8 ⟨rfl, k8⟩
            have HR8 : Hid (Rd w8 q v s5) := HRJ.out.keep k8 (by simp) (by simp)
            have HK8 : Hid (Keep [q] w w8) := HKJ.out.trans k8 (by simp)
            have HJ18 := Lib.hid (HJ1.out.keep k8 (by simp))
            have HJ28 := Lib.hid (HJ2.out.keep k8 (by simp))
            clear HRI HRJ HKJ HJ1 HJ2 k8
            cases bz2 with
            | true =>
              have HR3 : Hid (R = (L1, L2, 0, s5)) := by have := HR2.out; rw [if_neg (by simp)] at this; exact this
              clear HR2
              go_wp2_with fail
              go_ret3
              rw [HR3.out]
              exact ⟨_, _, rfl, HJ18.out, HJ28.out, HJ3.out, HJ4.out, HR8.out, HK8.out⟩
            | false =>
              have HR3 : Hid (R = ([], [], 6, s5)) := by have := HR2.out; rw [if_pos rfl] at this; exact this
              clear HR2
              go_wp2_with fail
              go_ret3
              rw [HR3.out]
              exact ⟨_, _, rfl, Is.nil64 _, Is.nil64 _, by simp [Value.ownBlock], by simp [Value.ownBlock], HR8.out, HK8.out⟩
          · have t7 : ((er : Int) != 0) = true := by simp; omega
            have HR2 := Lib.hid (HK5.out.1 ge)
            clear HK5 ge hal
            go_wp2_with fail
            go_ret3
            rw [HR2.out]
            exact ⟨_, _, rfl, Is.nil64 _, Is.nil64 _, by simp [Value.ownBlock], by simp [Value.ownBlock], HR5.out, HK6.out⟩
        · have hte : te = 6 := by rw [HTE.out, if_neg (by simp), if_pos gc]
          subst hte
          have HR2 := Lib.hid ((HK.out.2 rfl).1 gc)
          clear HK HTE gc HP HBO
          go_wp2_with fail
          go_ret3
          rw [HR2.out]
          exact ⟨_, _, rfl, Is.nil64 _, Is.nil64 _, by simp [Value.ownBlock], by simp [Value.ownBlock], HR4.out, HK4.out⟩
      · have hte : te = E4 := by rw [HTE.out, if_pos g4]
        subst hte
        have t7 : ((te : Int) != 0) = true := by simp; omega
        have HR2 := Lib.hid (HK.out.1 g4)
        clear HK HTE g4 HP HBO
        go_wp2_with fail
        go_ret3
        rw [HR2.out]
        exact ⟨_, _, rfl, Is.nil64 _, Is.nil64 _, by simp [Value.ownBlock], by simp [Value.ownBlock], HR4.out, HK4.out⟩
  · have t7 : ((E3 : Int) != 0) = true := by simp; omega
    have HR2 := Lib.hid (K1.out g3)
    clear K1 K2 K3 g3 HTH HBO HDC
    go_wp2_with fail
    go_ret3
    rw [HR2.out]
    exact ⟨_, _, rfl, Is.nil64 _, Is.nil64 _, by simp [Value.ownBlock], by simp [Value.ownBlock], HRC.out, HKC.out⟩
theorem dyn_read {W w : World} {Ps : List Ob} (h : St W w Ps) (hg : G17 W) (i : Nat) {q : Nat} {s : RS} (hi : Ps[i]? = some (Ob.rd q s)) (large : Bool) : Calls Tryz.prog 82 #[.pointer (some ⟨q, 0, none⟩), .bool large] w fun e w' =>
    ∃ v1 v2, e = .returned (.tuple #[v1, v2, .int .i64 (rd17 s large).2.2.1]) ∧ Is .i64 w' v1 (rd17 s large).1 ∧ Is .i64 w' v2 (rd17 s large).2.1 ∧ (∀ b, v1.ownBlock = some b → w.heap.size ≤ b) ∧ (∀ b, v2.ownBlock = some b → w.heap.size ≤ b) ∧ St W w' (Ps.set i Ob.gone) ∧ ((rd17 s large).2.2.1 = 0 → St W w' (Ps.set i (Ob.rd q (rd17 s large).2.2.2))) := by
  obtain ⟨bs, ⟨v, rfl, h1⟩, h2, h3⟩ := h.focus i hi
  have hq := h2 q (by simp)
  have hlt := hg.lt
  refine (dynread_c w q v s large h1 (hg.keep h.kp (by simp) (by simp)) (by omega) (by omega)).mono ?_
  rintro e w' ⟨v1, v2, he, a1, a2, a3, a4, hr, hk⟩
  have hS := h3 w' (Ob.rd q (rd17 s large).2.2.2) (q :: v.ownBlock.toList) ⟨v, rfl, hr⟩ (hk.mono (by simp)) (fun b hb => .inl hb)
  refine ⟨v1, v2, he, a1, a2, a3, a4, ?_, fun _ => hS⟩
  have hl := hS.lose i (P := Ob.rd q (rd17 s large).2.2.2) (by
    have : i < Ps.length := by
      rcases Nat.lt_or_ge i Ps.length with h | h
      · exact h
      · rw [List.getElem?_eq_none h] at hi; cases hi
    rw [List.getElem?_set_self this])
  rw [List.set_set] at hl
  exact hl
end Go.Proofs.YtokfcgloogdeiaaGreatDoor
