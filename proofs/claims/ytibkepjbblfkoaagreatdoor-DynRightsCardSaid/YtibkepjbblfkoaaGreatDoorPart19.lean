/- Texts put together: DynWr1 -/
import Derived.Test.YtibkepjbblfkoaaGreatDoorPart13
import Derived.Test.YtibkepjbblfkoaaGreatDoorPart18
namespace Go.Proofs.YtibkepjbblfkoaaGreatDoor
set_option linter.unusedVariables false
set_option linter.unusedSimpArgs false
set_option maxRecDepth 100000
open Go.ChangeShapes Go.WideShapes Go.ChangeAt Go.RowKit

set_option maxHeartbeats 1000000 in
theorem dtrim_c (w : World) (a : Option Addr) (zs : List Int) (cap least : Nat) (h : Is .i64 w (.slice a zs.length cap) zs) (hn : zs.length ≤ 400) (hl : least ≤ 400) (hle : least ≤ zs.length) : Calls Tryz.prog 20 #[.slice a zs.length cap, .int .i64 least] w fun e w' => e = .returned (.slice a (trimN zs least zs.length) cap) ∧ ∃ n, w' = w.drewN n := by
  obtain ⟨N, hN⟩ : ∃ N, trimN zs least zs.length = N := ⟨_, rfl⟩
  rw [hN]
  have HN := Lib.hid hN
  clear hN
  have HI := Lib.hid (fun i hi => h.at i hi)
  obtain ⟨a', cap', hv, h1, h2, -⟩ := h
  simp only [Value.slice.injEq] at hv
  obtain ⟨rfl, _, rfl⟩ := hv
  go_enter Tryz.func20, Tryz.ntmps20
  go_wp2_with fail
  go_loopw [5] (fun nv wr => ∃ k : Nat, nv = .int .i64 k ∧ k ≤ zs.length ∧ least ≤ k ∧ Hid (trimN zs least k = N) ∧ ∃ n, wr = w.drewN n) (fun nv _ => (intOf nv).toNat)
  case atStart => exact ⟨zs.length, rfl, by omega, hle, HN, 0, rfl⟩
  case round =>
    obtain ⟨k, rfl, hk, hlk, HNk, n, rfl⟩ := hrel
    by_cases hlt : least < k
    · have t1 : decide (least < k) = true := by simpa using hlt
      have hs : IntKind.i64.wrap ((k : Int) - 1) = ((k - 1 : Nat) : Int) := by rw [IntKind.wrap_i64]; omega
      obtain ⟨m, rfl⟩ : ∃ m, k = m + 1 := ⟨k - 1, by omega⟩
      have hm : m < zs.length := by omega
      obtain ⟨b, off, cap', hv, e1⟩ := HI.out m hm
      simp only [Value.slice.injEq] at hv
      obtain ⟨rfl, _, rfl⟩ := hv
      have hg : zs.getD m 0 = zs[m] := by rw [List.getD_eq_getElem?_getD, List.getElem?_eq_getElem hm]; rfl
      obtain ⟨z, hz⟩ : ∃ z, zs[m] = z := ⟨_, rfl⟩
      rw [hz] at e1 hg
      have hs2 : IntKind.i64.wrap ((m : Int) + 1 - 1) = (m : Int) := by rw [IntKind.wrap_i64]; omega
      have t1' : decide ((least : Int) < (m : Int) + 1) = true := decide_eq_true (by omega)
      have HM : Hid (least ≤ m) := Nat.le_of_lt_succ hlt
      by_cases hz0 : z = 0
      · have t2 : (z == 0) = true := by simpa using hz0
        have HN2 : Hid (trimN zs least m = N) := by
          have := HNk.out
          rw [trimN, if_pos ⟨hlt, by rw [hg, hz0]⟩] at this
          exact this
        clear hz0 hz hg hlt HNk
        go_wp2_with fail
        go_roundw
        case rel => exact ⟨m, rfl, by omega, HM.out, HN2, _, rfl⟩
        case measure => simp [intOf]
      · have t2 : (z == 0) = false := by simpa using hz0
        have HN2 : Hid (N = m + 1) := by
          have := HNk.out
          rw [trimN, if_neg (by rw [hg]; intro h; exact hz0 h.2)] at this
          exact this.symm
        have h3 : m + 1 ≤ cap := by omega
        clear hz0 hz hg hlt HNk
        go_wp2_with fail
        go_ret
        exact ⟨by rw [HN2.out]; rfl, _, rfl⟩
    · have t1 : decide (least < k) = false := by simpa using hlt
      obtain rfl : least = k := by omega
      have HN2 : Hid (N = least) := by
        have := HNk.out
        rw [← this]
        cases least with
        | zero => rfl
        | succ m => rw [trimN, if_neg (by omega)]; rfl
      have h3 : least ≤ cap := by omega
      clear hlt HNk
      go_wp2_with fail
      go_ret
      exact ⟨by rw [HN2.out]; rfl, _, rfl⟩
theorem alike_c (w : World) (v : Value) (l : List Int) (hl : l.length ≤ 400) (h0 : 0 < l.length) (h : Is .i64 w v l) : Calls Tryz.prog 63 #[v] w fun e w' => e = .returned (.int .i64 (likeN (l.getD 0 0) l)) ∧ ∃ m, w' = w.drewN m := by
  have HC := Lib.hid (fun i hi => h.at i hi)
  obtain ⟨a, cap, rfl, _⟩ := h.sh
  obtain ⟨b, off, cap', hv, e0⟩ := HC.out 0 h0
  simp only [Value.slice.injEq] at hv
  obtain ⟨rfl, hvv, rfl⟩ := hv
  rw [Nat.add_zero] at e0
  have g0 : l.getD 0 0 = l[0] := by rw [List.getD_eq_getElem?_getD, List.getElem?_eq_getElem h0]; rfl
  rw [g0]
  obtain ⟨R, hR⟩ : ∃ R, likeN l[0] l = R := ⟨_, rfl⟩
  rw [hR]
  obtain ⟨x0, hx0⟩ : ∃ x, l[0] = x := ⟨_, rfl⟩
  have HG : Hid (l[0]? = some x0) := by unfold Hid; rw [List.getElem?_eq_getElem h0, hx0]
  rw [hx0] at e0 hR
  have HR := Lib.hid hR
  have hz0 : (0 : Int) < (l.length : Int) := by omega
  clear hvv hR g0 hx0 h
  go_enter Tryz.func63, Tryz.ntmps63
  go_wp2_with fail
  go_loopw [3] (fun i wr => ∃ n : Nat, i = .int .i64 n ∧ 1 ≤ n ∧ n ≤ l.length ∧ Hid (∀ i, i < n → l[i]? = some x0) ∧ ∃ m, wr = w.drewN m) (fun i _ => l.length - (intOf i).toNat)
  case atStart => exact ⟨1, rfl, by omega, by omega, (fun i hi => by rw [show i = 0 by omega]; exact HG.out), 0, rfl⟩
  case round =>
    obtain ⟨n, rfl, hn1, hn2, HE, m, rfl⟩ := hrel
    by_cases hlt : n < l.length
    · have z1 : (n : Int) < (l.length : Int) := by omega
      obtain ⟨b', off', cap'', hv, e1⟩ := HC.out n hlt
      simp only [Value.slice.injEq, Option.some.injEq, Addr.mk.injEq] at hv
      obtain ⟨⟨rfl, rfl, _⟩, _, rfl⟩ := hv
      have g1 : l[n]? = some l[n] := List.getElem?_eq_getElem hlt
      obtain ⟨x1, hx1⟩ : ∃ x, l[n] = x := ⟨_, rfl⟩
      rw [hx1] at e1 g1
      have HG1 := Lib.hid g1
      clear g1 hx1
      by_cases hne : x1 = x0
      · have HN : Hid (∀ i, i < n + 1 → l[i]? = some x0) := fun i hi => by
          by_cases h : i < n
          · exact HE.out i h
          · rw [show i = n by omega, HG1.out, hne]
        rw [hne] at e1
        clear hne HE HG1
        go_wp2_with fail
        go_quiet (fail)
        go_wp2_with fail
        go_roundw
        case rel => exact ⟨n + 1, by go_num, by omega, by omega, HN, _, rfl⟩
        case measure => simp [intOf]; omega
      · have HN : Hid (l[n]? ≠ some x0) := by unfold Hid; rw [HG1.out]; intro e; exact hne (Option.some.inj e)
        have hb1 : (x1 == x0) = false := by rw [beq_eq_false_iff_ne]; exact hne
        have HRn : Hid (R = n) := by unfold Hid; rw [← HR.out]; exact likeN_at x0 l n HE.out HN.out
        clear hne HG1
        go_wp2_with fail
        go_quiet (fail)
        go_wp2_with fail
        go_ret
        exact ⟨by rw [HRn.out]; rfl, _, World.drewN_drewN _ _ _⟩
    · have z1 : decide ((n : Int) < (l.length : Int)) = false := by simp; omega
      have z2 : decide (n < l.length) = false := by simp; omega
      have HRn : Hid (R = n) := by unfold Hid; rw [← HR.out]; exact likeN_at x0 l n HE.out (by rw [List.getElem?_eq_none (by omega)]; simp)
      clear hlt
      go_wp2_with fail
      go_quiet (fail)
      go_wp2_with fail
      go_ret
      exact ⟨by rw [HRn.out]; rfl, _, World.drewN_drewN _ _ _⟩
/-- for how many lengths a symbol stands at most -/
def rpM (i : Nat) : Nat := if i = 0 then 6 else if i = 1 then 10 else 138
theorem most_c (w : World) (i : Nat) (hi : i < 3) : Calls Tryz.prog 64 #[.agg #[.int .i64 (rpL i), .int .i64 (rpB i)]] w fun e w' => e = .returned (.int .i64 (rpM i)) ∧ Keep [] w w' := by
  have hc : i = 0 ∨ i = 1 ∨ i = 2 := by omega
  rcases hc with rfl | rfl | rfl
  all_goals
    simp only [rpL, rpB, rpM, if_true, if_false, Nat.reduceEqDiff, Nat.reduceMul, Nat.reduceAdd]
    have hk := (Keep.refl [] w)
    go_enter Tryz.func64, Tryz.ntmps64
    go_upto_region 1 with fail
    first
      | (have bx := Blk.new w #[.int .i64 3, .int .i64 2] 64; have e0 := bx.cell 0 _ rfl; have e1 := bx.cell 1 _ rfl; have hk := (Keep.refl [] w).alloc (.cells #[.int .i64 3, .int .i64 2] 64); generalize w.alloc (.cells #[.int .i64 3, .int .i64 2] 64) = w1 at hk e0 e1 ⊢; clear bx; generalize w.heap.size = g at e0 e1 ⊢; go_quiet (fail); go_wp2_with fail; go_ret; exact ⟨rfl, hk.drewN _⟩)
      | (have bx := Blk.new w #[.int .i64 3, .int .i64 3] 64; have e0 := bx.cell 0 _ rfl; have e1 := bx.cell 1 _ rfl; have hk := (Keep.refl [] w).alloc (.cells #[.int .i64 3, .int .i64 3] 64); generalize w.alloc (.cells #[.int .i64 3, .int .i64 3] 64) = w1 at hk e0 e1 ⊢; clear bx; generalize w.heap.size = g at e0 e1 ⊢; go_quiet (fail); go_wp2_with fail; go_ret; exact ⟨rfl, hk.drewN _⟩)
      | (have bx := Blk.new w #[.int .i64 11, .int .i64 7] 64; have e0 := bx.cell 0 _ rfl; have e1 := bx.cell 1 _ rfl; have hk := (Keep.refl [] w).alloc (.cells #[.int .i64 11, .int .i64 7] 64); generalize w.alloc (.cells #[.int .i64 11, .int .i64 7] 64) = w1 at hk e0 e1 ⊢; clear bx; generalize w.heap.size = g at e0 e1 ⊢; go_quiet (fail); go_wp2_with fail; go_ret; exact ⟨rfl, hk.drewN _⟩)
theorem rp_f0 (w : World) (x y : Int) : (Instr.field 64 (.agg #[.int .i64 x, .int .i64 y]) 0).run Tryz.prog w = .ok (.int .i64 x) w := by
  simp [Instr.field, run_underlying Tryz.underlying64, asAgg, part, isAgg, run_underlying Tryz.underlying3]
theorem rp_f1 (w : World) (x y : Int) : (Instr.field 64 (.agg #[.int .i64 x, .int .i64 y]) 1).run Tryz.prog w = .ok (.int .i64 y) w := by
  simp [Instr.field, run_underlying Tryz.underlying64, asAgg, part, isAgg, run_underlying Tryz.underlying3]
theorem begin_c (w : World) (v : Value) (l : List Int) (last : Int) (hl : l.length ≤ 400) (h0 : 0 < l.length) (hz : ∀ z ∈ l, 0 ≤ z ∧ z ≤ 15) (h : Is .i64 w v l) (hg : G17 w) :
    Calls Tryz.prog 44 #[v, .int .i64 last] w fun e w' => e = .returned (.tuple #[.agg #[.int .i64 (beg17 l last).1.sym, .int .i64 (beg17 l last).1.x], .int .i64 (beg17 l last).2]) ∧ Keep [] w w' := by
  have hx : 0 ≤ l.getD 0 0 ∧ l.getD 0 0 ≤ 15 := by
    rw [List.getD_eq_getElem?_getD, List.getElem?_eq_getElem h0]; exact hz _ (List.getElem_mem h0)
  have hk1 : 1 ≤ likeN (l.getD 0 0) l := by
    cases l with
    | nil => simp at h0
    | cons y l => show 1 ≤ likeN y (y :: l); rw [likeN, if_pos rfl]; omega
  have hk2 := likeN_le (l.getD 0 0) l
  have HA := Lib.hid (fun w' (k : Keep [] w w') => alike_c w' v l hl h0 (h.keep k (by simp)))
  have HI := Lib.hid (fun w' (k : Keep [] w w') => (h.keep k (by simp)).at 0 h0)
  have HRP := Lib.hid (fun i (hi : i < 3) w' (k : Keep [] w w') => repeatof_c w' (hg.keep k (by simp) (by simp)) i hi)
  have HMO := Lib.hid (fun i (hi : i < 3) w' => most_c w' i hi)
  have e0 : l[0] = l.getD 0 0 := by rw [List.getD_eq_getElem?_getD, List.getElem?_eq_getElem h0]; rfl
  rw [e0] at HI
  obtain ⟨R, hR⟩ : ∃ R, beg17 l last = R := ⟨_, rfl⟩
  rw [hR]
  unfold beg17 at hR
  generalize l.getD 0 0 = x at *
  obtain ⟨k, hk⟩ : ∃ k, likeN x l = k := ⟨_, rfl⟩
  rw [hk] at hR HA hk1 hk2
  obtain ⟨a, cap, rfl, hsz⟩ := h.sh
  have hlz : (0 : Int) < (l.length : Int) := by omega
  have HK := Lib.hid (Keep.refl [] w)
  clear hk e0 h hg hz
  have HRR := Lib.hid hR
  have HX0 : Hid (0 ≤ x) := hx.1
  clear hR
  by_cases c0 : x = 0
  · subst c0
    by_cases c1 : 11 ≤ k
    · rw [if_pos ⟨rfl, c1⟩] at HRR
      have t1 : decide ((k : Int) ≥ 11) = true := by simp; omega
      have HB0 : Hid (Blk (w.alloc (.cells #[.int .i64 0, .int .i64 0] 60)) w.heap.size #[.int .i64 0, .int .i64 0] 60) := Blk.new w _ _
      obtain ⟨g, hg⟩ : ∃ g, w.heap.size = g := ⟨_, rfl⟩
      have HGG : Hid (w.heap.size ≤ g) := Nat.le_of_eq hg
      have HK1 : Hid (Keep [] w (w.alloc (.cells #[.int .i64 0, .int .i64 0] 60))) := (Keep.refl [] w).alloc _
      rw [hg] at HB0
      have hf0 := fun W a b => rp_f0 W a b
      go_enter Tryz.func44, Tryz.ntmps44
      go_wp2_with fail
      generalize w.alloc (.cells #[.int .i64 0, .int .i64 0] 60) = w1 at HB0 HK1 ⊢
      clear hg
      refine (HA.out w1 HK1.out).mono ?_; rintro e w2 ⟨rfl, m2, rfl⟩
      have HK2 : Hid (Keep [] w (w1.drewN m2)) := HK1.out.drewN m2
      have HB2 : Hid (Blk (w1.drewN m2) g #[.int .i64 0, .int .i64 0] 60) := HB0.out.keep ((Keep.refl [] w1).drewN m2) (by simp)
      obtain ⟨b, off, cap', hv, e0⟩ := HI.out _ HK2.out
      simp only [Value.slice.injEq] at hv
      obtain ⟨rfl, hvv, rfl⟩ := hv
      rw [Nat.add_zero] at e0
      clear hvv HA HI HK1 HB0
      generalize w1.drewN m2 = w2 at HK2 HB2 e0 ⊢
      go_wp2_with fail
      refine ((HRP.out 2 (by decide)) w2 HK2.out).mono ?_; rintro e w3 ⟨rfl, k3⟩
      have HK3 : Hid (Keep [] w w3) := HK2.out.trans k3 (by simp)
      have HB3 : Hid (Blk w3 g #[.int .i64 0, .int .i64 0] 60) := HB2.out.keep k3 (by simp)
      clear k3
      simp only [rpL, rpB, if_true, if_false, Nat.reduceEqDiff]
      go_wp2_with fail
      refine ((HRP.out 2 (by decide)) w3 HK3.out).mono ?_; rintro e w4 ⟨rfl, k4⟩
      have HK4 : Hid (Keep [] w w4) := HK3.out.trans k4 (by simp)
      have HB4 : Hid (Blk w4 g #[.int .i64 0, .int .i64 0] 60) := HB3.out.keep k4 (by simp)
      clear k4
      simp only [rpL, rpB, if_true, if_false, Nat.reduceEqDiff]
      go_upto_region 11 with fail
      have HX : Hid (Blk (w4.alloc (.cells #[.int .i64 11, .int .i64 7] 64)) w4.heap.size #[.int .i64 11, .int .i64 7] 64) := Blk.new w4 _ _
      have HKA : Hid (Keep [] w4 (w4.alloc (.cells #[.int .i64 11, .int .i64 7] 64))) := (Keep.refl [] w4).alloc _
      generalize w4.alloc (.cells #[.int .i64 11, .int .i64 7] 64) = wx at HX HKA ⊢
      generalize w4.heap.size = gx at HX ⊢
      have HKX : Hid (Keep [] w wx) := HK4.out.trans HKA.out (by simp)
      have HBX : Hid (Blk wx g #[.int .i64 0, .int .i64 0] 60) := HB4.out.keep HKA.out (by simp)
      have x0 := HX.out.cell 0 _ rfl
      have x1 := HX.out.cell 1 _ rfl
      have HMM := Lib.hid (HMO.out 2 (by decide) wx)
      clear HKA HB4 HK4
      go_wp2_with fail
      refine HMM.out.mono ?_; rintro e wy ⟨rfl, ky⟩
      have HKY : Hid (Keep [] w wy) := HKX.out.trans ky (by simp)
      have HBY := Lib.hid (HBX.out.keep ky (by simp))
      have x0 := (HX.out.keep ky (by simp)).cell 0 _ rfl
      have f0 := HBY.out.free 0
      have f1 := HBY.out.free 1
      have y0 := HBY.out.cell 0 _ rfl
      have y1 := HBY.out.cell 1 _ rfl
      clear HMM HX ky HBX HKX
      simp only [rpM, if_true, if_false, Nat.reduceEqDiff]
      obtain ⟨mn, hmn⟩ : ∃ mn, min k 138 = mn := ⟨_, rfl⟩
      have hmz : min (k : Int) 138 = (mn : Int) := by omega
      have hws : IntKind.i64.wrap ((mn : Int) - 11) = ((mn - 11 : Nat) : Int) := by rw [IntKind.wrap_i64]; omega
      rw [hmn] at HRR
      clear hmn
      go_wp2_with fail
      have HF : Hid (Blk ((wy.setCell ⟨g, 0, none⟩ (.int .i64 18)).setCell ⟨g, 1, none⟩ (.int .i64 ((mn - 11 : Nat) : Int))) g #[.int .i64 18, .int .i64 ((mn - 11 : Nat) : Int)] 60) := (HBY.out.set 0 (.int .i64 18)).set 1 (.int .i64 ((mn - 11 : Nat) : Int))
      refine bodyPost_ret (results_cellS rfl _ rfl HF.out _ Tryz.underlying60 rfl (by kernel_rfl)) rfl ?_
      exact ⟨by rw [← HRR.out]; rfl, (HKY.out.setCell (.inr HGG.out) _).setCell (.inr HGG.out) _⟩
    · rw [if_neg (fun h => c1 h.2)] at HRR
      have t1 : decide ((k : Int) ≥ 11) = false := by simp; omega
      have t1' : ¬ (11 : Int) ≤ (k : Int) := by omega
      by_cases c2 : 3 ≤ k
      · rw [if_pos ⟨rfl, c2⟩] at HRR
        have t2 : decide ((k : Int) ≥ 3) = true := by simp; omega
        have HB0 : Hid (Blk (w.alloc (.cells #[.int .i64 0, .int .i64 0] 60)) w.heap.size #[.int .i64 0, .int .i64 0] 60) := Blk.new w _ _
        obtain ⟨g, hg⟩ : ∃ g, w.heap.size = g := ⟨_, rfl⟩
        have HGG : Hid (w.heap.size ≤ g) := Nat.le_of_eq hg
        have HK1 : Hid (Keep [] w (w.alloc (.cells #[.int .i64 0, .int .i64 0] 60))) := (Keep.refl [] w).alloc _
        rw [hg] at HB0
        have hf0 := fun W a b => rp_f0 W a b
        go_enter Tryz.func44, Tryz.ntmps44
        go_wp2_with fail
        generalize w.alloc (.cells #[.int .i64 0, .int .i64 0] 60) = w1 at HB0 HK1 ⊢
        clear hg
        refine (HA.out w1 HK1.out).mono ?_; rintro e w2 ⟨rfl, m2, rfl⟩
        have HK2 : Hid (Keep [] w (w1.drewN m2)) := HK1.out.drewN m2
        have HB2 : Hid (Blk (w1.drewN m2) g #[.int .i64 0, .int .i64 0] 60) := HB0.out.keep ((Keep.refl [] w1).drewN m2) (by simp)
        obtain ⟨b, off, cap', hv, e0⟩ := HI.out _ HK2.out
        simp only [Value.slice.injEq] at hv
        obtain ⟨rfl, hvv, rfl⟩ := hv
        rw [Nat.add_zero] at e0
        clear hvv HA HI HK1 HB0
        generalize w1.drewN m2 = w2 at HK2 HB2 e0 ⊢
        go_wp2_with fail
        refine ((HRP.out 2 (by decide)) w2 HK2.out).mono ?_; rintro e w3 ⟨rfl, k3⟩
        have HK3 : Hid (Keep [] w w3) := HK2.out.trans k3 (by simp)
        have HB3 : Hid (Blk w3 g #[.int .i64 0, .int .i64 0] 60) := HB2.out.keep k3 (by simp)
        clear k3
        simp only [rpL, rpB, if_true, if_false, Nat.reduceEqDiff]
        go_wp2_with fail
        refine ((HRP.out 1 (by decide)) w3 HK3.out).mono ?_; rintro e w4 ⟨rfl, k4⟩
        have HK4 : Hid (Keep [] w w4) := HK3.out.trans k4 (by simp)
        have HB4 : Hid (Blk w4 g #[.int .i64 0, .int .i64 0] 60) := HB3.out.keep k4 (by simp)
        clear k4
        simp only [rpL, rpB, if_true, if_false, Nat.reduceEqDiff]
        go_wp2_with fail
        refine ((HRP.out 1 (by decide)) w4 HK4.out).mono ?_; rintro e w5 ⟨rfl, k5⟩
        have HK5 : Hid (Keep [] w w5) := HK4.out.trans k5 (by simp)
        have HB5 : Hid (Blk w5 g #[.int .i64 0, .int .i64 0] 60) := HB4.out.keep k5 (by simp)
        clear k5
        simp only [rpL, rpB, if_true, if_false, Nat.reduceEqDiff]
        go_upto_region 11 with fail
        have HX : Hid (Blk (w5.alloc (.cells #[.int .i64 3, .int .i64 3] 64)) w5.heap.size #[.int .i64 3, .int .i64 3] 64) := Blk.new w5 _ _
        have HKA : Hid (Keep [] w5 (w5.alloc (.cells #[.int .i64 3, .int .i64 3] 64))) := (Keep.refl [] w5).alloc _
        generalize w5.alloc (.cells #[.int .i64 3, .int .i64 3] 64) = wx at HX HKA ⊢
        generalize w5.heap.size = gx at HX ⊢
        have HKX : Hid (Keep [] w wx) := HK5.out.trans HKA.out (by simp)
        have HBX : Hid (Blk wx g #[.int .i64 0, .int .i64 0] 60) := HB5.out.keep HKA.out (by simp)
        have x0 := HX.out.cell 0 _ rfl
        have x1 := HX.out.cell 1 _ rfl
        have HMM := Lib.hid (HMO.out 1 (by decide) wx)
        clear HKA HB5 HK5
        go_wp2_with fail
        refine HMM.out.mono ?_; rintro e wy ⟨rfl, ky⟩
        have HKY : Hid (Keep [] w wy) := HKX.out.trans ky (by simp)
        have HBY := Lib.hid (HBX.out.keep ky (by simp))
        have x0 := (HX.out.keep ky (by simp)).cell 0 _ rfl
        have f0 := HBY.out.free 0
        have f1 := HBY.out.free 1
        have y0 := HBY.out.cell 0 _ rfl
        have y1 := HBY.out.cell 1 _ rfl
        clear HMM HX ky HBX HKX
        simp only [rpM, if_true, if_false, Nat.reduceEqDiff]
        obtain ⟨mn, hmn⟩ : ∃ mn, min k 10 = mn := ⟨_, rfl⟩
        have hmz : min (k : Int) 10 = (mn : Int) := by omega
        have hws : IntKind.i64.wrap ((mn : Int) - 3) = ((mn - 3 : Nat) : Int) := by rw [IntKind.wrap_i64]; omega
        rw [hmn] at HRR
        clear hmn
        go_wp2_with fail
        have HF : Hid (Blk ((wy.setCell ⟨g, 0, none⟩ (.int .i64 17)).setCell ⟨g, 1, none⟩ (.int .i64 ((mn - 3 : Nat) : Int))) g #[.int .i64 17, .int .i64 ((mn - 3 : Nat) : Int)] 60) := (HBY.out.set 0 (.int .i64 17)).set 1 (.int .i64 ((mn - 3 : Nat) : Int))
        refine bodyPost_ret (results_cellS rfl _ rfl HF.out _ Tryz.underlying60 rfl (by kernel_rfl)) rfl ?_
        exact ⟨by rw [← HRR.out]; rfl, (HKY.out.setCell (.inr HGG.out) _).setCell (.inr HGG.out) _⟩
      · rw [if_neg (fun h => c2 h.2), if_neg (fun h => c2 h.2)] at HRR
        have t2 : decide ((k : Int) ≥ 3) = false := by simp; omega
        have t2' : ¬ (3 : Int) ≤ (k : Int) := by omega
        by_cases c3 : 0 = last
        · subst c3
          have HB0 : Hid (Blk (w.alloc (.cells #[.int .i64 0, .int .i64 0] 60)) w.heap.size #[.int .i64 0, .int .i64 0] 60) := Blk.new w _ _
          obtain ⟨g, hg⟩ : ∃ g, w.heap.size = g := ⟨_, rfl⟩
          have HGG : Hid (w.heap.size ≤ g) := Nat.le_of_eq hg
          have HK1 : Hid (Keep [] w (w.alloc (.cells #[.int .i64 0, .int .i64 0] 60))) := (Keep.refl [] w).alloc _
          rw [hg] at HB0
          have hf0 := fun W a b => rp_f0 W a b
          go_enter Tryz.func44, Tryz.ntmps44
          go_wp2_with fail
          generalize w.alloc (.cells #[.int .i64 0, .int .i64 0] 60) = w1 at HB0 HK1 ⊢
          clear hg
          refine (HA.out w1 HK1.out).mono ?_; rintro e w2 ⟨rfl, m2, rfl⟩
          have HK2 : Hid (Keep [] w (w1.drewN m2)) := HK1.out.drewN m2
          have HB2 : Hid (Blk (w1.drewN m2) g #[.int .i64 0, .int .i64 0] 60) := HB0.out.keep ((Keep.refl [] w1).drewN m2) (by simp)
          obtain ⟨b, off, cap', hv, e0⟩ := HI.out _ HK2.out
          simp only [Value.slice.injEq] at hv
          obtain ⟨rfl, hvv, rfl⟩ := hv
          rw [Nat.add_zero] at e0
          clear hvv HA HI HK1 HB0
          generalize w1.drewN m2 = w2 at HK2 HB2 e0 ⊢
          go_wp2_with fail
          refine ((HRP.out 2 (by decide)) w2 HK2.out).mono ?_; rintro e w3 ⟨rfl, k3⟩
          have HK3 : Hid (Keep [] w w3) := HK2.out.trans k3 (by simp)
          have HB3 : Hid (Blk w3 g #[.int .i64 0, .int .i64 0] 60) := HB2.out.keep k3 (by simp)
          clear k3
          simp only [rpL, rpB, if_true, if_false, Nat.reduceEqDiff]
          go_wp2_with fail
          refine ((HRP.out 1 (by decide)) w3 HK3.out).mono ?_; rintro e w4 ⟨rfl, k4⟩
          have HK4 : Hid (Keep [] w w4) := HK3.out.trans k4 (by simp)
          have HB4 : Hid (Blk w4 g #[.int .i64 0, .int .i64 0] 60) := HB3.out.keep k4 (by simp)
          clear k4
          simp only [rpL, rpB, if_true, if_false, Nat.reduceEqDiff]
          go_wp2_with fail
          refine ((HRP.out 0 (by decide)) w4 HK4.out).mono ?_; rintro e w5 ⟨rfl, k5⟩
          have HK5 : Hid (Keep [] w w5) := HK4.out.trans k5 (by simp)
          have HB5 : Hid (Blk w5 g #[.int .i64 0, .int .i64 0] 60) := HB4.out.keep k5 (by simp)
          clear k5
          simp only [rpL, rpB, if_true, if_false, Nat.reduceEqDiff]
          have f0 := HB5.out.free 0
          have f1 := HB5.out.free 1
          have y0 := HB5.out.cell 0 _ rfl
          have y1 := HB5.out.cell 1 _ rfl
          have HF : Hid (Blk ((w5.setCell ⟨g, 0, none⟩ (.int .i64 0)).setCell ⟨g, 1, none⟩ (.int .i64 0)) g #[.int .i64 0, .int .i64 0] 60) := (HB5.out.set 0 (.int .i64 0)).set 1 (.int .i64 0)
          go_wp2_with fail
          refine bodyPost_ret (results_cellS rfl _ rfl HF.out _ Tryz.underlying60 rfl (by kernel_rfl)) rfl ?_
          exact ⟨by rw [← HRR.out]; rfl, (HK5.out.setCell (.inr HGG.out) _).setCell (.inr HGG.out) _⟩
        · have t3 : ((0 : Int) == last) = false := by simp; omega
          have HB0 : Hid (Blk (w.alloc (.cells #[.int .i64 0, .int .i64 0] 60)) w.heap.size #[.int .i64 0, .int .i64 0] 60) := Blk.new w _ _
          obtain ⟨g, hg⟩ : ∃ g, w.heap.size = g := ⟨_, rfl⟩
          have HGG : Hid (w.heap.size ≤ g) := Nat.le_of_eq hg
          have HK1 : Hid (Keep [] w (w.alloc (.cells #[.int .i64 0, .int .i64 0] 60))) := (Keep.refl [] w).alloc _
          rw [hg] at HB0
          have hf0 := fun W a b => rp_f0 W a b
          go_enter Tryz.func44, Tryz.ntmps44
          go_wp2_with fail
          generalize w.alloc (.cells #[.int .i64 0, .int .i64 0] 60) = w1 at HB0 HK1 ⊢
          clear hg
          refine (HA.out w1 HK1.out).mono ?_; rintro e w2 ⟨rfl, m2, rfl⟩
          have HK2 : Hid (Keep [] w (w1.drewN m2)) := HK1.out.drewN m2
          have HB2 : Hid (Blk (w1.drewN m2) g #[.int .i64 0, .int .i64 0] 60) := HB0.out.keep ((Keep.refl [] w1).drewN m2) (by simp)
          obtain ⟨b, off, cap', hv, e0⟩ := HI.out _ HK2.out
          simp only [Value.slice.injEq] at hv
          obtain ⟨rfl, hvv, rfl⟩ := hv
          rw [Nat.add_zero] at e0
          clear hvv HA HI HK1 HB0
          generalize w1.drewN m2 = w2 at HK2 HB2 e0 ⊢
          go_wp2_with fail
          refine ((HRP.out 2 (by decide)) w2 HK2.out).mono ?_; rintro e w3 ⟨rfl, k3⟩
          have HK3 : Hid (Keep [] w w3) := HK2.out.trans k3 (by simp)
          have HB3 : Hid (Blk w3 g #[.int .i64 0, .int .i64 0] 60) := HB2.out.keep k3 (by simp)
          clear k3
          simp only [rpL, rpB, if_true, if_false, Nat.reduceEqDiff]
          go_wp2_with fail
          refine ((HRP.out 1 (by decide)) w3 HK3.out).mono ?_; rintro e w4 ⟨rfl, k4⟩
          have HK4 : Hid (Keep [] w w4) := HK3.out.trans k4 (by simp)
          have HB4 : Hid (Blk w4 g #[.int .i64 0, .int .i64 0] 60) := HB3.out.keep k4 (by simp)
          clear k4
          simp only [rpL, rpB, if_true, if_false, Nat.reduceEqDiff]
          have f0 := HB4.out.free 0
          have f1 := HB4.out.free 1
          have y0 := HB4.out.cell 0 _ rfl
          have y1 := HB4.out.cell 1 _ rfl
          have HF : Hid (Blk ((w4.setCell ⟨g, 0, none⟩ (.int .i64 0)).setCell ⟨g, 1, none⟩ (.int .i64 0)) g #[.int .i64 0, .int .i64 0] 60) := (HB4.out.set 0 (.int .i64 0)).set 1 (.int .i64 0)
          go_wp2_with fail
          refine bodyPost_ret (results_cellS rfl _ rfl HF.out _ Tryz.underlying60 rfl (by kernel_rfl)) rfl ?_
          exact ⟨by rw [← HRR.out]; rfl, (HK4.out.setCell (.inr HGG.out) _).setCell (.inr HGG.out) _⟩
  · rw [if_neg (fun h => c0 h.1), if_neg (fun h => c0 h.1)] at HRR
    have t0 : (x == 0) = false := by simp; omega
    by_cases c3 : x = last
    · subst c3
      by_cases c2 : 3 ≤ k
      · rw [if_pos ⟨rfl, c2⟩] at HRR
        have t2 : decide ((k : Int) ≥ 3) = true := by simp; omega
        have HB0 : Hid (Blk (w.alloc (.cells #[.int .i64 0, .int .i64 0] 60)) w.heap.size #[.int .i64 0, .int .i64 0] 60) := Blk.new w _ _
        obtain ⟨g, hg⟩ : ∃ g, w.heap.size = g := ⟨_, rfl⟩
        have HGG : Hid (w.heap.size ≤ g) := Nat.le_of_eq hg
        have HK1 : Hid (Keep [] w (w.alloc (.cells #[.int .i64 0, .int .i64 0] 60))) := (Keep.refl [] w).alloc _
        rw [hg] at HB0
        have hf0 := fun W a b => rp_f0 W a b
        go_enter Tryz.func44, Tryz.ntmps44
        go_wp2_with fail
        generalize w.alloc (.cells #[.int .i64 0, .int .i64 0] 60) = w1 at HB0 HK1 ⊢
        clear hg
        refine (HA.out w1 HK1.out).mono ?_; rintro e w2 ⟨rfl, m2, rfl⟩
        have HK2 : Hid (Keep [] w (w1.drewN m2)) := HK1.out.drewN m2
        have HB2 : Hid (Blk (w1.drewN m2) g #[.int .i64 0, .int .i64 0] 60) := HB0.out.keep ((Keep.refl [] w1).drewN m2) (by simp)
        obtain ⟨b, off, cap', hv, e0⟩ := HI.out _ HK2.out
        simp only [Value.slice.injEq] at hv
        obtain ⟨rfl, hvv, rfl⟩ := hv
        rw [Nat.add_zero] at e0
        clear hvv HA HI HK1 HB0
        generalize w1.drewN m2 = w2 at HK2 HB2 e0 ⊢
        go_wp2_with fail
        refine ((HRP.out 0 (by decide)) w2 HK2.out).mono ?_; rintro e w3 ⟨rfl, k3⟩
        have HK3 : Hid (Keep [] w w3) := HK2.out.trans k3 (by simp)
        have HB3 : Hid (Blk w3 g #[.int .i64 0, .int .i64 0] 60) := HB2.out.keep k3 (by simp)
        clear k3
        simp only [rpL, rpB, if_true, if_false, Nat.reduceEqDiff]
        go_wp2_with fail
        refine ((HRP.out 0 (by decide)) w3 HK3.out).mono ?_; rintro e w4 ⟨rfl, k4⟩
        have HK4 : Hid (Keep [] w w4) := HK3.out.trans k4 (by simp)
        have HB4 : Hid (Blk w4 g #[.int .i64 0, .int .i64 0] 60) := HB3.out.keep k4 (by simp)
        clear k4
        simp only [rpL, rpB, if_true, if_false, Nat.reduceEqDiff]
        go_upto_region 11 with fail
        have HX : Hid (Blk (w4.alloc (.cells #[.int .i64 3, .int .i64 2] 64)) w4.heap.size #[.int .i64 3, .int .i64 2] 64) := Blk.new w4 _ _
        have HKA : Hid (Keep [] w4 (w4.alloc (.cells #[.int .i64 3, .int .i64 2] 64))) := (Keep.refl [] w4).alloc _
        generalize w4.alloc (.cells #[.int .i64 3, .int .i64 2] 64) = wx at HX HKA ⊢
        generalize w4.heap.size = gx at HX ⊢
        have HKX : Hid (Keep [] w wx) := HK4.out.trans HKA.out (by simp)
        have HBX : Hid (Blk wx g #[.int .i64 0, .int .i64 0] 60) := HB4.out.keep HKA.out (by simp)
        have x0 := HX.out.cell 0 _ rfl
        have x1 := HX.out.cell 1 _ rfl
        have HMM := Lib.hid (HMO.out 0 (by decide) wx)
        clear HKA HB4 HK4
        go_wp2_with fail
        refine HMM.out.mono ?_; rintro e wy ⟨rfl, ky⟩
        have HKY : Hid (Keep [] w wy) := HKX.out.trans ky (by simp)
        have HBY := Lib.hid (HBX.out.keep ky (by simp))
        have x0 := (HX.out.keep ky (by simp)).cell 0 _ rfl
        have f0 := HBY.out.free 0
        have f1 := HBY.out.free 1
        have y0 := HBY.out.cell 0 _ rfl
        have y1 := HBY.out.cell 1 _ rfl
        clear HMM HX ky HBX HKX
        simp only [rpM, if_true, if_false, Nat.reduceEqDiff]
        obtain ⟨mn, hmn⟩ : ∃ mn, min k 6 = mn := ⟨_, rfl⟩
        have hmz : min (k : Int) 6 = (mn : Int) := by omega
        have hws : IntKind.i64.wrap ((mn : Int) - 3) = ((mn - 3 : Nat) : Int) := by rw [IntKind.wrap_i64]; omega
        rw [hmn] at HRR
        clear hmn
        go_wp2_with fail
        have HF : Hid (Blk ((wy.setCell ⟨g, 0, none⟩ (.int .i64 16)).setCell ⟨g, 1, none⟩ (.int .i64 ((mn - 3 : Nat) : Int))) g #[.int .i64 16, .int .i64 ((mn - 3 : Nat) : Int)] 60) := (HBY.out.set 0 (.int .i64 16)).set 1 (.int .i64 ((mn - 3 : Nat) : Int))
        refine bodyPost_ret (results_cellS rfl _ rfl HF.out _ Tryz.underlying60 rfl (by kernel_rfl)) rfl ?_
        exact ⟨by rw [← HRR.out]; rfl, (HKY.out.setCell (.inr HGG.out) _).setCell (.inr HGG.out) _⟩
      · rw [if_neg (fun h => c2 h.2)] at HRR
        have t2 : decide ((k : Int) ≥ 3) = false := by simp; omega
        have t2' : ¬ (3 : Int) ≤ (k : Int) := by omega
        have HB0 : Hid (Blk (w.alloc (.cells #[.int .i64 0, .int .i64 0] 60)) w.heap.size #[.int .i64 0, .int .i64 0] 60) := Blk.new w _ _
        obtain ⟨g, hg⟩ : ∃ g, w.heap.size = g := ⟨_, rfl⟩
        have HGG : Hid (w.heap.size ≤ g) := Nat.le_of_eq hg
        have HK1 : Hid (Keep [] w (w.alloc (.cells #[.int .i64 0, .int .i64 0] 60))) := (Keep.refl [] w).alloc _
        rw [hg] at HB0
        have hf0 := fun W a b => rp_f0 W a b
        go_enter Tryz.func44, Tryz.ntmps44
        go_wp2_with fail
        generalize w.alloc (.cells #[.int .i64 0, .int .i64 0] 60) = w1 at HB0 HK1 ⊢
        clear hg
        refine (HA.out w1 HK1.out).mono ?_; rintro e w2 ⟨rfl, m2, rfl⟩
        have HK2 : Hid (Keep [] w (w1.drewN m2)) := HK1.out.drewN m2
        have HB2 : Hid (Blk (w1.drewN m2) g #[.int .i64 0, .int .i64 0] 60) := HB0.out.keep ((Keep.refl [] w1).drewN m2) (by simp)
        obtain ⟨b, off, cap', hv, e0⟩ := HI.out _ HK2.out
        simp only [Value.slice.injEq] at hv
        obtain ⟨rfl, hvv, rfl⟩ := hv
        rw [Nat.add_zero] at e0
        clear hvv HA HI HK1 HB0
        generalize w1.drewN m2 = w2 at HK2 HB2 e0 ⊢
        go_wp2_with fail
        refine ((HRP.out 0 (by decide)) w2 HK2.out).mono ?_; rintro e w3 ⟨rfl, k3⟩
        have HK3 : Hid (Keep [] w w3) := HK2.out.trans k3 (by simp)
        have HB3 : Hid (Blk w3 g #[.int .i64 0, .int .i64 0] 60) := HB2.out.keep k3 (by simp)
        clear k3
        simp only [rpL, rpB, if_true, if_false, Nat.reduceEqDiff]
        have f0 := HB3.out.free 0
        have f1 := HB3.out.free 1
        have y0 := HB3.out.cell 0 _ rfl
        have y1 := HB3.out.cell 1 _ rfl
        have HF : Hid (Blk ((w3.setCell ⟨g, 0, none⟩ (.int .i64 x)).setCell ⟨g, 1, none⟩ (.int .i64 0)) g #[.int .i64 x, .int .i64 0] 60) := (HB3.out.set 0 (.int .i64 x)).set 1 (.int .i64 0)
        go_wp2_with fail
        refine bodyPost_ret (results_cellS rfl _ rfl HF.out _ Tryz.underlying60 rfl (by kernel_rfl)) rfl ?_
        exact ⟨by rw [← HRR.out]; show Ending.returned (.tuple #[.agg #[.int .i64 x, .int .i64 0], .int .i64 1]) = Ending.returned (.tuple #[.agg #[.int .i64 ((x.toNat : Nat) : Int), .int .i64 0], .int .i64 1]); rw [Int.toNat_of_nonneg HX0.out], (HK3.out.setCell (.inr HGG.out) _).setCell (.inr HGG.out) _⟩
    · rw [if_neg (fun h => c3 h.1)] at HRR
      have t3 : (x == last) = false := by simp; omega
      have HB0 : Hid (Blk (w.alloc (.cells #[.int .i64 0, .int .i64 0] 60)) w.heap.size #[.int .i64 0, .int .i64 0] 60) := Blk.new w _ _
      obtain ⟨g, hg⟩ : ∃ g, w.heap.size = g := ⟨_, rfl⟩
      have HGG : Hid (w.heap.size ≤ g) := Nat.le_of_eq hg
      have HK1 : Hid (Keep [] w (w.alloc (.cells #[.int .i64 0, .int .i64 0] 60))) := (Keep.refl [] w).alloc _
      rw [hg] at HB0
      have hf0 := fun W a b => rp_f0 W a b
      go_enter Tryz.func44, Tryz.ntmps44
      go_wp2_with fail
      generalize w.alloc (.cells #[.int .i64 0, .int .i64 0] 60) = w1 at HB0 HK1 ⊢
      clear hg
      refine (HA.out w1 HK1.out).mono ?_; rintro e w2 ⟨rfl, m2, rfl⟩
      have HK2 : Hid (Keep [] w (w1.drewN m2)) := HK1.out.drewN m2
      have HB2 : Hid (Blk (w1.drewN m2) g #[.int .i64 0, .int .i64 0] 60) := HB0.out.keep ((Keep.refl [] w1).drewN m2) (by simp)
      obtain ⟨b, off, cap', hv, e0⟩ := HI.out _ HK2.out
      simp only [Value.slice.injEq] at hv
      obtain ⟨rfl, hvv, rfl⟩ := hv
      rw [Nat.add_zero] at e0
      clear hvv HA HI HK1 HB0
      generalize w1.drewN m2 = w2 at HK2 HB2 e0 ⊢
      have f0 := HB2.out.free 0
      have f1 := HB2.out.free 1
      have y0 := HB2.out.cell 0 _ rfl
      have y1 := HB2.out.cell 1 _ rfl
      have HF : Hid (Blk ((w2.setCell ⟨g, 0, none⟩ (.int .i64 x)).setCell ⟨g, 1, none⟩ (.int .i64 0)) g #[.int .i64 x, .int .i64 0] 60) := (HB2.out.set 0 (.int .i64 x)).set 1 (.int .i64 0)
      go_wp2_with fail
      refine bodyPost_ret (results_cellS rfl _ rfl HF.out _ Tryz.underlying60 rfl (by kernel_rfl)) rfl ?_
      exact ⟨by rw [← HRR.out]; show Ending.returned (.tuple #[.agg #[.int .i64 x, .int .i64 0], .int .i64 1]) = Ending.returned (.tuple #[.agg #[.int .i64 ((x.toNat : Nat) : Int), .int .i64 0], .int .i64 1]); rw [Int.toNat_of_nonneg HX0.out], (HK2.out.setCell (.inr HGG.out) _).setCell (.inr HGG.out) _⟩
end Go.Proofs.YtibkepjbblfkoaaGreatDoor
