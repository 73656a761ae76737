/- Contract of lives, and the walk of the law TokenRuns: it returns true at every input. -/
import Derived.Test.YtkjikcdobnegaaaTok8
namespace Go.Proofs.Ytkjikcdobnegaaa
set_option linter.unusedVariables false
set_option linter.unusedSimpArgs false
open Go.ChangeShapes Go.WideShapes Go.ChangeAt Go.RowKit

theorem Ts.lit (w : World) (ts : List Tk) (cs : Array Value) (n : Nat) (hc : cs.toList = tcells ts) (hn : ts.length = n) (hl : n ≤ maxLen) (hz : ∀ t ∈ ts, t.wf) : Ts (w.alloc (.cells cs 39)) (.slice (some ⟨w.heap.size, 0, none⟩) n n) ts := by
  subst hn
  refine ⟨some ⟨w.heap.size, 0, none⟩, ts.length, rfl, Nat.le_refl _, hl, (fun h => nomatch h), fun x hx j hj => ?_, hz⟩
  obtain rfl : (⟨w.heap.size, 0, none⟩ : Addr) = x := by simpa using hx
  rw [show (⟨w.heap.size, 0, none⟩ : Addr).add j = ⟨w.heap.size, j, none⟩ by cases j <;> simp [Addr.add]]
  obtain ⟨u, hu⟩ : ∃ u, (tcells ts)[j]? = some u := ⟨_, List.getElem?_eq_getElem (by rw [tcells_len]; exact hj)⟩
  rw [hu]
  exact (Blk.new w cs 39).cell j _ (by rw [← Array.getElem?_toList, hc]; exact hu)
theorem lives8_exp : expT [⟨7, 0, 0⟩, ⟨0, 1, 2⟩] 9 9 false = (0, [7, 7, 7]) := by decide
theorem lives8_c (w : World) : Calls Try.prog 12 #[] w fun e w' => e = .returned (.bool true) ∧ Keep [] w w' := by
  have hb := Ts.lit w [⟨7, 0, 0⟩, ⟨0, 1, 2⟩] #[.int .u8 7, .int .i64 0, .int .i64 0, .int .u8 0, .int .i64 1, .int .i64 2] 2 rfl rfl (by decide) (by decide)
  have hk := (Keep.refl [] w).alloc (.cells #[.int .u8 7, .int .i64 0, .int .i64 0, .int .u8 0, .int .i64 1, .int .i64 2] 39)
  have hc := tok_expand _ _ _ 9 9 false hb (by decide) (by decide) (by decide)
  rw [lives8_exp] at hc
  have HC := Lib.hid hc
  clear hc
  go_enter Try.func12, Try.ntmps12
  go_wp2_with fail
  refine HC.out.mono ?_; rintro e w1 ⟨v', rfl, hi, hk1⟩
  have K1 := hk.trans hk1 (by simp)
  obtain ⟨a, cap, rfl, _⟩ := hi.shape
  have hb2 := Ts.lit w1 [⟨0, 0, 0⟩] #[.int .u8 0, .int .i64 0, .int .i64 0] 1 rfl rfl (by decide) (by decide)
  have K2 := K1.alloc (.cells #[.int .u8 0, .int .i64 0, .int .i64 0] 39)
  have HS := Lib.hid (tok_size _ _ _ hb2)
  rw [show ((sizeT [⟨0, 0, 0⟩] : Nat) : Int) = 1 from by decide] at HS
  clear hb hk HC hi hk1 hb2
  go_wp2_with fail
  refine HS.out.mono ?_; rintro e w2 ⟨rfl, k2⟩
  have K2' := K2.trans k2 (by simp)
  go_wp2_with fail
  go_ret
  exact ⟨rfl, K2'⟩
set_option maxRecDepth 100000 in
set_option maxHeartbeats 2000000 in
theorem tokruns_w (W : World) (v0 : Value) (l0 : List UInt8) (h0 : Bs W v0 l0) : Calls Try.prog 3 #[v0] W fun e w' => e = .returned (.bool true) ∧ Keep [] W w' := by
  go_enter Try.func3, Try.ntmps3
  go_wp2_with fail
  refine (cut_c W v0 l0 1200 (by omega) h0).mono ?_; rintro e w1 ⟨va, rfl, ha, _, rfl⟩
  have hlen : (l0.take 1200).length ≤ 1200 := by rw [List.length_take]; omega
  generalize l0.take 1200 = b at ha hlen
  obtain ⟨a, cap, rfl, _⟩ := ha.shape
  clear h0
  have HE := Lib.hid (runs_exp b (by omega))
  have HZ := Lib.hid (runs_size b (by omega))
  have HS : Hid (sumT (runs b) = b.length) := (rn_all b b.length (Nat.le_refl _)).sum
  have HA := Lib.hid (fun w' (k : Keep [] W w') => ha.keep k (by simp))
  have HR := Lib.hid (tok_runs W _ b (by omega) ha)
  clear ha
  go_wp2_with fail
  refine HR.out.mono ?_; rintro e w1 ⟨v1, rfl, t1, k1⟩
  have HT := Lib.hid (fun w' (k : Keep [] w1 w') => t1.keep k (by simp))
  have HX := Lib.hid (tok_expand w1 v1 (runs b) 1 b.length false t1 (by decide) (by simp [Lit.wf, IntKind.min, IntKind.max, IntKind.bits, IntKind.signed]; omega) (by rw [HS.out]; omega))
  rw [HE.out] at HX
  clear t1 HR
  go_wp2_with fail
  refine HX.out.mono ?_; rintro e w2 ⟨v2, rfl, b2, k2⟩
  have K2 : Keep [] W w2 := k1.trans k2 (by simp)
  have HRR := Lib.hid (refruns8_c w2 _ b (by omega) (HA.out w2 K2))
  clear HX
  go_wp2_with fail
  refine HRR.out.mono ?_; rintro e w3 ⟨v3, rfl, o3, k3, _⟩
  have K3 : Keep [] W w3 := K2.trans k3 (by simp)
  have K13 : Keep [] w1 w3 := k2.trans k3 (by simp)
  have HSM := Lib.hid (refsame8_c w3 v1 v3 (runs b) (HT.out w3 K13) o3.ts)
  clear HRR o3
  go_wp2_with fail
  refine HSM.out.mono ?_; rintro e w4 ⟨rfl, n4, rfl⟩
  have K4 : Keep [] W (w3.drewN n4) := K3.drewN n4
  have K24 : Keep [] w2 (w3.drewN n4) := k3.drewN n4
  have HSB := Lib.hid (same_c (w3.drewN n4) _ v2 b b (HA.out _ K4) (b2.keep K24 (by simp)))
  rw [decide_eq_true (rfl : b = b)] at HSB
  have K14 : Keep [] w1 (w3.drewN n4) := K13.drewN n4
  clear HSM
  go_wp2_with fail
  refine HSB.out.mono ?_; rintro e w5 ⟨rfl, n5, rfl⟩
  have K5 : Keep [] W ((w3.drewN n4).drewN n5) := K4.drewN n5
  have HSZ := Lib.hid (tok_size ((w3.drewN n4).drewN n5) v1 (runs b) (HT.out _ (K14.drewN n5)))
  rw [HZ.out] at HSZ
  generalize (w3.drewN n4).drewN n5 = w6 at K5 HSZ ⊢
  clear HSB
  go_wp2_with fail
  refine HSZ.out.mono ?_; rintro e w7 ⟨rfl, k7⟩
  have K7 := K5.trans k7 (by simp)
  go_wp2_with fail
  refine (lives8_c _).mono ?_; rintro e w8 ⟨rfl, k8⟩
  have K8 := K7.trans k8 (by simp)
  go_wp2_with fail
  go_ret
  exact ⟨rfl, K8⟩
end Go.Proofs.Ytkjikcdobnegaaa
