/- The walk of the law TokenSizes: it returns true at every input. -/
import Derived.Test.YtkjikcdobnegaaaTokLaw1
import Derived.Test.YtkjikcdobnegaaaWithin
namespace Go.Proofs.Ytkjikcdobnegaaa
set_option linter.unusedVariables false
set_option linter.unusedSimpArgs false
open Go.ChangeShapes Go.WideShapes Go.ChangeAt Go.RowKit

theorem sumT_few (ts : List Tk) (n : Nat) : sumT (fewT ts n 300) ≤ 300 * n := by
  have h : ∀ l : List Tk, sumT (l.map fun t => if (300 : Int) < t.len then { t with len := 300 } else t) ≤ 300 * l.length := by
    intro l
    induction l with
    | nil => simp [sumT]
    | cons t l ih =>
      have e : sumT ((t :: l).map fun t => if (300 : Int) < t.len then { t with len := 300 } else t) = sz1 (if (300 : Int) < t.len then { t with len := 300 } else t) + sumT (l.map fun t => if (300 : Int) < t.len then { t with len := 300 } else t) := by simp [sumT]
      rw [e, List.length_cons]
      have : sz1 (if (300 : Int) < t.len then { t with len := 300 } else t) ≤ 300 := by
        unfold sz1
        by_cases h1 : (300 : Int) < t.len
        · rw [if_pos h1]; show (if (300 : Int) = 0 then 1 else (300 : Int).toNat) ≤ 300; decide
        · rw [if_neg h1]; split <;> omega
      omega
  have h1 := h (ts.take n)
  have h2 : (ts.take n).length ≤ n := by rw [List.length_take]; omega
  have h3 : 300 * (ts.take n).length ≤ 300 * n := Nat.mul_le_mul_left _ h2
  unfold fewT
  omega
theorem expT_ok {ts : List Tk} {win : Int} {n : Nat} (h : (expT ts win n true).1 = 0) : (expT ts win n true).2.length = sumT ts ∧ (∀ m : Nat, m < sumT ts → expT ts win m true = (9, [])) := by
  unfold expT at *
  by_cases hb : winBad win n
  · rw [if_pos hb] at h; simp at h
  rw [if_neg hb] at h ⊢
  by_cases h0 : (tellT ⟨win.toNat, n, true, []⟩ ts).1 = 0
  · have h1 := tellT_size h0
    simp only [Int.toNat_natCast] at h ⊢
    rw [if_pos h0]
    refine ⟨by simpa using h1, fun m hm => ?_⟩
    have h9 := tellT_less h0 m (by simp) (by simpa using hm)
    have h9' : (tellT ⟨win.toNat, m, true, []⟩ ts).1 = 9 := h9
    have hbm : ¬ winBad win m := by unfold winBad at *; omega
    rw [if_neg hbm, h9', if_neg (by decide)]
  · simp only [Int.toNat_natCast] at h
    rw [if_neg h0] at h; exact absurd h h0
theorem expT_bad {ts : List Tk} {win most : Int} {nou : Bool} (h : (expT ts win most nou).1 ≠ 0) : (expT ts win most nou).2 = [] := by
  unfold expT at *
  by_cases hb : winBad win most
  · rw [if_pos hb]
  rw [if_neg hb] at h ⊢
  by_cases h0 : (tellT ⟨win.toNat, most.toNat, nou, []⟩ ts).1 = 0
  · rw [if_pos h0] at h; simp at h
  · rw [if_neg h0]
set_option maxRecDepth 100000 in
set_option maxHeartbeats 2000000 in
theorem toksizes_w (W : World) (v0 : Value) (ts0 : List Tk) (h0 : Ts W v0 ts0) (win : Int) (hwin : (Lit.int .i64 win).wf = true) (less : Int) (hless : (Lit.int .i64 less).wf = true) : Calls Try.prog 4 #[v0, .int .i64 win, .int .i64 less] W fun e w' => e = .returned (.bool true) ∧ Keep [] W w' := by
  have HW := Lib.hid (reffew8_c W v0 ts0 20 300 (by omega) (by decide) h0)
  clear h0
  go_enter Try.func4, Try.ntmps4
  go_wp2_with fail
  refine HW.out.mono ?_; rintro e w1 ⟨v1, rfl, o1, k1, _⟩
  have hs := sumT_few ts0 20
  generalize fewT ts0 20 300 = ts at o1 hs
  have HT := Lib.hid (fun w' (k : Keep [] w1 w') => o1.ts.keep k (by simp))
  have HZ := Lib.hid (tok_size w1 v1 ts o1.ts)
  have hz : sizeT ts = sumT ts := by unfold sizeT; omega
  rw [hz] at HZ
  clear o1 HW hz
  go_wp2_with fail
  refine HZ.out.mono ?_; rintro e w2 ⟨rfl, K12⟩
  have HX := Lib.hid (tok_expand w2 v1 ts win (sumT ts) true (HT.out _ K12) hwin (by simp [Lit.wf, IntKind.min, IntKind.max, IntKind.bits, IntKind.signed]; omega) (by omega))
  have K2 : Keep [] W w2 := k1.trans K12 (by simp)
  clear HZ
  go_wp2_with fail
  refine HX.out.mono ?_; rintro e w3 ⟨v3, rfl, b3, k3⟩
  have K3 : Keep [] W w3 := K2.trans k3 (by simp)
  have K13 : Keep [] w1 w3 := K12.trans k3 (by simp)
  obtain ⟨a, cap, hv3, _⟩ := b3.shape
  subst hv3
  clear HX b3 k3
  by_cases he : (expT ts win (sumT ts) true).1 = 0
  · obtain ⟨hl, hm⟩ := expT_ok he
    rw [he]
    have HM := Lib.hid hm
    rw [hl]
    clear hm hl
    by_cases hn0 : sumT ts = 0
    · have hd1 : ((sumT ts : Int) == 0) = true := by rw [beq_iff_eq]; omega
      rw [hn0] at hd1 ⊢
      clear HM he hn0
      go_wp2_with fail
      refine (lives8_c _).mono ?_; rintro e w8 ⟨rfl, k8⟩
      have K8 := K3.trans k8 (by simp)
      go_wp2_with fail
      go_ret
      exact ⟨rfl, K8⟩
    · have hd1 : ((sumT ts : Int) == 0) = false := by rw [beq_eq_false_iff_ne]; omega
      have hw1 : IntKind.i64.wrap ((sumT ts : Int) - 1) = (sumT ts : Int) - 1 := by rw [IntKind.wrap_i64]; omega
      obtain ⟨m, hmm⟩ : ∃ m : Nat, (m : Int) = max 0 (min less ((sumT ts : Int) - 1)) := ⟨(max 0 (min less ((sumT ts : Int) - 1))).toNat, by omega⟩
      have h9 := HM.out m (by omega)
      have HWI := Lib.hid (fun w => within_c less 0 ((sumT ts : Int) - 1) w (by omega))
      rw [← hmm] at HWI
      have HX2 := Lib.hid (tok_expand w3 v1 ts win m true (HT.out _ K13) hwin (by simp [Lit.wf, IntKind.min, IntKind.max, IntKind.bits, IntKind.signed]; omega) (by omega))
      rw [h9] at HX2
      clear HM he h9 hmm
      generalize sumT ts = n at *
      go_wp2_with fail
      refine (HWI.out _).mono ?_; rintro e w4 ⟨rfl, rfl⟩
      go_wp2_with fail
      refine HX2.out.mono ?_; rintro e w5 ⟨v5, rfl, b5, k5⟩
      obtain ⟨a5, c5, hv5, _⟩ := b5.shape
      subst hv5
      have K5 : Keep [] W w5 := K3.trans k5 (by simp)
      clear HX2 HWI b5
      go_wp2_with fail
      refine (lives8_c _).mono ?_; rintro e w8 ⟨rfl, k8⟩
      have K8 := K5.trans k8 (by simp)
      go_wp2_with fail
      go_ret
      exact ⟨rfl, K8⟩
  · have hb := expT_bad he
    rw [hb]
    have hd1 : (((expT ts win (sumT ts) true).1 : Int) != 0) = true := by rw [bne_iff_ne]; omega
    generalize (expT ts win (sumT ts) true).1 = er at *
    clear hb he
    go_wp2_with fail
    refine (lives8_c _).mono ?_; rintro e w8 ⟨rfl, k8⟩
    have K8 := K3.trans k8 (by simp)
    go_wp2_with fail
    go_ret
    exact ⟨rfl, K8⟩
end Go.Proofs.Ytkjikcdobnegaaa
