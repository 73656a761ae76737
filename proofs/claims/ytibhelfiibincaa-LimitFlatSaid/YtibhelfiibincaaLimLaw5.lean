/- The walk of the law LimitFlat: it returns true at every input. -/
import Derived.Test.YtibhelfiibincaaLimLaw3
import Derived.Test.YtibhelfiibincaaWithin
import Derived.Deep.OwnRows
namespace Go.Proofs.Ytibhelfiibincaa
set_option linter.unusedVariables false
set_option linter.unusedSimpArgs false
open Go.ChangeShapes Go.WideShapes Go.ChangeAt Go.RowKit

theorem fn_rep (n x i : Nat) (h : i < n) : fn (List.replicate n (x : Int)) i = x := by
  unfold fn; rw [List.getD_eq_getElem?_getD, List.getElem?_replicate, if_pos h]; rfl
theorem used_rep (n x : Nat) (hx : 0 < x) : usedN n (fn (List.replicate n (x : Int))) = n := by
  unfold usedN ct
  rw [sm_congr _ (fun _ => 1) n (fun t ht => by have := fn_rep n x t ht; simp only [this]; simp; omega), sm_const, Nat.one_mul]
theorem may_rep (n x M : Nat) (hn : n ≤ 300) (hx : 0 < x) (hx2 : x ≤ 1048576) (hM : 10 ≤ M) (hM2 : M ≤ 16) : mayF (List.replicate n (x : Int)) M = true := by
  rw [mayF_iff, List.length_replicate, used_rep n x hx, okF_iff]
  refine ⟨by omega, by omega, by omega, fun z hz => ?_, ?_⟩
  · rw [(List.mem_replicate.1 hz).2]; omega
  · have : (2 : Nat) ^ 10 ≤ 2 ^ (M : Int).toNat := Nat.pow_le_pow_right (by decide) (by omega)
    omega
/-- lengths of symbols that come equally often -/
theorem flat_len (n x M : Nat) (ls : List Int) (h2 : 2 ≤ n) (hn : n ≤ 300) (hx : 0 < x) (hM : 10 ≤ M) (hM2 : M ≤ 16) (hb : BestL (List.replicate n (x : Int)) ls M) :
    ∃ m, m ≤ 8 ∧ (∀ i, i < n → fn ls i = m ∨ fn ls i = m + 1) ∧ (∀ k, (∀ i, i < n → k ≤ fn ls i) → 2 ^ k ≤ n) ∧ ∀ k, (∀ i, i < n → fn ls i ≤ k) → n ≤ 2 ^ k := by
  obtain ⟨hll, hlz, hg⟩ := hb
  rw [List.length_replicate] at hg hll
  have hMt : (M : Int).toNat = M := by omega
  rw [hMt] at hg
  have hu := used_rep n x hx
  have hk : sm (fun r => 2 ^ (16 - fn ls r)) n = 2 ^ 16 := by
    have := hg.full (by rw [hu]; exact h2)
    unfold wsum at this
    rw [sm_congr _ (fun r => 2 ^ (16 - fn ls r)) n (fun t ht => by rw [fn_rep n x t ht, if_neg (by omega)])] at this
    exact this
  have hle : ∀ r, r < n → fn ls r ≤ 16 := fun r hr => by have := hg.le r hr; omega
  have hcost : ∀ o : Nat → Nat, cost n (fn (List.replicate n (x : Int))) o = sm (fun r => x * o r) n := fun o => sm_congr _ _ _ (fun t ht => by rw [fn_rep n x t ht])
  have hl1 := Nat.log2_self_le (n := n) (by omega)
  have hl2 := Nat.lt_log2_self (n := n)
  have hm8 : n.log2 ≤ 8 := by
    rcases Nat.lt_or_ge 8 n.log2 with h | h
    · have : 2 ^ 9 ≤ 2 ^ n.log2 := Nat.pow_le_pow_right (by decide) h
      omega
    · exact h
  have hm1 : 1 ≤ n.log2 := by
    rcases Nat.eq_zero_or_pos n.log2 with h | h
    · rw [h] at hl2; omega
    · exact h
  generalize n.log2 = m at *
  refine ⟨m, hm8, ?_, ?_, ?_⟩
  · refine flat n 16 m x (fn ls) hx (by omega) hl1 (by omega) hle hk ?_
    intro o ho hw
    rw [← hcost, ← hcost]
    refine hg.best o (fun i hi _ => by rcases ho i hi with e | e <;> omega) ?_
    unfold wsum
    rw [sm_congr _ (fun r => 2 ^ (16 - o r)) n (fun t ht => by rw [fn_rep n x t ht, if_neg (by omega)])]
    exact hw
  · intro k h
    have hk16 : k ≤ 16 := Nat.le_trans (h 0 (by omega)) (hle 0 (by omega))
    have h1 : sm (fun r => 2 ^ (16 - fn ls r)) n ≤ sm (fun _ => 2 ^ (16 - k)) n := sm_le _ _ _ (fun t ht => Nat.pow_le_pow_right (by decide) (by have := h t ht; omega))
    rw [hk, sm_const] at h1
    have e : 2 ^ 16 = 2 ^ (16 - k) * 2 ^ k := by rw [← Nat.pow_add]; congr 1; omega
    rw [e] at h1
    exact Nat.le_of_mul_le_mul_left h1 (Nat.pow_pos (by decide))
  · intro k h
    rcases Nat.lt_or_ge 16 k with hk16 | hk16
    · have : 2 ^ 16 ≤ 2 ^ k := Nat.pow_le_pow_right (by decide) (by omega)
      omega
    have h1 : sm (fun _ => 2 ^ (16 - k)) n ≤ sm (fun r => 2 ^ (16 - fn ls r)) n := sm_le _ _ _ (fun t ht => Nat.pow_le_pow_right (by decide) (by have := h t ht; omega))
    rw [hk, sm_const] at h1
    have e : 2 ^ 16 = 2 ^ (16 - k) * 2 ^ k := by rw [← Nat.pow_add]; congr 1; omega
    rw [e] at h1
    exact Nat.le_of_mul_le_mul_left h1 (Nat.pow_pos (by decide))
set_option maxRecDepth 100000 in
set_option maxHeartbeats 2000000 in
theorem flat_w (W : World) (n0 : Int) (hw1 : (Lit.int .i64 n0).wf = true) (often0 : Int) (hw2 : (Lit.int .i64 often0).wf = true) (most0 : Int) (hw3 : (Lit.int .i64 most0).wf = true) : Calls Try.prog 7 #[.int .i64 n0, .int .i64 often0, .int .i64 most0] W fun e w' => e = .returned (.bool true) ∧ Keep [] W w' := by
  go_enter Try.func7, Try.ntmps7
  go_wp2_with fail
  refine (within_c n0 2 300 _ (by omega)).mono ?_; rintro e w1 ⟨rfl, rfl⟩
  obtain ⟨n, hn⟩ : ∃ n : Nat, max 2 (min n0 300) = n := ⟨(max 2 (min n0 300)).toNat, by omega⟩
  have hn1 : 2 ≤ n ∧ n ≤ 300 := by omega
  rw [hn]
  go_wp2_with fail
  refine (within_c often0 1 1048576 _ (by omega)).mono ?_; rintro e w1 ⟨rfl, rfl⟩
  obtain ⟨x, hx⟩ : ∃ x : Nat, max 1 (min often0 1048576) = x := ⟨(max 1 (min often0 1048576)).toNat, by omega⟩
  have hx1 : 1 ≤ x ∧ x ≤ 1048576 := by omega
  rw [hx]
  go_wp2_with fail
  refine (within_c most0 10 16 _ (by omega)).mono ?_; rintro e w1 ⟨rfl, rfl⟩
  obtain ⟨M, hM⟩ : ∃ M : Nat, max 10 (min most0 16) = M := ⟨(max 10 (min most0 16)).toNat, by omega⟩
  have hM1 : 10 ≤ M ∧ M ≤ 16 := by omega
  rw [hM]
  clear hn hx hM hw1 hw2 hw3
  have hmk := run_make_row' (P := Try.prog) 22 3 (.int .i64 0) 8 Try.underlying22 info64 rfl .i64 .i64 n (by omega) (by omega)
  go_wp2_with fail
  have hb0 : Blk (W.alloc (.cells (madeCells #[.int .i64 0] n) 3)) W.heap.size (madeCells #[.int .i64 0] n) 3 := Blk.new _ _ _
  have hk0 : Keep [] W (W.alloc (.cells (madeCells #[.int .i64 0] n) 3)) := (Keep.refl [] W).alloc _
  have hs0 : (madeCells #[Value.int .i64 0] n).size = n := size_madeCells _ _
  generalize madeCells #[Value.int .i64 0] n = c0 at hb0 hk0 hs0 ⊢
  go_loopw [8] (fun i wr => ∃ (k : Nat) (cs : Array Value), k ≤ n ∧ i = .int .i64 k ∧ Hid (cs.size = n) ∧ Hid (∀ j, j < k → cs[j]? = some (.int .i64 x)) ∧ Blk wr W.heap.size cs 3 ∧ Keep [] W wr) (fun i _ => n - (intOf i).toNat)
  case atStart => exact ⟨0, c0, by omega, rfl, hs0, fun j hj => by omega, hb0, hk0⟩
  case round =>
    clear hb0 hk0 hs0
    obtain ⟨k, cs, hk, rfl, HS, HC, hb, hK⟩ := hrel
    by_cases hlt : k < n
    · have f1 := hb.free k
      have c1 := hb.cell k (cs[k]'(by have := HS.out; omega)) (Array.getElem?_eq_getElem (by have := HS.out; omega))
      have hb2 := hb.set k (.int .i64 (x : Int))
      have hK2 : Keep [] W (wr.setCell ⟨W.heap.size, k, none⟩ (.int .i64 (x : Int))) := hK.setCell (.inr (by simp)) _
      have HS2 : Hid ((cs.setIfInBounds k (.int .i64 (x : Int))).size = n) := by unfold Hid; simpa using HS.out
      have HC2 : Hid (∀ j, j < k + 1 → (cs.setIfInBounds k (.int .i64 (x : Int)))[j]? = some (.int .i64 x)) := by
        intro j hj
        rw [Array.getElem?_setIfInBounds]
        by_cases e : k = j
        · subst e; rw [if_pos rfl, if_pos (by have := HS.out; omega)]
        · rw [if_neg e]; exact HC.out j (by omega)
      generalize cs.setIfInBounds k (.int .i64 (x : Int)) = cs2 at hb2 HS2 HC2
      clear hb hK
      go_wp2_with fail
      go_roundw
      case rel => exact ⟨k + 1, cs2, by omega, by go_num, HS2, HC2, hb2, hK2⟩
      case measure => simp [intOf]; omega
    · obtain rfl : k = n := by omega
      have hxw : (Lit.int .i64 (x : Int)).wf = true := by
        have a : IntKind.i64.min = -9223372036854775808 := by decide
        have b : IntKind.i64.max = 9223372036854775807 := by decide
        simp only [Lit.wf, a, b, Bool.and_eq_true, decide_eq_true_eq]; omega
      have hIs : Is .i64 wr (.slice (some ⟨W.heap.size, 0, none⟩) k k) (List.replicate k (x : Int)) := by
        refine ⟨some ⟨W.heap.size, 0, none⟩, k, by rw [List.length_replicate], by simp, by unfold maxLen; omega, (fun h => nomatch h), fun y hy i hi => ?_, fun z hz => by rw [(List.mem_replicate.1 hz).2]; exact hxw⟩
        obtain rfl : (⟨W.heap.size, 0, none⟩ : Addr) = y := by simpa using hy
        rw [show (⟨W.heap.size, 0, none⟩ : Addr).add i = ⟨W.heap.size, i, none⟩ by unfold Addr.add; split <;> simp_all]
        rw [List.length_replicate] at hi
        rw [hb.cell i _ (HC.out i hi)]
        simp
      have hMw : (Lit.int .i64 (M : Int)).wf = true := by
        have : M = 10 ∨ M = 11 ∨ M = 12 ∨ M = 13 ∨ M = 14 ∨ M = 15 ∨ M = 16 := by omega
        rcases this with rfl | rfl | rfl | rfl | rfl | rfl | rfl <;> decide
      have HLE := Lib.hid (lim_lengths wr _ _ M hIs hMw)
      have HMAY := Lib.hid (may_rep k x M hn1.2 hx1.1 hx1.2 hM1.1 hM1.2)
      have HFL := Lib.hid (fun ls => flat_len k x M ls hn1.1 hn1.2 hx1.1 hM1.1 hM1.2)
      clear hb HC HS hIs hMw hxw hmk
      go_wp2_with fail
      refine HLE.out.mono ?_; rintro e w2 ⟨vl, ls, er, rfl, hls, k2, _, hbest⟩
      obtain ⟨rfl, hB⟩ := hbest HMAY.out
      obtain ⟨m, hm8, hmm, hlo, hhi⟩ := HFL.out ls hB
      have HL : Hid (∀ w' (k' : Keep [] w2 w') i (hi : i < k), ∃ b off cap, vl = .slice (some ⟨b, off, none⟩) k cap ∧ w'.cell? ⟨b, off + i, none⟩ = some (.int .i64 (fn ls i : Nat))) := by
        intro w' k' i hi
        have := hB.cells (hls.keep k' (by simp)) i (by rw [List.length_replicate]; exact hi)
        rwa [List.length_replicate] at this
      have hll := hB.1
      rw [List.length_replicate] at hll
      obtain ⟨al, capl, rfl, _⟩ := hls.sh
      rw [hll] at HL ⊢
      have HMM := Lib.hid hmm; have HLO := Lib.hid hlo; have HHI := Lib.hid hhi
      have K2 := hK.trans k2 (by simp)
      clear HLE HMAY HFL hbest hB hls hll hmm hlo hhi k2 hK
      go_wp2_with fail
      go_loopw [11, 12, 13] (fun a b i wr => ∃ (j lo hi : Nat), j ≤ k ∧ i = .int .i64 j ∧ a = .int .i64 lo ∧ b = .int .i64 hi ∧ Hid (∀ i, i < j → lo ≤ fn ls i ∧ fn ls i ≤ hi) ∧ ((j = 0 ∧ lo = 99 ∧ hi = 0) ∨ (0 < j ∧ m ≤ lo ∧ lo ≤ m + 1 ∧ m ≤ hi ∧ hi ≤ m + 1)) ∧ Keep [] w2 wr) (fun _ _ i _ => k - (intOf i).toNat)
      case atStart => exact ⟨0, 99, 0, by omega, rfl, rfl, rfl, fun i hi => by omega, .inl ⟨rfl, rfl, rfl⟩, Keep.refl _ _⟩
      case round =>
        obtain ⟨j, lo, hi, hj, rfl, rfl, rfl, HR, hor, KR⟩ := hrel
        by_cases hltj : j < k
        · obtain ⟨b, off, cap, hv, e1⟩ := HL.out _ KR j hltj
          simp only [Value.slice.injEq] at hv
          obtain ⟨h1, h2, rfl⟩ := hv
          clear h2
          subst h1
          have hfj := HMM.out j hltj
          have HR2 : Hid (∀ i, i < j + 1 → min lo (fn ls j) ≤ fn ls i ∧ fn ls i ≤ max hi (fn ls j)) := by
            intro i hi'
            by_cases e : i = j
            · subst e; omega
            · have := HR.out i (by omega); omega
          generalize fn ls j = z at *
          have hor2 : 0 < j + 1 ∧ m ≤ min lo z ∧ min lo z ≤ m + 1 ∧ m ≤ max hi z ∧ max hi z ≤ m + 1 := by omega
          clear hor hfj
          go_wp2_with fail
          go_quiet (fail)
          go_wp2_with fail
          go_roundw
          case rel =>
            refine ⟨j + 1, min lo z, max hi z, by omega, by go_num, ?_, ?_, HR2, .inr hor2, KR.drewN _⟩
            · congr 1; split <;> omega
            · congr 1; split <;> omega
          case measure => simp [intOf]; omega
        · obtain rfl : j = k := by omega
          have hfin : m ≤ lo ∧ lo ≤ m + 1 ∧ m ≤ hi ∧ hi ≤ m + 1 := by omega
          have h1 := HLO.out lo (fun i hi => (HR.out i hi).1)
          have h2 := HHI.out hi (fun i hi => (HR.out i hi).2)
          have hlo9 : 2 ^ lo ≤ 512 := Nat.le_trans (Nat.pow_le_pow_right (n := 2) (j := 9) (by decide) (by omega)) (by decide)
          have hhi9 : 2 ^ hi ≤ 512 := Nat.le_trans (Nat.pow_le_pow_right (n := 2) (j := 9) (by decide) (by omega)) (by decide)
          have hp1 : 1 ≤ 2 ^ lo := Nat.pow_pos (by decide)
          have eP : (2 : Int) ^ lo = ((2 ^ lo : Nat) : Int) := by simp
          have eQ : (2 : Int) ^ hi = ((2 ^ hi : Nat) : Int) := by simp
          generalize 2 ^ lo = P at *
          generalize 2 ^ hi = Q at *
          have hsub : ((hi : Int) - lo ≤ 1) := by omega
          clear HR hor
          go_wp2_with fail
          refine (lives_c _).mono ?_; rintro e w12 ⟨rfl, k12⟩
          go_wp2_with fail
          go_ret
          exact ⟨rfl, (K2.trans KR (by simp)).trans k12 (by simp)⟩
end Go.Proofs.Ytibhelfiibincaa
