/- Contract of lives, and the walk of the law SfanoWords: it returns true at every input. -/
import Derived.Test.YtblogjpoijfpbaaSf
namespace Go.Proofs.Ytblogjpoijfpbaa
set_option linter.unusedVariables false
set_option linter.unusedSimpArgs false
open Go.ChangeShapes Go.WideShapes Go.ChangeAt Go.RowKit

theorem Is.lit6 (w : World) (l : List Int) (cs : Array Value) (n : Nat) (hc : cs.toList = ints64 l) (hn : l.length = n) (hl : n ≤ maxLen) (hz : ∀ z ∈ l, (Lit.int .i64 z).wf = true) : Is .i64 (w.alloc (.cells cs 3)) (.slice (some ⟨w.heap.size, 0, none⟩) n n) l := by
  subst hn
  refine ⟨some ⟨w.heap.size, 0, none⟩, l.length, rfl, Nat.le_refl _, hl, (fun h => nomatch h), fun x hx i hi => ?_, hz⟩
  obtain rfl : (⟨w.heap.size, 0, none⟩ : Addr) = x := by simpa using hx
  rw [show (⟨w.heap.size, 0, none⟩ : Addr).add i = ⟨w.heap.size, i, none⟩ by unfold Addr.add; split <;> simp_all]
  refine (Blk.new w cs 3).cell i _ ?_
  rw [← Array.getElem?_toList, hc]
  simp [ints64, hi]
theorem lives6_w : schk [2, 1, 2] = 0 := by decide
theorem lives6_L : Ls [2, 1, 2] = [2, 1, 2] := by decide
theorem lives6_code : scode [2, 1, 2] 1 = 1 ∧ len [2, 1, 2] 1 = 1 := by decide
theorem lives6_c (w : World) : Calls Try.prog 15 #[] w fun e w' => e = .returned (.bool true) ∧ Keep [] w w' := by
  have hb := Is.lit6 w [2, 1, 2] #[.int .i64 2, .int .i64 1, .int .i64 2] 3 rfl rfl (by decide) (by decide)
  have hk := (Keep.refl [] w).alloc (.cells #[.int .i64 2, .int .i64 1, .int .i64 2] 3)
  have hc := sf_codes _ _ _ hb
  rw [lives6_w, lives6_L] at hc
  have HC := Lib.hid hc
  clear hc
  go_enter Try.func15, Try.ntmps15
  go_wp2_with fail
  refine HC.out.mono ?_; rintro e w1 ⟨v', rfl, hcd, hk1, hfr, _⟩
  have K1 := hk.trans hk1 (by simp)
  obtain ⟨b, off, cap, rfl, e0, e1⟩ := hcd.at 1 (by decide)
  rw [lives6_code.1] at e0
  rw [lives6_code.2] at e1
  clear hb hk hk1 hfr HC hcd
  go_wp2_with fail
  go_ret
  first | exact ⟨rfl, K1⟩ | exact ⟨rfl, K1.alloc _⟩
set_option maxHeartbeats 1000000 in
theorem samests_c (w : World) (v v' : Value) (L : List Nat) (h : Cds6 w v L) (h' : Cds6 w v' L) : Calls Try.prog 13 #[v, v'] w fun e w' => e = .returned (.bool true) ∧ ∃ n, w' = w.drewN n := by
  have HI := Lib.hid (fun i hi => h.at i hi)
  have HI' := Lib.hid (fun i hi => h'.at i hi)
  obtain ⟨a, cap, rfl, hm⟩ := h.shape
  obtain ⟨a', cap', rfl, _⟩ := h'.shape
  clear h h'
  go_enter Try.func13, Try.ntmps13
  go_wp2_with fail
  go_loopw [5] (fun i wr => ∃ k : Nat, k ≤ L.length ∧ i = .int .i64 k ∧ ∃ n, wr = w.drewN n) (fun i _ => L.length - (intOf i).toNat)
  case atStart => exact ⟨0, by omega, rfl, 0, rfl⟩
  case round =>
    obtain ⟨k, hk, rfl, n, rfl⟩ := hrel
    by_cases hlt : k < L.length
    · obtain ⟨b, off, cap1, hv, e0, e1⟩ := HI.out k hlt
      simp only [Value.slice.injEq] at hv
      obtain ⟨rfl, _, rfl⟩ := hv
      obtain ⟨b', off', cap1', hv, d0, d1⟩ := HI'.out k hlt
      simp only [Value.slice.injEq] at hv
      obtain ⟨rfl, _, rfl⟩ := hv
      go_wp2_with fail
      go_quiet (fail)
      go_wp2_with fail
      go_roundw
      case rel => exact ⟨k + 1, by omega, by go_num, _, rfl⟩
      case measure => simp [intOf]; omega
    · obtain rfl : k = L.length := by omega
      go_wp2_with fail
      go_ret
      exact ⟨rfl, _, rfl⟩
theorem Cds6.keep {w w' : World} {v : Value} {L : List Nat} {S : List Nat} (h : Cds6 w v L) (k : Keep S w w') (hb : ∀ b, v.ownBlock = some b → b ∉ S) : Cds6 w' v L := Sts.keep h k hb
theorem Cds6.drewN {w : World} {v : Value} {L : List Nat} (h : Cds6 w v L) (n : Nat) : Cds6 (w.drewN n) v L := h.keep ((Keep.refl [] w).drewN _) (by simp)
set_option maxHeartbeats 2000000 in
theorem swords_w (W : World) (v : Value) (zs0 : List Int) (h : Is .i64 W v zs0) : Calls Try.prog 3 #[v] W fun e w' => e = .returned (.bool true) ∧ Keep [] W w' := by
  go_enter Try.func3, Try.ntmps3
  go_wp2_with fail
  refine (refints_c W v zs0 260 (by omega) h).mono ?_; rintro e w1 ⟨v1, rfl, h1, hb1, rfl⟩
  have hlen : (zs0.take 260).length ≤ 260 := by simp; omega
  generalize zs0.take 260 = zs at h1 hlen
  clear h hb1
  go_wp2_with (at_builtin; (refine wpList_appendI (.tmp 12) (.tmp 13) rfl rfl (.slice none 0 0) [] rfl (OwnI.nil _) v1 zs rfl h1 (by simp; omega) ?_); (intro v3 w3 ho3 hk3 hb3 hz3))
  have K3 : Keep [] W w3 := by simpa [Value.ownBlock] using hk3
  have h3 : Is .i64 w3 v3 zs := by simpa using ho3.is
  have h13 := h1.keep K3 (by simp)
  clear ho3 hk3 hb3 hz3 h1
  go_wp2_with fail
  refine (sf_codes w3 v3 zs h3).mono ?_; rintro e w4 ⟨va, rfl, hca, k4, hfa, _⟩
  have h34 := h3.keep k4 (by simp)
  have h14 := h13.keep k4 (by simp)
  have K4 := K3.trans k4 (by simp)
  clear h3 h13 k4 K3
  go_wp2_with fail
  refine (sfwords_c w4 v1 zs h14).mono ?_; rintro e w5 ⟨vb, rfl, hcb, k5, hfb, _⟩
  have h35 := h34.keep k5 (by simp)
  have h15 := h14.keep k5 (by simp)
  have hca5 := hca.keep k5 (by simp)
  have K5 := K4.trans k5 (by simp)
  clear h34 h14 k5 K4 hca
  go_wp2_with fail
  refine (sf_new w5 v3 zs h35).mono ?_; rintro e w6 ⟨p, rfl, k6, hp0, hp1⟩
  have h36 := h35.keep k6 (by simp)
  have h16 := h15.keep k6 (by simp)
  have hca6 := hca5.keep k6 (by simp)
  have hcb6 := hcb.keep k6 (by simp)
  have K6 := K5.trans k6 (by simp)
  clear h35 h15 k6 K5 hca5 hcb hfa hfb
  have HSC := Lib.hid (fun w' (k : Keep [] w6 w') => samests_c w' va vb (Ls zs) (hca6.keep k (by simp)) (hcb6.keep k (by simp)))
  have HSI := Lib.hid (fun w' (k : Keep [] w6 w') => sameints_c w' v3 v1 zs (h36.keep k (by simp)) (h16.keep k (by simp)))
  clear h36 h16 hca6 hcb6
  by_cases h0 : schk zs = 0
  · obtain ⟨q, bs, rfl, hd, _⟩ := hp1 h0
    rw [h0]
    clear hp0 hp1 hd h0
    go_wp2_with fail
    refine (HSC.out _ (Keep.refl _ _)).mono ?_; rintro e w9 ⟨rfl, n9, rfl⟩
    go_wp2_with fail
    refine (HSI.out _ ((Keep.refl _ _).drewN _)).mono ?_; rintro e w12 ⟨rfl, n12, rfl⟩
    go_wp2_with fail
    refine (lives6_c _).mono ?_; rintro e w13 ⟨rfl, k13⟩
    go_wp2_with fail
    go_ret
    exact ⟨rfl, (K6.drewN _).trans k13 (by simp)⟩
  · obtain rfl := hp0 h0
    have hb : (((schk zs : Nat) : Int) != 0) = true := by simp; omega
    clear hp0 hp1 h0
    generalize schk zs = er at hb ⊢
    go_wp2_with fail
    refine (HSC.out _ (Keep.refl _ _)).mono ?_; rintro e w9 ⟨rfl, n9, rfl⟩
    go_wp2_with fail
    refine (HSI.out _ ((Keep.refl _ _).drewN _)).mono ?_; rintro e w12 ⟨rfl, n12, rfl⟩
    go_wp2_with fail
    refine (lives6_c _).mono ?_; rintro e w13 ⟨rfl, k13⟩
    go_wp2_with fail
    go_ret
    exact ⟨rfl, (K6.drewN _).trans k13 (by simp)⟩
end Go.Proofs.Ytblogjpoijfpbaa
