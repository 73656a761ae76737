/- Contract of lives, and the walk of the law CanonWords: it returns true at every input. -/
import Derived.Test.YtdhdfedbhanijaaCan
namespace Go.Proofs.Ytdhdfedbhanijaa
set_option linter.unusedVariables false
set_option linter.unusedSimpArgs false
open Go.ChangeShapes Go.WideShapes Go.ChangeAt Go.RowKit

theorem Is.lit (w : World) (l : List Int) (cs : Array Value) (n : Nat) (hc : cs.toList = ints64 l) (hn : l.length = n) (hl : n ≤ maxLen) (hz : ∀ z ∈ l, (Lit.int .i64 z).wf = true) : Is .i64 (w.alloc (.cells cs 3)) (.slice (some ⟨w.heap.size, 0, none⟩) n n) l := by
  subst hn
  refine ⟨some ⟨w.heap.size, 0, none⟩, l.length, rfl, Nat.le_refl _, hl, (fun h => nomatch h), fun x hx i hi => ?_, hz⟩
  obtain rfl : (⟨w.heap.size, 0, none⟩ : Addr) = x := by simpa using hx
  rw [show (⟨w.heap.size, 0, none⟩ : Addr).add i = ⟨w.heap.size, i, none⟩ by unfold Addr.add; split <;> simp_all]
  refine (Blk.new w cs 3).cell i _ ?_
  rw [← Array.getElem?_toList, hc]
  simp [ints64, hi]
theorem lives_w : werr [2, 1, 2] = 0 := by decide
theorem lives_L : Lw [2, 1, 2] = [2, 1, 2] := by decide
theorem lives_chk : chk [1, 1] = 1 := by decide
theorem lives_code : code [2, 1, 2] 2 = 3 ∧ len [2, 1, 2] 2 = 2 := by decide
theorem lives_c (w : World) : Calls Try.prog 19 #[] w fun e w' => e = .returned (.bool true) ∧ Keep [] w w' := by
  have hb := Is.lit w [2, 1, 2] #[.int .i64 2, .int .i64 1, .int .i64 2] 3 rfl rfl (by decide) (by decide)
  have hk := (Keep.refl [] w).alloc (.cells #[.int .i64 2, .int .i64 1, .int .i64 2] 3)
  have hc := can_codes _ _ _ hb
  rw [lives_w, lives_L] at hc
  have HC := Lib.hid hc
  clear hc
  have HCK := Lib.hid (fun w2 => can_check _ _ _ (Is.lit w2 [1, 1] #[.int .i64 1, .int .i64 1] 2 rfl rfl (by decide) (by decide)))
  rw [lives_chk] at HCK
  go_enter Try.func19, Try.ntmps19
  go_wp2_with fail
  refine HC.out.mono ?_; rintro e w1 ⟨v', rfl, hcd, hk1, hfr, _⟩
  have K1 := hk.trans hk1 (by simp)
  obtain ⟨b, off, cap, rfl, e0, e1⟩ := hcd.at 2 (by decide)
  rw [lives_code.1] at e0
  rw [lives_code.2] at e1
  clear hb hk hk1 hfr HC hcd
  go_wp2_with fail
  refine (HCK.out w1).mono ?_; rintro e w2 ⟨rfl, hk2⟩
  go_wp2_with fail
  go_ret
  exact ⟨rfl, (K1.alloc _).trans hk2 (by simp)⟩
theorem longest_Lw {zs : List Int} (h : werr zs ≠ 0) : longest (Lw zs) = 0 := by unfold Lw; rw [if_neg h]; rfl
theorem Lw_ok (zs : List Int) : (∀ x ∈ Lw zs, x ≤ 16) ∧ wt (Lw zs) ≤ 65536 := by
  unfold Lw
  by_cases h : werr zs = 0
  · rw [if_pos h]; exact ⟨may_Ln (werr_ok h).1, (werr_ok h).2⟩
  · rw [if_neg h]; simp [wt]
set_option maxHeartbeats 2000000 in
theorem words_w (W : World) (v : Value) (zs0 : List Int) (h : Is .i64 W v zs0) : Calls Try.prog 3 #[v] W fun e w' => e = .returned (.bool true) ∧ Keep [] W w' := by
  go_enter Try.func3, Try.ntmps3
  go_wp2_with fail
  refine (refints_c W v zs0 60 (by omega) h).mono ?_; rintro e w1 ⟨v1, rfl, h1, hb1, rfl⟩
  have hlen : (zs0.take 60).length ≤ 60 := by simp; omega
  generalize zs0.take 60 = zs at h1 hlen
  clear h hb1
  go_wp2_with (at_builtin; (refine wpList_appendI (.tmp 12) (.tmp 13) rfl rfl (.slice none 0 0) [] rfl (OwnI.nil _) v1 zs rfl h1 (by simp; omega) ?_); (intro v3 w3 ho3 hk3 hb3 hz3))
  have K3 : Keep [] W w3 := by simpa [Value.ownBlock] using hk3
  have h3 : Is .i64 w3 v3 zs := by simpa using ho3.is
  have h13 := h1.keep K3 (by simp)
  clear ho3 hk3 hb3 hz3 h1
  go_wp2_with fail
  refine (can_codes w3 v3 zs h3).mono ?_; rintro e w4 ⟨va, rfl, hca, k4, hfa, _⟩
  have h34 := h3.keep k4 (by simp)
  have h14 := h13.keep k4 (by simp)
  have K4 := K3.trans k4 (by simp)
  clear h3 h13 k4 K3
  go_wp2_with fail
  refine (refwords_c w4 v1 zs h14).mono ?_; rintro e w5 ⟨vb, rfl, hcb, k5, hfb, _⟩
  have h35 := h34.keep k5 (by simp)
  have h15 := h14.keep k5 (by simp)
  have hca5 := hca.keep k5 (by simp)
  have K5 := K4.trans k5 (by simp)
  clear h34 h14 k5 K4 hca
  go_wp2_with fail
  refine (can_new w5 v3 zs h35).mono ?_; rintro e w6 ⟨p, rfl, k6, hp0, hp1⟩
  have h36 := h35.keep k6 (by simp)
  have h16 := h15.keep k6 (by simp)
  have hca6 := hca5.keep k6 (by simp)
  have hcb6 := hcb.keep k6 (by simp)
  have K6 := K5.trans k6 (by simp)
  clear h35 h15 k6 K5 hca5 hcb hfa hfb
  have hok := Lw_ok zs
  have HCK := Lib.hid (can_check w6 v3 zs h36)
  have HRC := Lib.hid (fun w' (k : Keep [] w6 w') => refcheck_c w' v1 zs (h16.keep k (by simp)))
  have HSC := Lib.hid (fun w' (k : Keep [] w6 w') => samecodes_c w' va vb (Lw zs) (hca6.keep k (by simp)) (hcb6.keep k (by simp)))
  have HLO := Lib.hid (fun w' (k : Keep [] w6 w') => reflongest_c w' vb (Lw zs) hok.1 (hcb6.keep k (by simp)))
  have HSI := Lib.hid (fun w' (k : Keep [] w6 w') => sameints_c w' v3 v1 zs (h36.keep k (by simp)) (h16.keep k (by simp)))
  clear h36 h16 hca6 hcb6 hok
  by_cases h0 : werr zs = 0
  · obtain ⟨q, bs, rfl, hd, _⟩ := hp1 h0
    have HD := Lib.hid (fun w' (k : Keep [] w6 w') => can_longest w' q bs _ (hd.keep k (by simp)))
    have hLw : Lw zs = Ln zs := by unfold Lw; rw [if_pos h0]
    rw [hLw] at HLO
    rw [h0]
    clear hp0 hp1 hd h0 hLw
    generalize chk zs = ck at HCK HRC
    generalize longest (Ln zs) = lg at HD HLO
    go_wp2_with fail
    refine HCK.out.mono ?_; rintro e w7 ⟨rfl, k7⟩
    go_wp2_with fail
    refine (HRC.out _ k7).mono ?_; rintro e w8 ⟨rfl, n8, rfl⟩
    go_wp2_with fail
    refine (HSC.out _ (k7.drewN _)).mono ?_; rintro e w9 ⟨rfl, n9, rfl⟩
    go_wp2_with fail
    refine (HD.out _ (k7.drewN _)).mono ?_; rintro e w10 ⟨rfl, n10, rfl⟩
    go_wp2_with fail
    refine (HLO.out _ (k7.drewN _)).mono ?_; rintro e w11 ⟨rfl, n11, rfl⟩
    go_wp2_with fail
    refine (HSI.out _ (k7.drewN _)).mono ?_; rintro e w12 ⟨rfl, n12, rfl⟩
    go_wp2_with fail
    refine (lives_c _).mono ?_; rintro e w13 ⟨rfl, k13⟩
    go_wp2_with fail
    go_ret
    exact ⟨rfl, (K6.trans (k7.drewN _) (by simp)).trans k13 (by simp)⟩
  · obtain rfl := hp0 h0
    have HD := Lib.hid (fun w' => can_longest_nil w')
    rw [longest_Lw h0] at HLO
    have hb : (((werr zs : Nat) : Int) != 0) = true := by simp; omega
    have hb2 : (((werr zs : Nat) : Int) == 0) = false := by simp; omega
    clear hp0 hp1 h0
    generalize chk zs = ck at HCK HRC
    generalize werr zs = er at hb hb2 ⊢
    go_wp2_with fail
    refine HCK.out.mono ?_; rintro e w7 ⟨rfl, k7⟩
    go_wp2_with fail
    refine (HRC.out _ k7).mono ?_; rintro e w8 ⟨rfl, n8, rfl⟩
    go_wp2_with fail
    refine (HSC.out _ (k7.drewN _)).mono ?_; rintro e w9 ⟨rfl, n9, rfl⟩
    go_wp2_with fail
    refine (HD.out _).mono ?_; rintro e w10 ⟨rfl, n10, rfl⟩
    go_wp2_with fail
    refine (HLO.out _ (k7.drewN _)).mono ?_; rintro e w11 ⟨rfl, n11, rfl⟩
    go_wp2_with fail
    refine (HSI.out _ (k7.drewN _)).mono ?_; rintro e w12 ⟨rfl, n12, rfl⟩
    go_wp2_with fail
    refine (lives_c _).mono ?_; rintro e w13 ⟨rfl, k13⟩
    go_wp2_with fail
    go_ret
    exact ⟨rfl, (K6.trans (k7.drewN _) (by simp)).trans k13 (by simp)⟩
end Go.Proofs.Ytdhdfedbhanijaa
