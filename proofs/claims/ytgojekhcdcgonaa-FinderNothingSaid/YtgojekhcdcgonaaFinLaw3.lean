/- The walk of the law FinderRuns: it returns true at every input. -/
import Derived.Test.YtgojekhcdcgonaaFinLaw2
import Derived.Test.YtgojekhcdcgonaaMake
namespace Go.Proofs.Ytgojekhcdcgonaa
set_option linter.unusedVariables false
set_option linter.unusedSimpArgs false
open Go.ChangeShapes Go.WideShapes Go.ChangeAt Go.RowKit

theorem quo_le (k M : Nat) (hk : k ≤ 3000) (hM : 2 ≤ M) : (k - 1 + M - 1) / M ≤ 3000 := Nat.div_le_of_le_mul (by omega)
set_option maxRecDepth 100000 in
set_option maxHeartbeats 4000000 in
theorem finruns_w (W : World) (c0 : Int) (wc : (Lit.int .u8 c0).wf = true) (n0 : Int) (wn : (Lit.int .i64 n0).wf = true) (sv : Value) (s : Sh) (hs0 : sv = s.val) : Calls Try.prog 5 #[.int .u8 c0, .int .i64 n0, sv] W fun e w' => e = .returned (.bool true) ∧ Keep [] W w' := by
  subst hs0
  have hcb : 0 ≤ c0 ∧ c0 ≤ 255 := by simpa [Lit.wf, IntKind.min, IntKind.max, IntKind.bits, IntKind.signed] using wc
  obtain ⟨c, rfl⟩ : ∃ c : UInt8, c0 = c.toNat := ⟨UInt8.ofNat c0.toNat, by rw [UInt8.toNat_ofNat', Nat.mod_eq_of_lt (by omega)]; omega⟩
  have hok := inS_ok s
  obtain ⟨win, mn, mx, ch, lz⟩ := s
  obtain ⟨s', hs'⟩ : ∃ x, inS ⟨win, mn, mx, ch, lz⟩ = x := ⟨_, rfl⟩
  rw [hs'] at hok
  have HWI := Lib.hid (fun w => within9_v w win mn mx ch lz s' hs')
  have HOK := Lib.hid hok
  have hB := Blk.new W #[.int .i64 win, .int .i64 mn, .int .i64 mx, .int .i64 ch, .bool lz] 24
  have k0 : Keep [] W (W.alloc (.cells #[.int .i64 win, .int .i64 mn, .int .i64 mx, .int .i64 ch, .bool lz] 24)) := (Keep.refl [] W).alloc _
  show Calls Try.prog 5 #[.int .u8 c.toNat, .int .i64 n0, .agg #[.int .i64 win, .int .i64 mn, .int .i64 mx, .int .i64 ch, .bool lz]] W _
  obtain ⟨N, hN⟩ : ∃ N : Nat, max 0 (min n0 3000) = (N : Int) := ⟨(max 0 (min n0 3000)).toNat, by omega⟩
  have hN3 : N ≤ 3000 := by omega
  have HWN := Lib.hid (fun w => within_c n0 0 3000 w (by omega))
  rw [hN] at HWN
  have HFI : Hid (∀ w v, Bs w v (List.replicate N c) → Calls Try.prog 9 #[v, .agg #[.int .i64 s'.win, .int .i64 s'.min, .int .i64 s'.max, .int .i64 s'.chain, .bool s'.lazy]] w fun e w' => ∃ v', e = .returned (.tuple #[v', .int .i64 0]) ∧ Ts w' v' (found (List.replicate N c) s') ∧ Keep [] w w') := fun w v h => fin_find w v _ s' hok h (by simp; omega)
  have HLV := Lib.hid lives9_c
  clear hok hs' hN wc wn hcb
  go_enter Try.func5, Try.ntmps5
  go_wp2_with fail
  obtain ⟨w1, hw1⟩ : ∃ x, W.alloc (.cells #[.int .i64 win, .int .i64 mn, .int .i64 mx, .int .i64 ch, .bool lz] 24) = x := ⟨_, rfl⟩
  rw [hw1] at hB k0 ⊢
  obtain ⟨q, hq⟩ : ∃ x, W.heap.size = x := ⟨_, rfl⟩
  have HQ := Lib.hid hq
  rw [hq] at hB ⊢
  clear hw1 hq
  refine (HWI.out _).mono ?_; rintro e w2 ⟨rfl, k2⟩
  have hB2 := hB.keep k2 (by simp)
  have K2 := k0.trans k2 (by simp)
  clear hB k0 k2 HWI
  have c0 := hB2.cell 0 _ rfl
  have c1 := hB2.cell 1 _ rfl
  have c2 := hB2.cell 2 _ rfl
  have c3 := hB2.cell 3 _ rfl
  have c4 := hB2.cell 4 _ rfl
  have f0 := hB2.free 0
  have f1 := hB2.free 1
  have f2 := hB2.free 2
  have f3 := hB2.free 3
  have f4 := hB2.free 4
  have hB3 := hB2.box5 (.int .i64 s'.win) (.int .i64 s'.min) (.int .i64 s'.max) (.int .i64 s'.chain) (.bool s'.lazy)
  have K3 := K2.box5 q (.inr (by have := HQ.out; omega)) (.int .i64 s'.win) (.int .i64 s'.min) (.int .i64 s'.max) (.int .i64 s'.chain) (.bool s'.lazy)
  clear hB2 K2
  go_wp2_with fail
  refine (HWN.out _).mono ?_; rintro e w3 ⟨rfl, rfl⟩
  clear c0 c1 c2 c3 c4 f0 f1 f2 f3 f4 HWN
  obtain ⟨w3, hw3⟩ : ∃ x, (((((w2.setCell ⟨q, 0, none⟩ (.int .i64 s'.win)).setCell ⟨q, 1, none⟩ (.int .i64 s'.min)).setCell ⟨q, 2, none⟩ (.int .i64 s'.max)).setCell ⟨q, 3, none⟩ (.int .i64 s'.chain)).setCell ⟨q, 4, none⟩ (.bool s'.lazy)) = x := ⟨_, rfl⟩
  rw [hw3] at hB3 K3 ⊢
  clear hw3
  have c3 := hB3.cell 3 _ rfl
  by_cases hz : s'.chain = 0 ∨ N = 0
  · rcases hz with hz | hz
    · have hch : (s'.chain == 0) = true := by rw [hz]; rfl
      have HK3 := Lib.hid K3
      clear hz K3
      go_wp2_with fail
      refine (HLV.out _).mono ?_; rintro e w4 ⟨rfl, k4⟩
      go_wp2_with fail
      go_ret
      exact ⟨rfl, HK3.out.trans k4 (by simp)⟩
    · subst hz
      have HK3 := Lib.hid K3
      clear K3
      cases hch : (s'.chain == 0)
      all_goals
        go_wp2_with fail
        refine (HLV.out _).mono ?_; rintro e w4 ⟨rfl, k4⟩
        go_wp2_with fail
        go_ret
        exact ⟨rfl, HK3.out.trans k4 (by simp)⟩
  · have hch : (s'.chain == 0) = false := by rw [beq_eq_false_iff_ne]; omega
    have hN0 : ((N : Int) == 0) = false := by rw [beq_eq_false_iff_ne]; omega
    have hN1 : 0 < N := by omega
    have hc1 : 1 ≤ s'.chain := by have := HOK.out; unfold Sh.ok at this; omega
    clear hz
    have hmk := run_make_bytes w3 N N (by omega) (by omega)
    go_wp2_with fail
    have hO := OwnB.madeN w3 N (by unfold maxLen; omega)
    have hB4 := hB3.alloc (.cells (madeCells #[.int .u8 0] N) 5)
    have K4 := K3.alloc (.cells (madeCells #[.int .u8 0] N) 5)
    have hgW : Hid (W.heap.size ≤ w3.heap.size ∧ q < w3.heap.size) := ⟨K3.size, hB3.lt⟩
    obtain ⟨w4, hw4⟩ : ∃ x, w3.alloc (.cells (madeCells #[.int .u8 0] N) 5) = x := ⟨_, rfl⟩
    rw [hw4] at hO hB4 K4 ⊢
    obtain ⟨g, hg⟩ : ∃ x, w3.heap.size = x := ⟨_, rfl⟩
    rw [hg] at hO hgW ⊢
    clear hw4 hg hmk c3 hB3 K3
    have hqg : q ≠ g := by have := hgW.out; omega
    have hS4 : Hid (OwnB w4 (.slice (some ⟨g, 0, none⟩) N N) (rep N 0 c) ∧ Blk w4 q #[.int .i64 s'.win, .int .i64 s'.min, .int .i64 s'.max, .int .i64 s'.chain, .bool s'.lazy] 24 ∧ Keep [] W w4) := ⟨by simpa [rep] using hO, hB4, K4⟩
    clear hO hB4 K4
    go_loopw [8] (fun i wr => ∃ k : Nat, k ≤ N ∧ i = .int .i64 k ∧ Hid (OwnB wr (.slice (some ⟨g, 0, none⟩) N N) (rep N k c) ∧ Blk wr q #[.int .i64 s'.win, .int .i64 s'.min, .int .i64 s'.max, .int .i64 s'.chain, .bool s'.lazy] 24 ∧ Keep [] W wr)) (fun i _ => N - (intOf i).toNat)
    case atStart => exact ⟨0, by omega, rfl, hS4⟩
    case round =>
      obtain ⟨k, hk, rfl, HS⟩ := hrel
      obtain ⟨h1, h2, h3⟩ := HS.out
      by_cases hlt : k < N
      · have hl := rep_len N k c hk
        rcases h1.cases with ⟨hv, _⟩ | ⟨g', cap', hv, hc1', hc2', hcells, _⟩
        · exact absurd hv (by simp)
        simp only [Value.slice.injEq, Option.some.injEq, Addr.mk.injEq] at hv
        obtain ⟨⟨hgg, y1⟩, y2, y3⟩ := hv
        clear y1 y2 y3
        have e0 := hcells k (by omega)
        rw [← hgg] at e0
        generalize (rep N k c)[k]'(by omega) = x0 at e0
        have f0 := h1.free k
        have HO2 : Hid (OwnB (wr.setCell ⟨g, k, none⟩ (.int .u8 c.toNat)) (.slice (some ⟨g, 0, none⟩) N N) (rep N (k + 1) c)) := by
          have := h1.store k (by omega) c
          rw [rep_set _ _ _ hlt] at this
          exact this
        clear hcells hc1' hc2' h1 hgg hl
        go_wp2_with fail
        go_roundw
        case rel => exact ⟨k + 1, by omega, by go_num, HO2.out, h2.other (by simp; omega) _, h3.setCell (.inr (by have := hgW.out; simp; omega)) _⟩
        case measure => simp [intOf]; omega
      · obtain rfl : k = N := by omega
        rw [rep_all] at h1
        have HF := Lib.hid (HFI.out _ _ h1.bs)
        have c0 := h2.cell 0 _ rfl
        have c1 := h2.cell 1 _ rfl
        have c2 := h2.cell 2 _ rfl
        have c3 := h2.cell 3 _ rfl
        have c4 := h2.cell 4 _ rfl
        clear h1 HFI
        go_wp2_with fail
        refine HF.out.mono ?_; rintro e w6 ⟨v6, rfl, ht, k6⟩
        have hB6 := h2.keep k6 (by simp)
        have K6 := h3.trans k6 (by simp)
        clear HF c0 c1 c2 c3 c4 h2 h3
        have hrp := found_rep (n := k) (c := c) (s := s') HOK.out hc1 hN1
        obtain ⟨M, hM⟩ : ∃ M : Nat, s'.max = (M : Int) := ⟨s'.max.toNat, by have := HOK.out; unfold Sh.ok at this; omega⟩
        obtain ⟨m, hm⟩ : ∃ m : Nat, s'.min = (m : Int) := ⟨s'.min.toNat, by have := HOK.out; unfold Sh.ok at this; omega⟩
        have hMb : 2 ≤ M ∧ M ≤ 65538 := by have := HOK.out; unfold Sh.ok at this; omega
        have hmb : m ≤ 3 := by have := HOK.out; unfold Sh.ok at this; omega
        rw [hM, hm] at hrp hB6
        rw [Int.toNat_natCast, Int.toNat_natCast] at hrp
        obtain ⟨at6, ct6, rfl, _⟩ := ht.sh
        have g1 : ∀ p : Kept w6, p.x.cell? ⟨q, 1, none⟩ = some (.int .i64 m) := fun p => p.h.cell (hB6.cell 1 _ rfl) (by simp)
        have g2 : ∀ p : Kept w6, p.x.cell? ⟨q, 2, none⟩ = some (.int .i64 M) := fun p => p.h.cell (hB6.cell 2 _ rfl) (by simp)
        clear ht hB6 hM hm HS hk hlt k6 hS4
        generalize (found (List.replicate k c) s').length = T at *
        obtain ⟨Q, hQ⟩ : ∃ Q : Nat, (k - 1 + M - 1) / M = Q := ⟨_, rfl⟩
        rw [hQ] at hrp
        have hQb : Q ≤ 3000 := by rw [← hQ]; exact quo_le k M (by omega) (by omega)
        have hM0 : ((M : Int) == 0) = false := by rw [beq_eq_false_iff_ne]; omega
        have s1 : IntKind.i64.wrap ((k : Int) - 1) = (k : Int) - 1 := by rw [IntKind.wrap_i64]; omega
        have s2 : IntKind.i64.wrap ((k : Int) - 1 + M) = (k : Int) - 1 + M := by rw [IntKind.wrap_i64]; omega
        have s3 : IntKind.i64.wrap ((k : Int) - 1 + M - 1) = (k : Int) - 1 + M - 1 := by rw [IntKind.wrap_i64]; omega
        have s4 : IntKind.i64.wrap (((k : Int) - 1 + M - 1).tdiv M) = (Q : Int) := by
          rw [← hQ, show (k : Int) - 1 + M - 1 = ((k - 1 + M - 1 : Nat) : Int) by omega, Int.tdiv_eq_ediv_of_nonneg (by omega), IntKind.wrap_i64]
          have e : (((k - 1 + M - 1 : Nat) : Int)) / (M : Int) = (((k - 1 + M - 1) / M : Nat) : Int) := by simp
          rw [e, hQ]; omega
        have hMn : M ≠ 0 := by omega
        have s5 : IntKind.i64.wrap (1 + (Q : Int)) = 1 + (Q : Int) := by rw [IntKind.wrap_i64]; omega
        have s6 : IntKind.i64.wrap (1 + (Q : Int) + m) = 1 + (Q : Int) + m := by rw [IntKind.wrap_i64]; omega
        have hle : decide ((T : Int) ≤ 1 + (Q : Int) + m) = true := by simp; omega
        clear hQ
        go_wp2_with fail
        refine wp_region_kept (by kernel_rfl) (by kernel_rfl) ?_
        repeat (quiet_step (first
          | (go_at_call 15; with_reducible exact kept_of (HLV.out _))))
        refine wpQuiet_nil ?_
        intro _ hw'
        obtain ⟨p, hw''⟩ := hw'
        subst hw''
        have KE : Hid (Keep [] W p.x) := K6.trans p.h (by simp)
        clear g1 g2 K6
        go_wp2_with fail
        go_ret
        exact ⟨rfl, KE.out⟩
end Go.Proofs.Ytgojekhcdcgonaa
