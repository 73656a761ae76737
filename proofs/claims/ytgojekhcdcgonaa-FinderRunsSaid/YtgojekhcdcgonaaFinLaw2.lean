/- The walk of the law FinderTells: it returns true at every input. -/
import Derived.Test.YtgojekhcdcgonaaFinLaw1
namespace Go.Proofs.Ytgojekhcdcgonaa
set_option linter.unusedVariables false
set_option linter.unusedSimpArgs false
open Go.ChangeShapes Go.WideShapes Go.ChangeAt Go.RowKit

/-- Cut answers the same slice in whatever memory -/
theorem cut_val (w : World) (v : Value) (l : List UInt8) (n : Nat) (hn : n ≤ 9223372036854775807) (h : Bs w v l) : ∃ v', Bs w v' (l.take n) ∧ v'.ownBlock = v.ownBlock ∧ ∀ w1, Calls Try.prog 7 #[v, .int .i64 n] w1 fun e w' => e = .returned v' ∧ w1 = w' := by
  have h0 := h
  obtain ⟨a, cap, rfl, h1, h2, h3, h4⟩ := h
  unfold maxLen at h2
  by_cases hl : n < l.length
  · have e : (l.take n).length = n := by rw [List.length_take]; omega
    refine ⟨.slice a n cap, ⟨a, cap, by rw [e], by omega, by unfold maxLen; omega, h3, fun x hx i hi => ?_⟩, (by cases a <;> rfl), fun w1 => ?_⟩
    · rw [e] at hi
      rw [h4 x hx i (by omega)]; simp
    · clear h4 h0 h3 e
      go_enter Try.func7, Try.ntmps7
      go_wp2
      go_ret
      exact ⟨rfl, rfl⟩
  · have ht : Hid (l.take n = l) := List.take_of_length_le (by omega)
    refine ⟨.slice a l.length cap, by rw [ht.out]; exact h0, rfl, fun w1 => ?_⟩
    clear h4 h0 h3 ht
    go_enter Try.func7, Try.ntmps7
    go_wp2
    go_ret
    exact ⟨rfl, rfl⟩
/-- the five cells of a box, stored anew -/
theorem Blk.box5 {w : World} {q : Nat} {a b c d e : Value} {t : TypeId} (h : Blk w q #[a, b, c, d, e] t) (a' b' c' d' e' : Value) : Blk (((((w.setCell ⟨q, 0, none⟩ a').setCell ⟨q, 1, none⟩ b').setCell ⟨q, 2, none⟩ c').setCell ⟨q, 3, none⟩ d').setCell ⟨q, 4, none⟩ e') q #[a', b', c', d', e'] t :=
  ((((h.set 0 a').set 1 b').set 2 c').set 3 d').set 4 e'
theorem Keep.box5 {S : List Nat} {W w : World} (h : Keep S W w) (q : Nat) (hq : q ∈ S ∨ W.heap.size ≤ q) (a' b' c' d' e' : Value) : Keep S W (((((w.setCell ⟨q, 0, none⟩ a').setCell ⟨q, 1, none⟩ b').setCell ⟨q, 2, none⟩ c').setCell ⟨q, 3, none⟩ d').setCell ⟨q, 4, none⟩ e') :=
  ((((h.setCell (p := ⟨q, 0, none⟩) hq a').setCell (p := ⟨q, 1, none⟩) hq b').setCell (p := ⟨q, 2, none⟩) hq c').setCell (p := ⟨q, 3, none⟩) hq d').setCell (p := ⟨q, 4, none⟩) hq e'
theorem within9_v (w : World) (win mn mx ch : Int) (lz : Bool) (s : Sh) (hs : inS ⟨win, mn, mx, ch, lz⟩ = s) : Calls Try.prog 16 #[.agg #[.int .i64 win, .int .i64 mn, .int .i64 mx, .int .i64 ch, .bool lz]] w fun e w' => e = .returned (.agg #[.int .i64 s.win, .int .i64 s.min, .int .i64 s.max, .int .i64 s.chain, .bool s.lazy]) ∧ Keep [] w w' := by
  subst hs; exact within9_c w ⟨win, mn, mx, ch, lz⟩
set_option maxRecDepth 100000 in
set_option maxHeartbeats 4000000 in
theorem fintells_w (W : World) (v0 : Value) (l0 : List UInt8) (h0 : Bs W v0 l0) (sv : Value) (s : Sh) (hs0 : sv = s.val) : Calls Try.prog 4 #[v0, sv] W fun e w' => e = .returned (.bool true) ∧ Keep [] W w' := by
  subst hs0
  have hlen : (l0.take 2000).length ≤ 2000 := by rw [List.length_take]; omega
  have hok := inS_ok s
  obtain ⟨win, mn, mx, ch, lz⟩ := s
  obtain ⟨s', hs'⟩ : ∃ x, inS ⟨win, mn, mx, ch, lz⟩ = x := ⟨_, rfl⟩
  rw [hs'] at hok
  have HWI := Lib.hid (fun w => within9_v w win mn mx ch lz s' hs')
  have HOK := Lib.hid hok
  have hB := Blk.new W #[.int .i64 win, .int .i64 mn, .int .i64 mx, .int .i64 ch, .bool lz] 24
  have k0 : Keep [] W (W.alloc (.cells #[.int .i64 win, .int .i64 mn, .int .i64 mx, .int .i64 ch, .bool lz] 24)) := (Keep.refl [] W).alloc _
  obtain ⟨va, ha, hao, HCU0⟩ := cut_val W v0 l0 2000 (by omega) h0
  have HCU := Lib.hid HCU0
  clear HCU0
  show Calls Try.prog 4 #[v0, .agg #[.int .i64 win, .int .i64 mn, .int .i64 mx, .int .i64 ch, .bool lz]] W _
  have HFT : Hid (expT (found (l0.take 2000) s') s'.win (l0.take 2000).length false = (0, l0.take 2000)) := found_tell hok
  have HFS : Hid (sumT (found (l0.take 2000) s') = (l0.take 2000).length) := found_sum hok
  have HFL : Hid ((found (l0.take 2000) s').length ≤ (l0.take 2000).length) := fd_len hok _ _
  have HFF : Hid (fitsT (found (l0.take 2000) s') s' = true) := fd_fits hok _ _
  have HFI : Hid (∀ w v, Bs w v (l0.take 2000) → Calls Try.prog 9 #[v, .agg #[.int .i64 s'.win, .int .i64 s'.min, .int .i64 s'.max, .int .i64 s'.chain, .bool s'.lazy]] w fun e w' => ∃ v', e = .returned (.tuple #[v', .int .i64 0]) ∧ Ts w' v' (found (l0.take 2000) s') ∧ Keep [] w w') := fun w v h => fin_find w v (l0.take 2000) s' hok h (by omega)
  clear hok hs' h0 hao
  generalize l0.take 2000 = b at *
  generalize found b s' = ts at *
  obtain ⟨a, cap, rfl, _⟩ := ha.shape
  go_enter Try.func4, Try.ntmps4
  go_wp2_with fail
  obtain ⟨w1, hw1⟩ : ∃ x, W.alloc (.cells #[.int .i64 win, .int .i64 mn, .int .i64 mx, .int .i64 ch, .bool lz] 24) = x := ⟨_, rfl⟩
  rw [hw1] at hB k0 ⊢
  obtain ⟨q, hq⟩ : ∃ x, W.heap.size = x := ⟨_, rfl⟩
  have HQ := Lib.hid hq
  rw [hq] at hB ⊢
  clear hw1 hq
  have g0 : ∀ p : Kept w1, p.x.cell? ⟨q, 0, none⟩ = some (.int .i64 win) := fun p => p.h.cell (hB.cell 0 _ rfl) (by simp)
  have g1 : ∀ p : Kept w1, p.x.cell? ⟨q, 1, none⟩ = some (.int .i64 mn) := fun p => p.h.cell (hB.cell 1 _ rfl) (by simp)
  have g2 : ∀ p : Kept w1, p.x.cell? ⟨q, 2, none⟩ = some (.int .i64 mx) := fun p => p.h.cell (hB.cell 2 _ rfl) (by simp)
  have g3 : ∀ p : Kept w1, p.x.cell? ⟨q, 3, none⟩ = some (.int .i64 ch) := fun p => p.h.cell (hB.cell 3 _ rfl) (by simp)
  have g4 : ∀ p : Kept w1, p.x.cell? ⟨q, 4, none⟩ = some (.bool lz) := fun p => p.h.cell (hB.cell 4 _ rfl) (by simp)
  refine wp_region_kept_tail 5 (by kernel_rfl) (by kernel_rfl) ?_
  simp only [List.take_succ_cons, List.take_zero, List.drop_succ_cons, List.drop_zero]
  repeat (quiet_step (first
    | (go_at_call 7; with_reducible exact kept_of (kept_same (HCU.out _)))
    | (go_at_call 16; with_reducible exact kept_of (HWI.out _))))
  refine wpQuiet_nil ?_
  rintro _ ⟨⟨w2, k2⟩, rfl⟩
  rename_i w2
  have HA := Lib.hid (fun w' (k : Keep [] W w') => ha.keep k (by simp))
  have hB2 := hB.keep k2 (by simp)
  have K2 := k0.trans k2 (by simp)
  have ha2 := ha.keep K2 (by simp)
  clear g0 g1 g2 g3 g4 hB k0 k2
  have c0 := hB2.cell 0 _ rfl
  have c1 := hB2.cell 1 _ rfl
  have c2 := hB2.cell 2 _ rfl
  have c3 := hB2.cell 3 _ rfl
  have c4 := hB2.cell 4 _ rfl
  have f0 := hB2.free 0
  have f1 := hB2.free 1
  have f2 := hB2.free 2
  have f3 := hB2.free 3
  have f4 := hB2.free 4
  have hB3 := hB2.box5 (.int .i64 s'.win) (.int .i64 s'.min) (.int .i64 s'.max) (.int .i64 s'.chain) (.bool s'.lazy)
  have K3 := K2.box5 q (.inr (by have := HQ.out; omega)) (.int .i64 s'.win) (.int .i64 s'.min) (.int .i64 s'.max) (.int .i64 s'.chain) (.bool s'.lazy)
  have ha3 := ha.keep K3 (by simp)
  have HF := Lib.hid (HFI.out _ _ ha3)
  have HK3 := Lib.hid K3
  clear HFI HWI HCU ha ha2 K2 ha3 K3
  go_wp2_with fail
  refine HF.out.mono ?_; rintro e w4 ⟨v4, rfl, ht4, k4⟩
  clear HF c0 c1 c2 c3 c4 f0 f1 f2 f3 f4
  have hB4 := hB3.keep k4 (by simp)
  have K4 := HK3.out.trans k4 (by simp)
  clear hB2 hB3 HK3 k4
  have hwin : (Lit.int .i64 s'.win).wf = true := wfN _ (by have := HOK.out.1; omega) (by have := HOK.out.2.1; omega)
  have HX := Lib.hid (tok_expand w4 v4 ts s'.win b.length false ht4 hwin (wfN _ (by omega) (by omega)) (by rw [HFS.out]; omega))
  rw [HFT.out] at HX
  have c0 := hB4.cell 0 _ rfl
  clear hwin
  go_wp2_with fail
  refine HX.out.mono ?_; rintro e w5 ⟨v5, rfl, hb5, k5⟩
  have K5 := K4.trans k5 (by simp)
  have hb5a := HA.out w5 K5
  have hB5 := hB4.keep k5 (by simp)
  have ht5 := ht4.keep k5 (by simp)
  obtain ⟨at4, ct4, rfl, _⟩ := ht4.sh
  clear HX c0 hB4 ht4 k5 K4
  have HS1 := Lib.hid (fun w' (k : Keep [] w5 w') => kept_drewN (same_c w' _ v5 b b (hb5a.keep k (by simp)) (hb5.keep k (by simp))))
  rw [decide_eq_true rfl] at HS1
  have HFS2 := Lib.hid (fun w' (k : Keep [] w5 w') => tok_size w' _ ts (ht5.keep k (by simp)))
  have hsz : sizeT ts = b.length := by unfold sizeT; rw [HFS.out]; omega
  rw [hsz] at HFS2
  have HFT2 : Hid (∀ w' (k : Keep [] w5 w'), Calls Try.prog 18 #[.slice at4 ts.length ct4, .agg #[.int .i64 s'.win, .int .i64 s'.min, .int .i64 s'.max, .int .i64 s'.chain, .bool s'.lazy]] w' fun e w'' => e = .returned (.bool true) ∧ Keep [] w' w'') := fun w' k => tok_fits w' _ ts s' (ht5.keep k (by simp)) HFF.out
  have HLV := Lib.hid lives9_c
  have hll := HFL.out
  have hbb : (((b.length : Nat) : Int) == ((b.length : Nat) : Int)) = true := by simp
  have hle : decide (((ts.length : Nat) : Int) ≤ ((b.length : Nat) : Int)) = true := by simp; omega
  clear hb5 hb5a ht5 hsz hll
  go_wp2_with fail
  refine (HS1.out w5 (Keep.refl [] w5)).mono ?_; rintro e w6 ⟨rfl, k6⟩
  have hB6 := hB5.keep k6 (by simp)
  have c0 := hB6.cell 0 _ rfl
  have c1 := hB6.cell 1 _ rfl
  have c2 := hB6.cell 2 _ rfl
  have c3 := hB6.cell 3 _ rfl
  have c4 := hB6.cell 4 _ rfl
  clear hB5 HS1 hB6
  go_wp2_with fail
  refine (HFT2.out w6 k6).mono ?_; rintro e w7 ⟨rfl, k7⟩
  have k57 := k6.trans k7 (by simp)
  clear HFT2 c0 c1 c2 c3 c4 k6 k7
  go_wp2_with fail
  refine (HFS2.out w7 k57).mono ?_; rintro e w8 ⟨rfl, k8⟩
  have k58 := k57.trans k8 (by simp)
  clear HFS2 k57 k8
  go_wp2_with fail
  refine (HLV.out w8).mono ?_; rintro e w9 ⟨rfl, k9⟩
  have KE : Hid (Keep [] W w9) := (K5.trans k58 (by simp)).trans k9 (by simp)
  clear K5 k58 k9
  go_wp2_with fail
  go_ret
  exact ⟨rfl, KE.out⟩
end Go.Proofs.Ytgojekhcdcgonaa
