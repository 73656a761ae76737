/- Contract of lives, and the walk of the law FinderFinds: it returns true at every input. -/
import Derived.Test.YtgojekhcdcgonaaFinFd
import Derived.Test.YtgojekhcdcgonaaFinTok
import Derived.Test.YtgojekhcdcgonaaFinIn
import Derived.Test.YtgojekhcdcgonaaFinMath2
import Derived.Test.YtgojekhcdcgonaaRefTok
import Derived.Test.YtgojekhcdcgonaaPart
import Derived.Lib.SlBytesConst
import Derived.Laws.StructEq
namespace Go.Proofs.Ytgojekhcdcgonaa
set_option linter.unusedVariables false
set_option linter.unusedSimpArgs false
open Go.ChangeShapes Go.WideShapes Go.ChangeAt Go.RowKit

theorem lives9_found : found [97, 98, 99, 97, 98, 99, 97, 98, 99] ⟨9, 3, 258, 1, false⟩ = [⟨97, 0, 0⟩, ⟨98, 0, 0⟩, ⟨99, 0, 0⟩, ⟨0, 3, 6⟩] := by decide +kernel
set_option maxRecDepth 100000 in
set_option maxHeartbeats 2000000 in
theorem lives9_c (w : World) : Calls Try.prog 15 #[] w fun e w' => e = .returned (.bool true) ∧ Keep [] w w' := by
  have hcv := fun C => Lib.run_convert_bytes_const (P := Try.prog) w 22 5 C 9 9 Try.underlying22 Try.underlying5
  have hb : Bs (w.alloc (.cells #[.int .u8 97, .int .u8 98, .int .u8 99, .int .u8 97, .int .u8 98, .int .u8 99, .int .u8 97, .int .u8 98, .int .u8 99] 5 (9, 9 + 1))) (.slice (some ⟨w.heap.size, 0, none⟩) 9 9) [97, 98, 99, 97, 98, 99, 97, 98, 99] := Bs.litF w _ _ 9 (9, 9 + 1) rfl rfl (by simp [maxLen])
  have hk : Keep [] w (w.alloc (.cells #[.int .u8 97, .int .u8 98, .int .u8 99, .int .u8 97, .int .u8 98, .int .u8 99, .int .u8 97, .int .u8 98, .int .u8 99] 5 (9, 9 + 1))) := (Keep.refl [] w).alloc _
  have hf := fin_find _ _ _ ⟨9, 3, 258, 1, false⟩ (by decide) hb (by decide)
  rw [lives9_found] at hf
  have HF : Hid (Calls Try.prog 9 #[.slice (some ⟨w.heap.size, 0, none⟩) 9 9, .agg #[.int .i64 9, .int .i64 3, .int .i64 258, .int .i64 1, .bool false]] (w.alloc (.cells #[.int .u8 97, .int .u8 98, .int .u8 99, .int .u8 97, .int .u8 98, .int .u8 99, .int .u8 97, .int .u8 98, .int .u8 99] 5 (9, 9 + 1))) _) := hf
  have HK := Lib.hid hk
  clear hb hf hk
  go_enter Try.func15, Try.ntmps15
  go_wp2_with fail
  refine HF.out.mono ?_; rintro e w2 ⟨v', rfl, ht, k2⟩
  obtain ⟨b, off, cap, rfl, e1, e2, e3⟩ := ht.at 3 (by decide)
  have K2 : Hid (Keep [] w w2) := HK.out.trans k2 (by simp)
  have d1 : w2.cell? ⟨b, off + 3 * 3, none⟩ = some (.int .u8 0) := e1
  have d2 : w2.cell? ⟨b, off + 3 * 3 + 1, none⟩ = some (.int .i64 3) := e2
  have d3 : w2.cell? ⟨b, off + 3 * 3 + 2, none⟩ = some (.int .i64 6) := e3
  clear e1 e2 e3 ht k2 HF HK hcv
  go_wp2_with fail
  go_ret
  exact ⟨rfl, K2.out⟩
theorem Ts.nil (w : World) : Ts w (.slice none 0 0) [] := (OwnT.nil w).ts
/-- program and document, alike -/
theorem fin_alike (b : List UInt8) (s : Sh) (hb : b.length ≤ 100000) : ∃ (ts : List Tk) (er : Nat) (ok : Bool), (((er : Nat) : Int) == 0) = ok ∧
    (∀ w v, Bs w v b → Calls Try.prog 9 #[v, s.val] w fun e w' => ∃ v', e = .returned (.tuple #[v', .int .i64 er]) ∧ Ts w' v' ts ∧ Keep [] w w') ∧
    (∀ w v, Bs w v b → Calls Try.prog 10 #[v, s.val] w fun e w' => ∃ v', e = .returned (.tuple #[v', .int .i64 er]) ∧ Ts w' v' ts ∧ Keep [] w w') ∧
    (∀ w, Calls Try.prog 12 #[s.val] w fun e w' => e = .returned (.int .i64 er) ∧ Keep [] w w') ∧
    (∀ w, Calls Try.prog 13 #[s.val] w fun e w' => e = .returned (.bool ok) ∧ Keep [] w w') := by
  by_cases hs : s.ok
  · refine ⟨found b s, 0, true, rfl, fun w v h => fin_find w v b s hs h hb, fun w v h => (reffind9_c w v b s hs h hb).mono ?_, fun w => ?_, fun w => ?_⟩
    · rintro e w' ⟨v', rfl, ho, hk, _⟩
      exact ⟨v', rfl, ho.ts, hk⟩
    · have := fin_check w s; rw [if_pos hs] at this; exact this
    · have := refcheck9_c w s; rw [dec_t hs] at this; exact this
  · refine ⟨[], 2, false, rfl, fun w v h => (fin_bad w v b s h hs).mono ?_, fun w v h => (reffind9_bad w v b s hs).mono ?_, fun w => ?_, fun w => ?_⟩
    · rintro e w' ⟨rfl, hk⟩; exact ⟨_, rfl, Ts.nil w', hk⟩
    · rintro e w' ⟨rfl, hk⟩; exact ⟨_, rfl, Ts.nil w', hk⟩
    · have := fin_check w s; rw [if_neg hs] at this; exact this
    · have := refcheck9_c w s; rw [dec_f hs] at this; exact this
set_option maxRecDepth 100000 in
set_option maxHeartbeats 4000000 in
theorem finfinds_w (W : World) (v0 : Value) (l0 : List UInt8) (h0 : Bs W v0 l0) (sv : Value) (s : Sh) (hs0 : sv = s.val) : Calls Try.prog 3 #[v0, sv] W fun e w' => e = .returned (.bool true) ∧ Keep [] W w' := by
  subst hs0
  have hlen : (l0.take 250).length ≤ 250 := by rw [List.length_take]; omega
  obtain ⟨ts, er, okb, ha1, ha2, ha3, ha4, ha5⟩ := fin_alike (l0.take 250) s (by omega)
  obtain ⟨win, mn, mx, ch, lz⟩ := s
  have hB := Blk.new W #[.int .i64 win, .int .i64 mn, .int .i64 mx, .int .i64 ch, .bool lz] 24
  have k0 : Keep [] W (W.alloc (.cells #[.int .i64 win, .int .i64 mn, .int .i64 mx, .int .i64 ch, .bool lz] 24)) := (Keep.refl [] W).alloc _
  change ∀ w v, Bs w v _ → Calls Try.prog 9 #[v, .agg #[.int .i64 win, .int .i64 mn, .int .i64 mx, .int .i64 ch, .bool lz]] w _ at ha2
  change ∀ w v, Bs w v _ → Calls Try.prog 10 #[v, .agg #[.int .i64 win, .int .i64 mn, .int .i64 mx, .int .i64 ch, .bool lz]] w _ at ha3
  change ∀ w, Calls Try.prog 12 #[.agg #[.int .i64 win, .int .i64 mn, .int .i64 mx, .int .i64 ch, .bool lz]] w _ at ha4
  change ∀ w, Calls Try.prog 13 #[.agg #[.int .i64 win, .int .i64 mn, .int .i64 mx, .int .i64 ch, .bool lz]] w _ at ha5
  show Calls Try.prog 3 #[v0, .agg #[.int .i64 win, .int .i64 mn, .int .i64 mx, .int .i64 ch, .bool lz]] W _
  have H2 := Lib.hid ha2
  have H3 := Lib.hid ha3
  have H4 := Lib.hid ha4
  have H5 := Lib.hid ha5
  have HCU := Lib.hid (fun w' (k : Keep [] W w') => cut_c w' v0 l0 250 (by omega) (h0.keep k (by simp)))
  clear ha2 ha3 ha4 ha5 h0
  generalize l0.take 250 = b at *
  go_enter Try.func3, Try.ntmps3
  go_wp2_with fail
  obtain ⟨w1, hw1⟩ : ∃ x, W.alloc (.cells #[.int .i64 win, .int .i64 mn, .int .i64 mx, .int .i64 ch, .bool lz] 24) = x := ⟨_, rfl⟩
  rw [hw1] at hB k0 ⊢
  obtain ⟨q, hq⟩ : ∃ x, W.heap.size = x := ⟨_, rfl⟩
  rw [hq] at hB ⊢
  clear hw1 hq
  refine (HCU.out _ k0).mono ?_; rintro e w2 ⟨va, rfl, hb1, _, rfl⟩
  clear HCU
  go_wp2_with fail
  refine (copy_c _ va b (by omega) hb1).mono ?_; rintro e w2 ⟨vm, rfl, hm2, k2, hmb⟩
  have hb2 := hb1.keep k2 (by simp)
  have hB2 := hB.keep k2 (by simp)
  have K2 := k0.trans k2 (by simp)
  have c0 := hB2.cell 0 _ rfl
  have c1 := hB2.cell 1 _ rfl
  have c2 := hB2.cell 2 _ rfl
  have c3 := hB2.cell 3 _ rfl
  have c4 := hB2.cell 4 _ rfl
  have HF := Lib.hid (H2.out w2 vm hm2.bs)
  clear H2 hb1 hB k0 k2
  go_wp2_with fail
  refine HF.out.mono ?_; rintro e w3 ⟨v3, rfl, ht3, k3⟩
  have hb3 := hb2.keep k3 (by simp)
  have hm3 := hm2.bs.keep k3 (by simp)
  have hB3 := hB2.keep k3 (by simp)
  have K3 := K2.trans k3 (by simp)
  clear HF c0 c1 c2 c3 c4 hb2 hm2 hB2 K2 k3 hmb
  have c0 := hB3.cell 0 _ rfl
  have c1 := hB3.cell 1 _ rfl
  have c2 := hB3.cell 2 _ rfl
  have c3 := hB3.cell 3 _ rfl
  have c4 := hB3.cell 4 _ rfl
  have HF := Lib.hid (H3.out w3 va hb3)
  clear H3
  go_wp2_with fail
  refine HF.out.mono ?_; rintro e w4 ⟨v4, rfl, ht4, k4⟩
  have HS8 := Lib.hid (fun w' (k : Keep [] w4 w') => kept_drewN (refsame8_c w' v3 v4 ts ((ht3.keep k4 (by simp)).keep k (by simp)) (ht4.keep k (by simp))))
  have HS1 := Lib.hid (fun w' (k : Keep [] w4 w') => kept_drewN (same_c w' vm va b b ((hm3.keep k4 (by simp)).keep k (by simp)) ((hb3.keep k4 (by simp)).keep k (by simp))))
  rw [decide_eq_true rfl] at HS1
  have hB4 := hB3.keep k4 (by simp)
  have K4 := K3.trans k4 (by simp)
  have HLV := Lib.hid lives9_c
  have g0 : ∀ p : Kept w4, p.x.cell? ⟨q, 0, none⟩ = some (.int .i64 win) := fun p => p.h.cell (hB4.cell 0 _ rfl) (by simp)
  have g1 : ∀ p : Kept w4, p.x.cell? ⟨q, 1, none⟩ = some (.int .i64 mn) := fun p => p.h.cell (hB4.cell 1 _ rfl) (by simp)
  have g2 : ∀ p : Kept w4, p.x.cell? ⟨q, 2, none⟩ = some (.int .i64 mx) := fun p => p.h.cell (hB4.cell 2 _ rfl) (by simp)
  have g3 : ∀ p : Kept w4, p.x.cell? ⟨q, 3, none⟩ = some (.int .i64 ch) := fun p => p.h.cell (hB4.cell 3 _ rfl) (by simp)
  have g4 : ∀ p : Kept w4, p.x.cell? ⟨q, 4, none⟩ = some (.bool lz) := fun p => p.h.cell (hB4.cell 4 _ rfl) (by simp)
  clear HF c0 c1 c2 c3 c4 ht3 ht4 hm3 hb3 hB3 K3 k4 hB4
  have hee : ((er : Int) == (er : Int)) = true := by simp
  have hoo : (okb == okb) = true := by simp
  go_wp2_with fail
  refine wp_region_kept (by kernel_rfl) (by kernel_rfl) ?_
  repeat (quiet_step (first
    | (go_at_call 11; with_reducible exact kept_of (HS8.out _ (Kept.h _)))
    | (go_at_call 12; with_reducible exact kept_of (H4.out _))
    | (go_at_call 13; with_reducible exact kept_of (H5.out _))
    | (go_at_call 14; with_reducible exact kept_of (HS1.out _ (Kept.h _)))
    | (go_at_call 15; with_reducible exact kept_of (HLV.out _))))
  refine wpQuiet_nil ?_
  intro _ hw'
  obtain ⟨p, hw''⟩ := hw'
  subst hw''
  have KE : Hid (Keep [] W p.x) := K4.trans p.h (by simp)
  clear g0 g1 g2 g3 g4 K4
  go_wp2_with fail
  go_ret
  exact ⟨rfl, KE.out⟩
end Go.Proofs.Ytgojekhcdcgonaa
