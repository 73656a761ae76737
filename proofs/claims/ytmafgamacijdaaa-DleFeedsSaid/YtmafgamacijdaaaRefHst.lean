/- The document's own answers of layer 7: New, Lit, Copy. -/
import Derived.Test.YtmafgamacijdaaaHstMath
import Derived.Test.YtmafgamacijdaaaRefKit
import Derived.Test.YtmafgamacijdaaaPart
import Derived.BigQuiet
namespace Go.Proofs.Ytmafgamacijdaaa
set_option linter.unusedVariables false
set_option linter.unusedSimpArgs false
open Go.ChangeShapes Go.WideShapes Go.ChangeAt Go.RowKit

/-- block x is the document's output in state s; its bytes lie in the slice v of its own -/
def Rx (w : World) (x : Nat) (v : Value) (s : HS) : Prop :=
  Blk w x #[.int .i64 s.win, .int .i64 s.most, .bool s.nou, v] 36 ∧ OwnB w v s.b ∧ (∀ b, v.ownBlock = some b → b ≠ x) ∧ s.most ≤ 9223372036854775807 ∧ s.win ≤ 65536
theorem Rx.keep {w w' : World} {x : Nat} {v : Value} {s : HS} {S : List Nat} (h : Rx w x v s) (k : Keep S w w') (hx : x ∉ S) (hv : ∀ b, v.ownBlock = some b → b ∉ S) : Rx w' x v s :=
  ⟨h.1.keep k hx, h.2.1.keep k hv, h.2.2⟩
theorem Rx.drewN {w : World} {x : Nat} {v : Value} {s : HS} (h : Rx w x v s) (n : Nat) : Rx (w.drewN n) x v s := h.keep ((Keep.refl [] w).drewN n) (by simp) (by simp)
/-- which numbers may be -/
def hsBad (win most : Int) : Prop := win < 1 ∨ 65536 < win ∨ most < 0
set_option maxHeartbeats 1000000 in
theorem refhs_lit (w : World) (x : Nat) (v : Value) (s : HS) (c : UInt8) (h : Rx w x v s) (hl : s.b.length + 1 ≤ 140737488355328) : Calls Try.prog 31 #[.pointer (some ⟨x, 0, none⟩), .int .u8 c.toNat] w fun e w' => ∃ v', e = .returned (.int .i64 (s.lit c).1) ∧ Rx w' x v' (s.lit c).2 ∧ Keep (x :: v.ownBlock.toList) w w' ∧ (∀ b, v'.ownBlock = some b → v.ownBlock = some b ∨ w.heap.size ≤ b) := by
  have c1 := h.1.cell 1 _ rfl
  have c3 := h.1.cell 3 _ rfl
  have f3 := h.1.free 3
  obtain ⟨a, n, cap, rfl⟩ := h.2.1.shape
  obtain rfl : n = s.b.length := by obtain ⟨_, _, e, _⟩ := h.2.1.bs; simp only [Value.slice.injEq] at e; exact e.2.1
  have h' := fun n => h.drewN n
  by_cases hf : s.most ≤ s.b.length
  · have HF : Hid (s.lit c = (9, s)) := by unfold Hid HS.lit; rw [if_pos hf]
    have hi : decide ((s.most : Int) ≤ s.b.length) = true := by simp; omega
    have H := Lib.hid h'
    clear h' h
    go_enter Try.func31, Try.ntmps31
    go_wp2_with fail
    go_quiet (fail)
    go_wp2_with fail
    go_ret
    exact ⟨_, by rw [HF.out]; rfl, by rw [HF.out]; exact H.out _, (Keep.refl _ _).drewN _, fun b hb => .inl hb⟩
  · have HF : Hid (s.lit c = (0, { s with b := s.b ++ [c] })) := by unfold Hid HS.lit; rw [if_neg hf]
    have hi : decide ((s.most : Int) ≤ s.b.length) = false := by rw [decide_eq_false_iff_not]; omega
    have H := Lib.hid h'
    clear h' h f3
    go_enter Try.func31, Try.ntmps31
    go_wp2_with fail
    go_quiet (fail)
    have h := H.out nq
    have K1 : Keep [] w (w.drewN nq) := (Keep.refl [] w).drewN nq
    generalize w.drewN nq = w1 at h K1 ⊢
    clear c1 c3 H
    have c3 := h.1.cell 3 _ rfl
    obtain ⟨hB, hO, hbx, hm, hw⟩ := h
    have hO2 := hO.keep ((Keep.refl [] w1).alloc (.cells #[.int .u8 (c.toNat)] 5)) (by simp)
    have hS := Bs.new1 w1 c
    have hB2 := hB.alloc (.cells #[.int .u8 (c.toNat)] 5)
    have kA := K1.alloc (.cells #[.int .u8 (c.toNat)] 5)
    have hxl := hB.lt
    have hs1 := K1.size
    clear hB hO
    go_wp2_with (at_builtin; (refine wpList_appendB (.tmp 21) (.tmp 23) rfl rfl (.slice a s.b.length cap) s.b rfl hO2 (.slice (some ⟨w1.heap.size, 0, none⟩) 1 1) [c] rfl hS (by simpa using hl) ?_); (intro v3 w3 ho3 hk3 hb3 hz3); (have hB3 := hB2.keep hk3 (fun hx => hbx x (by simpa using hx) rfl)); (have f3 := hB3.free 3); (have c3' := hB3.cell 3 _ rfl); (obtain ⟨a3, n3, cp3, rfl⟩ := ho3.shape))
    go_wp2_with fail
    go_ret
    generalize Value.slice a3 n3 cp3 = v3 at *
    have hv3 : ∀ b, v3.ownBlock = some b → b ≠ x := fun b hb => by
      rcases hb3 b hb with h | h
      · exact hbx b h
      · rw [h]; simp; omega
    rw [HF.out]
    refine ⟨v3, rfl, ⟨hB3.set 3 v3, ho3.keep ((Keep.refl [x] w3).setCell (by simp) v3) (by simpa using hv3), hv3, hm, hw⟩, ?_, fun b hb => ?_⟩
    · refine ((kA.nil (S := x :: (Value.slice a s.b.length cap).ownBlock.toList)).trans hk3 (fun y hy => .inl (by simp at hy ⊢; exact .inr hy))).setCell (.inl (by simp)) v3
    · rcases hb3 b hb with h | h
      · exact .inl h
      · right; rw [h]; simp; omega
set_option maxRecDepth 100000 in
set_option maxHeartbeats 4000000 in
theorem refhs_copy (w : World) (x : Nat) (v : Value) (s : HS) (d n : Int) (h : Rx w x v s) (hn : n ≤ 9223372036854775807) (hl : (s.b.length : Int) + (if (s.most : Int) - s.b.length < n then 0 else max 0 n) ≤ 140737488355000) : Calls Try.prog 32 #[.pointer (some ⟨x, 0, none⟩), .int .i64 d, .int .i64 n] w fun e w' => ∃ v', e = .returned (.int .i64 (s.copy d n).1) ∧ Rx w' x v' (s.copy d n).2 ∧ Keep (x :: v.ownBlock.toList) w w' ∧ (∀ b, v'.ownBlock = some b → v.ownBlock = some b ∨ w.heap.size ≤ b) := by
  have c0 := h.1.cell 0 _ rfl
  have c1 := h.1.cell 1 _ rfl
  have c2 := h.1.cell 2 _ rfl
  have c3 := h.1.cell 3 _ rfl
  have hm := h.2.2.2.1
  obtain ⟨a, ln, cap, rfl⟩ := h.2.1.shape
  obtain rfl : ln = s.b.length := by obtain ⟨_, _, e, _⟩ := h.2.1.bs; simp only [Value.slice.injEq] at e; exact e.2.1
  have hbl : s.b.length ≤ 140737488355328 := by omega
  have H := Lib.hid h
  clear h
  by_cases e1 : d < 1 ∨ n < 0
  · have HF : Hid (s.copy d n = (2, s)) := by unfold Hid HS.copy; rw [if_pos e1]
    by_cases g1 : d < 1
    · have d1 : decide (d < 1) = true := by simpa using g1
      clear e1
      go_enter Try.func32, Try.ntmps32
      go_wp2_with fail
      go_ret
      first | exact ⟨Value.slice a s.b.length cap, by rw [HF.out]; rfl, by rw [HF.out]; exact H.out, Keep.refl _ _, fun b hb => .inl hb⟩ | exact ⟨by rw [HF.out]; rfl, Value.slice a s.b.length cap, by rw [HF.out]; exact H.out, Keep.refl _ _, fun b hb => .inl hb⟩
    · have d1 : decide (d < 1) = false := by rw [decide_eq_false_iff_not]; exact g1
      have g2 : n < 0 := by omega
      have d2 : decide (n < 0) = true := by simpa using g2
      clear e1
      go_enter Try.func32, Try.ntmps32
      go_wp2_with fail
      go_ret
      first | exact ⟨Value.slice a s.b.length cap, by rw [HF.out]; rfl, by rw [HF.out]; exact H.out, Keep.refl _ _, fun b hb => .inl hb⟩ | exact ⟨by rw [HF.out]; rfl, Value.slice a s.b.length cap, by rw [HF.out]; exact H.out, Keep.refl _ _, fun b hb => .inl hb⟩
  obtain ⟨D, rfl⟩ := Int.eq_ofNat_of_zero_le (show 0 ≤ d by omega)
  obtain ⟨N, rfl⟩ := Int.eq_ofNat_of_zero_le (show 0 ≤ n by omega)
  have hD : 1 ≤ D := by omega
  have d1 : decide ((D : Int) < 1) = false := by rw [decide_eq_false_iff_not]; omega
  have d1' : ¬ (D : Int) < 1 := by omega
  have d2 : decide ((N : Int) < 0) = false := by rw [decide_eq_false_iff_not]; omega
  by_cases e2 : (s.win : Int) < D ∨ ((s.b.length : Int) < D ∧ s.nou = false)
  · have HF : Hid (s.copy D N = (8, s)) := by unfold Hid HS.copy; rw [if_neg e1, if_pos e2]
    by_cases g1 : s.win < D
    · have g3 : decide ((s.win : Int) < D) = true := by simp; omega
      clear e1 e2
      go_enter Try.func32, Try.ntmps32
      go_wp2_with fail
      go_ret
      first | exact ⟨Value.slice a s.b.length cap, by rw [HF.out]; rfl, by rw [HF.out]; exact H.out, Keep.refl _ _, fun b hb => .inl hb⟩ | exact ⟨by rw [HF.out]; rfl, Value.slice a s.b.length cap, by rw [HF.out]; exact H.out, Keep.refl _ _, fun b hb => .inl hb⟩
    · have g3 : decide ((s.win : Int) < D) = false := by rw [decide_eq_false_iff_not]; omega
      have g4 : s.b.length < D ∧ s.nou = false := by
        rcases e2 with h | ⟨h, h2⟩
        · omega
        · exact ⟨by omega, h2⟩
      obtain ⟨g4, g5⟩ := g4
      have g6 : decide ((s.b.length : Int) < D) = true := by simp; omega
      rw [g5] at c2
      clear e1 e2
      go_enter Try.func32, Try.ntmps32
      go_wp2_with fail
      go_ret
      first | exact ⟨Value.slice a s.b.length cap, by rw [HF.out]; rfl, by rw [HF.out]; exact H.out, Keep.refl _ _, fun b hb => .inl hb⟩ | exact ⟨by rw [HF.out]; rfl, Value.slice a s.b.length cap, by rw [HF.out]; exact H.out, Keep.refl _ _, fun b hb => .inl hb⟩
  have g1 : ¬ s.win < D := by omega
  have g3 : decide ((s.win : Int) < D) = false := by rw [decide_eq_false_iff_not]; omega
  have HT : Hid ((decide ((s.b.length : Int) < D) = false ∧ ¬ s.b.length < D) ∨ (decide ((s.b.length : Int) < D) = true ∧ s.b.length < D ∧ s.nou = true)) := by
    by_cases g : s.b.length < D
    · refine .inr ⟨by simp; omega, g, ?_⟩
      cases hs : s.nou with
      | false => exact absurd (.inr ⟨by omega, hs⟩) e2
      | true => rfl
    · exact .inl ⟨by rw [decide_eq_false_iff_not]; omega, g⟩
  have hlen := H.out.2.1.bs
  by_cases e3 : (s.most : Int) - s.b.length < N
  · have HF : Hid (s.copy D N = (9, s)) := by unfold Hid HS.copy; rw [if_neg e1, if_neg e2, if_pos e3]
    have hsub : IntKind.i64.wrap ((s.most : Int) - s.b.length) = (s.most : Int) - s.b.length := by rw [IntKind.wrap_i64]; omega
    have d3 : decide ((s.most : Int) - s.b.length < N) = true := by simpa using e3
    clear e1 e2 hl
    go_enter Try.func32, Try.ntmps32
    go_upto_region 3 with fail
    go_cut [37] (fun c wx => c = .bool false ∧ wx = w)
    case first =>
      rcases HT.out with ⟨t1, t2⟩ | ⟨t1, t2, t3⟩
      · go_wp2_with fail
        go_meet
        exact ⟨rfl, rfl⟩
      · rw [t3] at c2
        go_wp2_with fail
        go_meet
        exact ⟨rfl, rfl⟩
    case rest =>
      obtain ⟨rfl, rfl⟩ := hcut
      go_wp2_with fail
      go_quiet (fail)
      go_wp2_with fail
      go_ret
      exact ⟨.slice a s.b.length cap, by rw [HF.out]; rfl, by rw [HF.out]; exact H.out.drewN _, (Keep.refl _ _).drewN _, fun b hb => .inl hb⟩
  · have HF : Hid (s.copy D N = (0, { s with b := cpy s.b D N })) := by unfold Hid HS.copy; rw [if_neg e1, if_neg e2, if_neg e3]; simp
    have hsub : IntKind.i64.wrap ((s.most : Int) - s.b.length) = (s.most : Int) - s.b.length := by rw [IntKind.wrap_i64]; omega
    have d3 : decide ((s.most : Int) - s.b.length < N) = false := by rw [decide_eq_false_iff_not]; exact e3
    rw [if_neg e3] at hl
    have hNl : s.b.length + N ≤ 140737488355000 := by omega
    have hfit : s.b.length + N ≤ s.most := by omega
    clear e1 e2 hl
    go_enter Try.func32, Try.ntmps32
    go_upto_region 3 with fail
    go_cut [37] (fun c wx => c = .bool false ∧ wx = w)
    case first =>
      rcases HT.out with ⟨t1, t2⟩ | ⟨t1, t2, t3⟩
      · go_wp2_with fail
        go_meet
        exact ⟨rfl, rfl⟩
      · rw [t3] at c2
        go_wp2_with fail
        go_meet
        exact ⟨rfl, rfl⟩
    case rest =>
      obtain ⟨rfl, rfl⟩ := hcut
      go_wp2_with fail
      go_quiet (fail)
      have HM := Lib.hid (cpy_len s.b D)
      have hR := H.out.drewN nq
      have K1 : Keep (x :: (Value.slice a s.b.length cap).ownBlock.toList) wc (wc.drewN nq) := (Keep.refl _ _).drewN nq
      go_wp2_with fail
      generalize wc.drewN nq = w1 at hR K1 ⊢
      go_loopw [7] (fun i wr => ∃ (k : Nat) (a' : Option Addr) (cp' : Nat), k ≤ N ∧ i = .int .i64 k ∧ Rx wr x (.slice a' (s.b.length + k) cp') { s with b := cpy s.b D k } ∧ Keep (x :: (Value.slice a s.b.length cap).ownBlock.toList) wc wr ∧ Hid (∀ b, (Value.slice a' (s.b.length + k) cp').ownBlock = some b → (Value.slice a s.b.length cap).ownBlock = some b ∨ wc.heap.size ≤ b)) (fun i _ => N - (intOf i).toNat)
      case atStart => exact ⟨0, a, cap, by omega, rfl, hR, K1, fun b hb => .inl hb⟩
      case round =>
        clear hR K1 c0 c1 c2 c3
        obtain ⟨k, a', cp', hk, rfl, hR, K, HB⟩ := hrel
        by_cases hlt : k < N
        · have c3 := hR.1.cell 3 _ rfl
          have hlk := HM.out k
          have HRR := Lib.hid hR
          clear hR
          have hwm : IntKind.i64.wrap ((s.b.length : Int) + k) = (s.b.length : Int) + k := by rw [IntKind.wrap_i64]; omega
          go_upto_if 61 with fail
          go_cut [8] (fun cv wx => cv = .int .u8 ((back1 (cpy s.b D k) D).toNat) ∧ ∃ n, wx = wr.drewN n)
          case first =>
            by_cases hd : D ≤ s.b.length + k
            · have hdi : decide ((D : Int) ≤ (s.b.length : Int) + k) = true := by simp; omega
              rcases HRR.out.2.1.cases with ⟨hnil, hl0⟩ | ⟨g, cap2, hv, hc, hm2, hcell, hg⟩
              · have : s.b.length + k = 0 := by
                  have hl1 := congrArg List.length hl0
                  rw [hlk] at hl1; simpa using hl1
                omega
              · simp only [Value.slice.injEq] at hv
                obtain ⟨hv1, hv2, hv3⟩ := hv
                clear hv2 hv3
                subst hv1
                have hi : s.b.length + k - D < (cpy s.b D k).length := by rw [hlk]; omega
                have e0 := hcell _ hi
                have hb1 : ((cpy s.b D k)[s.b.length + k - D]).toNat = (back1 (cpy s.b D k) D).toNat := by
                  have h2 := back1_get (cpy s.b D k) D hD (by rw [hlk]; exact hd)
                  rw [List.getElem?_eq_getElem (by rw [hlk]; omega)] at h2
                  have h3 := Option.some.inj h2
                  rw [← h3]
                  congr 2
                  rw [hlk]
                rw [hb1] at e0
                have hw2 : IntKind.i64.wrap ((s.b.length : Int) + k - D) = ((s.b.length + k - D : Nat) : Int) := by rw [IntKind.wrap_i64]; omega
                have hge : (0 : Int) ≤ ((s.b.length + k - D : Nat) : Int) := by omega
                have hltl : ((s.b.length + k - D : Nat) : Int) < (s.b.length : Int) + k := by omega
                generalize hz : s.b.length + k - D = z at *
                have hdI : (D : Int) ≤ (s.b.length : Int) + k := by omega
                clear hcell hb1 hi hz
                generalize (back1 (cpy s.b D k) D).toNat = c at *
                go_wp2_with fail
                go_quiet (fail)
                go_wp2_with fail
                go_meet
                exact ⟨rfl, _, rfl⟩
            · have hdi : decide ((D : Int) ≤ (s.b.length : Int) + k) = false := by rw [decide_eq_false_iff_not]; omega
              have hb0 : (back1 (cpy s.b D k) D).toNat = 0 := by unfold back1; rw [if_neg (by rw [hlk]; omega)]; rfl
              have HB0 := Lib.hid hb0
              clear hb0
              go_wp2_with fail
              go_meet
              exact ⟨by rw [HB0.out]; rfl, 0, rfl⟩
          case rest =>
            obtain ⟨rfl, n3, rfl⟩ := hcut
            have hR := HRR.out.drewN n3
            have K1 := K.drewN n3
            have HCN : Hid (cpy s.b D (k + 1) = cpy s.b D k ++ [back1 (cpy s.b D k) D]) := rfl
            generalize back1 (cpy s.b D k) D = c at *
            generalize wr.drewN n3 = w4 at hR K1 ⊢
            clear HRR K c3
            have c3 := hR.1.cell 3 _ rfl
            obtain ⟨hB, hO, hbx, hm, hw⟩ := hR
            have hO2 := hO.keep ((Keep.refl [] w4).alloc (.cells #[.int .u8 (c.toNat)] 5)) (by simp)
            have hS := Bs.new1 w4 c
            have hB2 := hB.alloc (.cells #[.int .u8 (c.toNat)] 5)
            have kA := K1.alloc (.cells #[.int .u8 (c.toNat)] 5)
            have hxl := hB.lt
            have hs1 := K1.size
            clear hB hO
            go_wp2_with (at_builtin; (refine wpList_appendB (.tmp 80) (.tmp 82) rfl rfl (.slice a' (s.b.length + k) cp') (cpy s.b D k) rfl hO2 (.slice (some ⟨w4.heap.size, 0, none⟩) 1 1) [c] rfl hS (by rw [hlk]; simp; omega) ?_); (intro v3 w3 ho3 hk3 hb3 hz3); (have hB3 := hB2.keep hk3 (fun hx => hbx x (by simpa using hx) rfl)); (have f3 := hB3.free 3); (have c3' := hB3.cell 3 _ rfl); (obtain ⟨a3, n3, cp3, rfl⟩ := ho3.shape))
            obtain rfl : n3 = s.b.length + (k + 1) := by
              obtain ⟨_, _, e, _⟩ := ho3.bs
              simp only [Value.slice.injEq] at e
              rw [e.2.1, List.length_append, hlk]; rfl
            have hv3 : ∀ b, (Value.slice a3 (s.b.length + (k + 1)) cp3).ownBlock = some b → b ≠ x := fun b hb => by
              rcases hb3 b hb with h | h
              · exact hbx b h
              · rw [h]; simp; omega
            have HB3 : Hid (∀ b, (Value.slice a3 (s.b.length + (k + 1)) cp3).ownBlock = some b → (Value.slice a s.b.length cap).ownBlock = some b ∨ wc.heap.size ≤ b) := fun b hb => by
              rcases hb3 b hb with h | h
              · exact HB.out b h
              · right; rw [h]; simp; omega
            rw [← HCN.out] at ho3
            have hR2 : Rx (w3.setCell ⟨x, 3, none⟩ (.slice a3 (s.b.length + (k + 1)) cp3)) x (.slice a3 (s.b.length + (k + 1)) cp3) { s with b := cpy s.b D (k + 1) } :=
              ⟨hB3.set 3 _, ho3.keep ((Keep.refl [x] w3).setCell (by simp) _) (by simpa using hv3), hv3, hm, hw⟩
            have hK2 : Keep (x :: (Value.slice a s.b.length cap).ownBlock.toList) wc (w3.setCell ⟨x, 3, none⟩ (.slice a3 (s.b.length + (k + 1)) cp3)) :=
              (kA.trans hk3 (fun y hy => by
                have := HB.out y (by simpa using hy)
                rcases this with h | h
                · exact .inl (by simp [h])
                · exact .inr h)).setCell (.inl (by simp)) _
            clear hB3 f3 c3' c3 hB2 hO2 hS kA hk3 hb3 hz3 hbx hv3 ho3 hxl hs1 K1 HB
            go_wp2_with fail
            go_roundw
            case rel => exact ⟨k + 1, a3, cp3, by omega, by go_num, hR2, hK2, HB3⟩
            case measure => simp [intOf]; omega
        · obtain rfl : k = N := by omega
          have HRR := Lib.hid hR
          clear hR
          go_wp2_with fail
          go_ret
          first | exact ⟨_, by rw [HF.out]; rfl, by rw [HF.out]; exact HRR.out, K, HB.out⟩ | exact ⟨by rw [HF.out]; rfl, _, by rw [HF.out]; exact HRR.out, K, HB.out⟩
end Go.Proofs.Ytmafgamacijdaaa
