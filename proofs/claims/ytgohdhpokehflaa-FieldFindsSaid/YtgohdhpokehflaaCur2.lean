/- Contracts of take, number, U16, U32, Bytes of field.Cursor and of field.Open. -/
import Derived.Test.YtgohdhpokehflaaCur
import Derived.Test.YtgohdhpokehflaaLe
namespace Go.Proofs.Ytgohdhpokehflaa
set_option linter.unusedVariables false
set_option linter.unusedSimpArgs false
open Go.ChangeShapes Go.WideShapes Go.ChangeAt Go.RowKit

theorem number_c (w : World) (v : Value) (l : List UInt8) (hl : l.length ≤ 4) (h : Bs w v l) : Calls Try.prog 35 #[v] w fun e w' => e = .returned (.int .u32 (le l)) ∧ ∃ n, w' = w.drewN n := by
  rcases h.cases with ⟨rfl, a, cap, rfl, hm, _⟩ | ⟨hp, b, off, cap, rfl, h1, h2, hb, hc⟩
  · go_enter Try.func35, Try.ntmps35
    go_wp2
    refine wp_loop_rounds 1 ?_
    rw [rounds_succ]
    go_wp2
    go_ret
    exact ⟨rfl, 0, rfl⟩
  · unfold maxLen at h2
    go_enter Try.func35, Try.ntmps35
    go_wp2
    go_loopw [3, 8] (fun x i wr => ∃ k : Nat, k ≤ l.length ∧ i = .int .i64 k ∧ x = .int .u32 (le (l.take k)) ∧ ∃ n, wr = w.drewN n) (fun _ i _ => l.length - (intOf i).toNat)
    case atStart => exact ⟨0, by omega, rfl, rfl, 0, rfl⟩
    case round =>
      obtain ⟨k, hk, rfl, rfl, n, rfl⟩ := hrel
      by_cases hlt : k < l.length
      · have e1 := hc k hlt
        have HS := Lib.hid (le_or_step l k hlt hl)
        clear hc
        go_wp2
        go_roundw
        case rel => exact ⟨k + 1, by omega, by go_num, by rw [HS.out], _, rfl⟩
        case measure => simp [intOf]; omega
      · have HN : Hid (l.take k = l) := by unfold Hid; rw [List.take_of_length_le (by omega)]
        clear hc
        go_wp2
        go_ret
        exact ⟨by rw [HN.out]; rfl, _, rfl⟩

theorem take_right (w : World) (r : Nat) (v : Value) (s : CS) (n : Nat) (h : Cd w r v s) (hE : s.E = 0) (h2 : n ≤ s.left) : Calls Try.prog 36 #[.pointer (some ⟨r, 0, none⟩), .int .i64 n] w fun e w' => ∃ v', e = .returned v' ∧ Bs w' v' (s.take n).1 ∧ (∀ b, v'.ownBlock = some b → v.ownBlock = some b) ∧ Cd w' r v (s.take n).2 ∧ Keep [r] w w' := by
  have hl := s.left_le
  have hk1 := h.2.2.1.2.1
  have hk2 := h.2.2.1.1
  have hk3 := h.2.2.1.2.2
  have hr := h.2.2.2
  have hf : s.take n = ((s.l.drop s.pos).take n, { s with pos := s.pos + n }) := by unfold CS.take; rw [if_neg (by simpa using hE), if_neg (by omega), if_neg (by omega)]; simp
  have he2 : ((s.E : Int) != 0) = false := by simp [hE]
  have h3 : ¬ (s.left : Int) < n := by omega
  have h4 : ¬ (n : Int) < 0 := by omega
  have hfrom : s.pos + n ≤ s.l.length := by omega
  have HF := Lib.hid hf
  clear hf hE
  go_enter Try.func36, Try.ntmps36
  go_wp2_with fail
  refine (cuLeft_c _ _ _ _ h).mono ?_; rintro e w' ⟨rfl, m, rfl⟩
  have hm := h.drewN m
  have hw1 := (Keep.refl [r] w).drewN m
  generalize w.drewN m = w1 at hm hw1 ⊢
  have c1 := hm.1.cell 1 _ rfl
  have f1 := hm.1.free 1
  have hlt := hm.1.lt
  have hm2 : Cd (w1.setCell ⟨r, 1, none⟩ (.int .i64 ((s.pos + n : Nat) : Int))) r v { s with pos := s.pos + n } :=
    ⟨hm.1.set 1 _, hm.2.1.keep ((Keep.refl [r] _).setCell (by simp) _) (by simpa using hr), ⟨hfrom, hk1, hk3⟩, hr⟩
  have hw2 : Keep [r] w (w1.setCell ⟨r, 1, none⟩ (.int .i64 ((s.pos + n : Nat) : Int))) := hw1.setCell (by simp) _
  have e1 : ((s.pos + n : Nat) : Int) = (s.pos : Int) + n := by omega
  go_wp2_with (refine (cuErr_c _ _ _ _ hm).mono ?_; rintro e w' ⟨rfl, rfl⟩)
  rw [← e1]
  generalize (w1.setCell ⟨r, 1, none⟩ (.int .i64 ((s.pos + n : Nat) : Int))) = w2 at hm2 hw2 ⊢
  clear hm hw1 c1 f1
  have c1 := hm2.1.cell 1 _ rfl
  have c0 := hm2.1.cell 0 _ rfl
  rcases hm2.2.1.cases with ⟨rfl, hl0⟩ | ⟨g, cap, rfl, hc, hmx, hcell, hg⟩
  · have hl0 : s.l = [] := hl0
    have hl00 : s.l.length = 0 := by simp [hl0]
    obtain rfl : n = 0 := by omega
    have hp0 : s.pos = 0 := by omega
    have hq : (s.pos : Int) ≤ 0 := by omega
    have HP := Lib.hid hp0; clear hp0
    have HL := Lib.hid hl0; clear hl0
    clear hl hk1 hk2
    go_quiet (fail)
    go_wp2
    go_ret
    exact ⟨_, rfl, by rw [show s.take 0 = _ from HF.out]; exact Bs.nil _, (fun b hb => by simp [Value.ownBlock] at hb), by rw [show s.take 0 = _ from HF.out]; exact hm2.drewN _, hw2.drewN _⟩
  · have hc : s.l.length ≤ cap := hc
    have hcell : ∀ i (hi : i < s.l.length), w2.cell? ⟨g, i, none⟩ = some (.int .u8 (s.l[i].toNat)) := hcell
    have hmx2 := hmx
    unfold maxLen at hmx2
    have hb := Bs.part3 hc hmx hcell
    have HC := Lib.hid hcell; clear hcell
    have HB := Lib.hid hb; clear hb
    clear hl hk1 hk2
    have g0 : 0 ≤ (s.pos : Int) := by omega
    have g1 : (s.pos : Int) ≤ s.pos + n := by omega
    have g2 : (s.pos : Int) + n ≤ cap := by omega
    rw [e1] at c1
    by_cases hn : n = 0
    · subst hn
      go_quiet (fail)
      go_wp2
      go_ret
      exact ⟨_, rfl, by rw [show s.take 0 = _ from HF.out]; exact Bs.none_of_len _ (by simp), (fun b hb => hb), by rw [show s.take 0 = _ from HF.out]; exact hm2.drewN _, hw2.drewN _⟩
    · have hn2 : s.pos ≠ s.pos + n := by omega
      go_quiet (fail)
      go_wp2
      go_ret
      refine ⟨_, rfl, ?_, (fun b hb => hb), by rw [HF.out]; exact hm2.drewN _, hw2.drewN _⟩
      rw [HF.out]
      have := (HB.out s.pos n hfrom).keep ((Keep.refl [] _).drewN nq) (by simp)
      have e2 : s.pos + n - s.pos = n := by omega
      simpa [e2] using this
theorem take_c (w : World) (r : Nat) (v : Value) (s : CS) (n : Int) (h : Cd w r v s) : Calls Try.prog 36 #[.pointer (some ⟨r, 0, none⟩), .int .i64 n] w fun e w' => ∃ v', e = .returned v' ∧ Bs w' v' (s.take n).1 ∧ Cd w' r v (s.take n).2 ∧ Keep [r] w w' := by
  by_cases hb : s.E ≠ 0 ∨ n < 0 ∨ (s.left : Int) < n
  · exact (take_wrong w r v s n h hb).mono fun e w' ⟨he, h1, h2, h3⟩ => ⟨_, he, by rw [h1]; exact Bs.nil _, h2, h3⟩
  · obtain ⟨k, rfl⟩ : ∃ k : Nat, n = k := ⟨n.toNat, by omega⟩
    exact (take_right w r v s k h (by omega) (by omega)).mono fun e w' ⟨v', he, h1, _, h2, h3⟩ => ⟨_, he, h1, h2, h3⟩
theorem CS.take_len (s : CS) (n : Nat) : (s.take n).1.length ≤ n := by
  unfold CS.take
  split; simp
  split; simp
  split; simp
  simp; omega
theorem CS.take_le (s : CS) (n : Int) : (s.take n).1.length ≤ s.l.length := by
  unfold CS.take
  split; simp
  split; simp
  split; simp
  simp; omega
theorem cu16_c (w : World) (r : Nat) (v : Value) (s : CS) (h : Cd w r v s) : Calls Try.prog 11 #[.pointer (some ⟨r, 0, none⟩)] w fun e w' => e = .returned (.int .i64 (le (s.take 2).1)) ∧ Cd w' r v (s.take 2).2 ∧ Keep [r] w w' := by
  have hl := s.take_len 2
  have hlt := le_lt32 (s.take 2).1 (by have : (s.take 2).1.length ≤ 2 := hl; omega)
  go_enter Try.func11, Try.ntmps11
  go_wp2_with fail
  refine (take_c w r v s 2 h).mono ?_; rintro e w1 ⟨v1, rfl, hb, hc, hk⟩
  go_wp2_with fail
  refine (number_c w1 v1 _ (by have : (s.take 2).1.length ≤ 2 := hl; omega) hb).mono ?_; rintro e w2 ⟨rfl, n, rfl⟩
  go_wp2_with fail
  go_ret
  exact ⟨rfl, hc.drewN n, hk.drewN n⟩
theorem cu32_c (w : World) (r : Nat) (v : Value) (s : CS) (h : Cd w r v s) : Calls Try.prog 14 #[.pointer (some ⟨r, 0, none⟩)] w fun e w' => e = .returned (.int .u32 (le (s.take 4).1)) ∧ Cd w' r v (s.take 4).2 ∧ Keep [r] w w' := by
  have hl := s.take_len 4
  go_enter Try.func14, Try.ntmps14
  go_wp2_with fail
  refine (take_c w r v s 4 h).mono ?_; rintro e w1 ⟨v1, rfl, hb, hc, hk⟩
  go_wp2_with fail
  refine (number_c w1 v1 _ hl hb).mono ?_; rintro e w2 ⟨rfl, n, rfl⟩
  go_wp2_with fail
  go_ret
  exact ⟨rfl, hc.drewN n, hk.drewN n⟩
theorem cuBytes_c (w : World) (r : Nat) (v : Value) (s : CS) (n : Int) (h : Cd w r v s) : Calls Try.prog 15 #[.pointer (some ⟨r, 0, none⟩), .int .i64 n] w fun e w' => ∃ v', e = .returned v' ∧ OwnB w' v' (s.take n).1 ∧ (∀ b, v'.ownBlock = some b → w.heap.size ≤ b) ∧ Cd w' r v (s.take n).2 ∧ Keep [r] w w' := by
  have hl := s.take_le n
  have hk1 := h.2.2.1.2.1
  go_enter Try.func15, Try.ntmps15
  go_wp2_with fail
  refine (take_c w r v s n h).mono ?_; rintro e w1 ⟨v1, rfl, hb, hc, hk⟩
  go_wp2_with fail
  refine (clone_c w1 v1 _ (by omega) hb).mono ?_; rintro e w2 ⟨v2, rfl, ho, hk2, hv2⟩
  go_wp2_with fail
  go_ret
  exact ⟨v2, rfl, ho, (fun b hb => Nat.le_trans hk.size (hv2 b hb)), hc.keep hk2 (by simp) (by simp), hk.trans hk2 (by simp)⟩
theorem cu16_nil (w : World) : Calls Try.prog 11 #[.pointer none] w fun e w' => e = .returned (.int .i64 0) ∧ ∃ n, w' = w.drewN n := by
  go_enter Try.func11, Try.ntmps11
  go_wp2_with fail
  refine (take_nil w 2).mono ?_; rintro e w1 ⟨rfl, rfl⟩
  go_wp2_with fail
  refine (number_c w _ [] (by simp) (Bs.nil _)).mono ?_; rintro e w2 ⟨rfl, n, rfl⟩
  rw [show ((le [] : Nat) : Int) = 0 from rfl]
  go_wp2_with fail
  go_ret
  exact ⟨rfl, n, rfl⟩
theorem cu32_nil (w : World) : Calls Try.prog 14 #[.pointer none] w fun e w' => e = .returned (.int .u32 0) ∧ ∃ n, w' = w.drewN n := by
  go_enter Try.func14, Try.ntmps14
  go_wp2_with fail
  refine (take_nil w 4).mono ?_; rintro e w1 ⟨rfl, rfl⟩
  go_wp2_with fail
  refine (number_c w _ [] (by simp) (Bs.nil _)).mono ?_; rintro e w2 ⟨rfl, n, rfl⟩
  rw [show ((le [] : Nat) : Int) = 0 from rfl]
  go_wp2_with fail
  go_ret
  exact ⟨rfl, n, rfl⟩
theorem cuBytes_nil (w : World) (n : Int) : Calls Try.prog 15 #[.pointer none, .int .i64 n] w fun e w' => e = .returned (.slice none 0 0) ∧ w = w' := by
  go_enter Try.func15, Try.ntmps15
  go_wp2_with fail
  refine (take_nil w n).mono ?_; rintro e w1 ⟨rfl, rfl⟩
  go_wp2_with fail
  refine (clone_nil w).mono ?_; rintro e w2 ⟨rfl, rfl⟩
  go_wp2_with fail
  go_ret
  exact ⟨rfl, rfl⟩
theorem cuOpen_c (w : World) (v : Value) (l : List UInt8) (hl : l.length ≤ 140737488355328) (h : Bs w v l) : Calls Try.prog 10 #[v] w fun e w' => ∃ r v', e = .returned (.pointer (some ⟨r, 0, none⟩)) ∧ Cd w' r v' ⟨l, 0, true, 0⟩ ∧ Keep [] w w' ∧ w.heap.size ≤ r ∧ (∀ b, v'.ownBlock = some b → w.heap.size ≤ b) := by
  have hc := Lib.hid (clone_c w v l hl h)
  go_enter Try.func10, Try.ntmps10
  go_wp2_with fail
  refine hc.out.mono ?_; rintro e w' ⟨v', rfl, ho, hk, hv⟩
  obtain ⟨a, n, c, rfl⟩ := ho.shape
  go_wp2_with fail
  go_ret
  refine ⟨w'.heap.size, .slice a n c, rfl, ⟨Blk.new _ _ _, ho.keep ((Keep.refl [] _).alloc _) (by simp), ⟨by simp, hl, by simp⟩, fun b hb => Nat.ne_of_lt (ho.lt b hb)⟩, hk.alloc _, hk.size, hv⟩
end Go.Proofs.Ytgohdhpokehflaa
