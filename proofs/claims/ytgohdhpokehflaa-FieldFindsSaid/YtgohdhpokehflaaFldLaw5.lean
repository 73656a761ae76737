/- The walk of the law FieldFinds: it returns true at every input. -/
import Derived.Test.YtgohdhpokehflaaFldLives
import Derived.Test.YtgohdhpokehflaaFind
import Derived.Test.YtgohdhpokehflaaCopyB
namespace Go.Proofs.Ytgohdhpokehflaa
set_option linter.unusedVariables false
set_option linter.unusedSimpArgs false
open Go.ChangeShapes Go.WideShapes Go.ChangeAt Go.RowKit

theorem lastAt_spec (l d : List UInt8) (n : Int) : lastAt l d n = -1 ∨ ∃ i : Nat, lastAt l d n = i ∧ (i : Int) ≤ n ∧ i + d.length ≤ l.length ∧ (l.drop i).take d.length = d := by
  unfold lastAt
  by_cases h0 : n < 0
  · left; rw [if_pos h0]
  · rw [if_neg h0]
    by_cases h1 : l.length < d.length
    · left; rw [if_pos h1]
    · rw [if_neg h1]
      rcases Lib.lastOcc_spec l d (min n.toNat (l.length - d.length) + 1) with ⟨h, _⟩ | ⟨i, hi, h, ho, _⟩
      · exact .inl h
      · right
        refine ⟨i, h, by omega, by omega, ?_⟩
        rw [Lib.RK.occAt_win _ _ _ (by omega)] at ho
        simpa [Lib.RK.win] using ho
set_option maxRecDepth 100000 in
set_option maxHeartbeats 4000000 in
theorem finds_c (W : World) (v0 : Value) (l0 : List UInt8) (h0 : Bs W v0 l0) (x : Nat) (hx : x < 4294967296) (n at_ : Int) (hn : n ≤ 9223372036854775807) : Calls Try.prog 5 #[v0, .int .u32 x, .int .i64 n, .int .i64 at_] W fun e w' => e = .returned (.bool true) ∧ Keep [] W w' := by
  go_enter Try.func5, Try.ntmps5
  go_wp2_with fail
  refine (cut_c W v0 l0 150 (by decide) h0).mono ?_; rintro e w' ⟨vc, rfl, hb, hvc, rfl⟩
  have hl150 : (l0.take 150).length ≤ 150 := by rw [List.length_take]; omega
  generalize l0.take 150 = l at hb hl150
  go_wp2_with fail
  refine (copy_c W vc l (by omega) hb).mono ?_; rintro e w1 ⟨vb, rfl, ho, hk1, hvb⟩
  clear hb hvc h0
  obtain ⟨ab, cb, rfl, hcb, hcm⟩ := ho.bs.shape
  unfold maxLen at hcm
  have key : (0 ≤ at_ ∧ at_ < 1000 ∧ at_ + 4 ≤ l.length) ∨ ¬ 0 ≤ at_ ∨ (0 ≤ at_ ∧ ¬ at_ < 1000) ∨ (0 ≤ at_ ∧ at_ < 1000 ∧ ¬ at_ + 4 ≤ l.length) := by omega
  have hstart : Keep [] W w1 ∧ OwnB w1 (.slice ab l.length cb) l := ⟨hk1, ho⟩
  rcases key with ⟨p1, p2, p3⟩ | p1 | ⟨p1, p2⟩ | ⟨p1, p2, p3⟩
  · obtain ⟨m, rfl⟩ : ∃ m : Nat, at_ = m := ⟨at_.toNat, by omega⟩
    rcases ho.cases with ⟨h1, h2⟩ | ⟨g, cap, h1, hgc, _, _, hg⟩
    · simp only [Value.slice.injEq] at h1; omega
    · simp only [Value.slice.injEq] at h1
      obtain ⟨rfl, _, rfl⟩ := h1
      have hsl := fun (ww : World) => run_from (W := ww) (g := g) (L := l.length) (cap := cb) (m : Int) m rfl (by omega) (by omega)
      have hgW : W.heap.size ≤ g := hvb g rfl
      have ho1 : OwnB w1.drew (.slice (some ⟨g, 0, none⟩) l.length cb) l := ho.keep ((Keep.refl [] _).drew) (by simp)
      have K1 : Keep [] W w1.drew := hk1.drew
      clear ho hk1 hstart
      go_wp2_with fail
      have hrp := Lib.hid (refput_c w1.drew x 4 hx (by decide))
      go_region_with (first
        | (go_at_call 26; (refine hrp.out.mono ?_); (rintro e w2 ⟨vp, rfl, ho2, hk2, hv2⟩); (have ho3 := ho1.keep hk2 (by simp)); (obtain ⟨w3, hrun, ho4, hk4⟩ := run_copyB w2 3 g l.length cb l m (l.length - m) (cb - m) vp (lb 4 x) ho3 (by omega) ho2.bs)))
      all_goals
        have ho2' : OwnB w3 (.slice (some ⟨g, 0, none⟩) l.length cb) (l.take m ++ (lb 4 x ++ l.drop (m + 4))) := by
          have e : (lb 4 x).take (l.length - m) = lb 4 x := List.take_of_length_le (by rw [lb_length]; omega)
          rw [e, lb_length, Nat.min_eq_left (by omega)] at ho4
          exact ho4
        have hlen : (l.take m ++ (lb 4 x ++ l.drop (m + 4))).length = l.length := by simp [lb_length]; omega
        have K2 : Keep [] W w3 := (K1.trans hk2 (by simp)).trans hk4 (by intro b hb; right; simp at hb; omega)
        generalize l.take m ++ (lb 4 x ++ l.drop (m + 4)) = l2 at ho2' hlen
        have hl2 : l2.length ≤ 150 := by omega
        have Hlen := Lib.hid hlen
        clear ho4 hrun hk4 hk2 ho2 ho3 hv2 hrp ho1 K1 hsl hvb hlen
        have ho2 := ho2'
        clear ho2'
        generalize w3 = wx at ho2 K2 ⊢
        have hfd := Lib.hid (find_c wx _ l2 x n (by omega) hx ho2.bs hn)
        go_wp2_with fail
        refine hfd.out.mono ?_; rintro e w5 ⟨rfl, hk5⟩
        have ho5 := ho2.keep hk5 (by simp)
        have K5 : Keep [] W w5 := K2.trans hk5 (by simp)
        have hfr := Lib.hid (findref_c w5 _ l2 x n (by omega) hx ho5.bs hn)
        clear hfd hk5 ho2 K2
        go_wp2_with fail
        refine hfr.out.mono ?_; rintro e w6 ⟨rfl, q, rfl⟩
        have ho6 := ho5.keep ((Keep.refl [] _).drewN q) (by simp)
        have K6 := K5.drewN q
        generalize w5.drewN q = w6 at ho6 K6 ⊢
        clear hfr ho5 K5
        rcases lastAt_spec l2 (lb 4 x) n with he | ⟨i, he, hi1, hi2, hi3⟩
        · rw [he]
          clear he
          go_wp2_with (refine (lives_c _).mono ?_; rintro e w' ⟨rfl, hk⟩)
          go_ret
          exact ⟨rfl, K6.trans hk (by simp)⟩
        · rw [lb_length] at hi2 hi3
          obtain ⟨vj, hsj, hbj, _⟩ := ho6.bs.cut i (i + 4) (i : Int) ((i : Int) + 4) rfl (by omega) (by omega) hi2
          rw [show i + 4 - i = 4 by omega, hi3] at hbj
          have hnum := num_c w6 vj (lb 4 x) (by rw [lb_length]; decide) hbj
          have hle2 : le (lb 4 x) = x := by rw [le_lb]; omega
          rw [hle2] at hnum
          have Hnum := Lib.hid hnum
          rw [he]
          have h4 : (i : Int) + 4 ≤ l.length := by have := Hlen.out; omega
          clear he hi3 hnum hle2 hbj
          go_wp2_with fail
          refine Hnum.out.mono ?_; rintro e w7 ⟨rfl, q2, rfl⟩
          have K7 := K6.drewN q2
          generalize w6.drewN q2 = w7 at K7 ⊢
          go_wp2_with (refine (lives_c _).mono ?_; rintro e w' ⟨rfl, hk⟩)
          go_ret
          exact ⟨rfl, K7.trans hk (by simp)⟩
  all_goals
    obtain ⟨K2, ho2⟩ := hstart
    obtain ⟨l2, hll⟩ : ∃ l2, l2 = l := ⟨_, rfl⟩
    have hlen : l2.length = l.length := by rw [hll]
    have hl2 : l2.length ≤ 150 := by omega
    rw [← hll] at ho2 
    subst hll
    generalize w1 = wx at ho2 K2 ⊢
    have hfd := Lib.hid (find_c wx _ l2 x n (by omega) hx ho2.bs hn)
    clear hk1 ho hvb
    go_wp2_with fail
    refine hfd.out.mono ?_; rintro e w5 ⟨rfl, hk5⟩
    have ho5 := ho2.keep hk5 (by simp)
    have K5 : Keep [] W w5 := K2.trans hk5 (by simp)
    have hfr := Lib.hid (findref_c w5 _ l2 x n (by omega) hx ho5.bs hn)
    clear hfd hk5 ho2 K2
    go_wp2_with fail
    refine hfr.out.mono ?_; rintro e w6 ⟨rfl, q, rfl⟩
    have ho6 := ho5.keep ((Keep.refl [] _).drewN q) (by simp)
    have K6 := K5.drewN q
    generalize w5.drewN q = w6 at ho6 K6 ⊢
    clear hfr ho5 K5
    rcases lastAt_spec l2 (lb 4 x) n with he | ⟨i, he, hi1, hi2, hi3⟩
    · rw [he]
      clear he
      go_wp2_with (refine (lives_c _).mono ?_; rintro e w' ⟨rfl, hk⟩)
      go_ret
      exact ⟨rfl, K6.trans hk (by simp)⟩
    · rw [lb_length] at hi2 hi3
      obtain ⟨vj, hsj, hbj, _⟩ := ho6.bs.cut i (i + 4) (i : Int) ((i : Int) + 4) rfl (by omega) (by omega) hi2
      rw [show i + 4 - i = 4 by omega, hi3] at hbj
      have hnum := num_c w6 vj (lb 4 x) (by rw [lb_length]; decide) hbj
      have hle2 : le (lb 4 x) = x := by rw [le_lb]; omega
      rw [hle2] at hnum
      have Hnum := Lib.hid hnum
      rw [he]
      have h4 : (i : Int) + 4 ≤ l2.length := by omega
      clear he hi3 hnum hle2 hbj
      go_wp2_with fail
      refine Hnum.out.mono ?_; rintro e w7 ⟨rfl, q2, rfl⟩
      have K7 := K6.drewN q2
      generalize w6.drewN q2 = w7 at K7 ⊢
      go_wp2_with (refine (lives_c _).mono ?_; rintro e w' ⟨rfl, hk⟩)
      go_ret
      exact ⟨rfl, K7.trans hk (by simp)⟩
theorem finds_w (W : World) (v0 : Value) (l0 : List UInt8) (h0 : Bs W v0 l0) (a1 : Int) (w1 : (Lit.int .u32 a1).wf = true) (a2 : Int) (w2 : (Lit.int .i64 a2).wf = true) (a3 : Int) (w3 : (Lit.int .i64 a3).wf = true) : Calls Try.prog 5 #[v0, .int .u32 a1, .int .i64 a2, .int .i64 a3] W fun e w' => e = .returned (.bool true) ∧ Keep [] W w' := by
  have h : 0 ≤ a1 ∧ a1 ≤ 4294967295 := by simpa [Lit.wf, IntKind.min, IntKind.max, IntKind.bits, IntKind.signed] using w1
  have h2 : -9223372036854775808 ≤ a2 ∧ a2 ≤ 9223372036854775807 := by simpa [Lit.wf, IntKind.min, IntKind.max, IntKind.bits, IntKind.signed] using w2
  obtain ⟨x, rfl⟩ := Int.eq_ofNat_of_zero_le h.1
  exact finds_c W v0 l0 h0 x (by omega) a2 a3 h2.2
end Go.Proofs.Ytgohdhpokehflaa
