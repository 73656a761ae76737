/- Contracts of canon's calls, as the laws use them: New, Next, Longest. -/
import Derived.Test.YtdhdfedbhanijaaCan6
import Derived.Test.YtdhdfedbhanijaaBitLook2
namespace Go.Proofs.Ytdhdfedbhanijaa
set_option linter.unusedVariables false
set_option linter.unusedSimpArgs false
open Go.ChangeShapes Go.WideShapes Go.ChangeAt Go.RowKit

theorem can_new (w : World) (v : Value) (zs : List Int) (h : Is .i64 w v zs) : Calls Try.prog 12 #[v] w fun e w' => ∃ p, e = .returned (.tuple #[.pointer p, .int .i64 (werr zs)]) ∧ Keep [] w w' ∧ (werr zs ≠ 0 → p = none) ∧ (werr zs = 0 → ∃ q bs, p = some ⟨q, 0, none⟩ ∧ Dec w' q bs (Ln zs) ∧ ∀ b ∈ bs, w.heap.size ≤ b) := by
  by_cases h0 : werr zs = 0
  · obtain ⟨hm, hwt⟩ := werr_ok h0
    refine (new_ok w v zs h h0).mono ?_
    rintro e w' ⟨q, sb, nb, rfl, k, ⟨cs, ss, m⟩, hq, hs, hne⟩
    refine ⟨_, by rw [h0]; rfl, k, fun h => absurd h0 h, fun _ => ⟨q, [q, sb], rfl, ⟨sb, rfl, hne, ⟨cs, ss, m⟩, may_Ln hm, hwt, by rw [Ln_length]; exact ((may_iff zs).1 hm).1⟩, ?_⟩⟩
    intro b hb
    simp at hb
    rcases hb with rfl | rfl <;> assumption
  · refine (new_err w v zs h h0).mono ?_
    rintro e w' ⟨rfl, k⟩
    exact ⟨none, rfl, k, fun _ => rfl, fun h => absurd h h0⟩
theorem can_longest (w : World) (q : Nat) (bs L : List Nat) (h : Dec w q bs L) : Calls Try.prog 16 #[.pointer (some ⟨q, 0, none⟩)] w fun e w' => e = .returned (.int .i64 (longest L)) ∧ ∃ n, w' = w.drewN n := by
  obtain ⟨sb, rfl, hqs, ⟨cs, ss, b1, b2, b3, b4, b5, b6⟩, hL, hwt, hlen⟩ := h
  have c1 := b1.cell 1 _ b2.2.2.1
  go_enter Try.func16, Try.ntmps16
  go_wp2_with fail
  go_ret
  exact ⟨rfl, 0, rfl⟩
theorem can_longest_nil (w : World) : Calls Try.prog 16 #[.pointer none] w fun e w' => e = .returned (.int .i64 0) ∧ ∃ n, w' = w.drewN n := by
  go_enter Try.func16, Try.ntmps16
  go_wp2_with fail
  go_ret
  exact ⟨rfl, 0, rfl⟩
/-- a Decoder that New did not make -/
def Plain (w : World) (q : Nat) : Prop := ∃ cs, Blk w q cs 70 ∧ cs[0]? = some (.bool false) ∧ cs[1]? = some (.int .i64 0)
theorem Plain.keep {w w' : World} {q : Nat} {S : List Nat} (h : Plain w q) (k : Keep S w w') (hq : q ∉ S) : Plain w' q := by
  obtain ⟨cs, a, b⟩ := h
  exact ⟨cs, a.keep k hq, b⟩
theorem pz_plain (w : World) (q : Nat) (h : Blk w q pz 70) : Plain w q := ⟨pz, h, by kernel_rfl, by kernel_rfl⟩
theorem can_longest_plain (w : World) (q : Nat) (h : Plain w q) : Calls Try.prog 16 #[.pointer (some ⟨q, 0, none⟩)] w fun e w' => e = .returned (.int .i64 0) ∧ ∃ n, w' = w.drewN n := by
  obtain ⟨cs, b1, b2, b3⟩ := h
  have c1 := b1.cell 1 _ b3
  go_enter Try.func16, Try.ntmps16
  go_wp2_with fail
  go_ret
  exact ⟨rfl, 0, rfl⟩
theorem can_next_nil (w : World) (p : Option Addr) : Calls Try.prog 25 #[.pointer none, .pointer p] w fun e w' => e = .returned (.tuple #[.int .i64 (-1), .int .i64 1]) ∧ Keep [] w w' := by
  go_enter Try.func25, Try.ntmps25
  go_wp2_with fail
  go_ret2
  exact ⟨rfl, Keep.refl _ _⟩
theorem can_next_plain (w : World) (q : Nat) (p : Option Addr) (h : Plain w q) : Calls Try.prog 25 #[.pointer (some ⟨q, 0, none⟩), .pointer p] w fun e w' => e = .returned (.tuple #[.int .i64 (-1), .int .i64 1]) ∧ Keep [] w w' := by
  obtain ⟨cs, b1, b2, b3⟩ := h
  have c0 := b1.cell 0 _ b2
  go_enter Try.func25, Try.ntmps25
  go_wp2_with fail
  go_ret2
  exact ⟨rfl, Keep.refl _ _⟩
/-- why there is no word -/
def lk (L : List Nat) (s : RS) : Nat := if s.E ≠ 0 then s.E else if s.left < longest L then 3 else 7
theorem lack_nil (w : World) (q : Nat) (bs L : List Nat) (h : Dec w q bs L) : Calls Try.prog 49 #[.pointer (some ⟨q, 0, none⟩), .pointer none] w fun e w' => e = .returned (.int .i64 1) ∧ w = w' := by
  go_enter Try.func49, Try.ntmps49
  go_wp2_with fail
  refine (err_nil _).mono ?_; rintro e w1 ⟨rfl, rfl⟩
  go_wp2_with fail
  go_ret
  exact ⟨rfl, rfl⟩
theorem lack_c (w : World) (q r : Nat) (v : Value) (s : RS) (bs L : List Nat) (h : Dec w q bs L) (hr : Rd w r v s) : Calls Try.prog 49 #[.pointer (some ⟨q, 0, none⟩), .pointer (some ⟨r, 0, none⟩)] w fun e w' => e = .returned (.int .i64 (lk L s)) ∧ ∃ n, w' = w.drewN n := by
  obtain ⟨sb, rfl, hqs, ⟨cs, ss, b1, b2, b3, b4, b5, b6⟩, hL, hwt, hlen⟩ := h
  have c1 := b1.cell 1 _ b2.2.2.1
  have HE := Lib.hid (err_c w r v s hr)
  have HL := Lib.hid (fun n => left_c (w.drewN n) r v s (hr.drewN n))
  clear b4 b6 b2 b3
  by_cases hE : s.E = 0
  · have he : ((s.E : Int) != 0) = false := by simp [hE]
    have HK : Hid (lk L s = if s.left < longest L then 3 else 7) := by unfold Hid lk; rw [if_neg (by simpa using hE)]
    clear hE
    by_cases hl : s.left < longest L
    · rw [if_pos hl] at HK
      generalize longest L = lg at *
      generalize s.left = lf at *
      go_enter Try.func49, Try.ntmps49
      go_wp2_with fail
      refine HE.out.mono ?_; rintro e w1 ⟨rfl, rfl⟩
      go_wp2_with fail
      go_quiet ((go_at_call 32; exact Calls.quiet_of (HL.out _)))
      go_wp2_with fail
      go_ret
      exact ⟨by rw [HK.out]; rfl, _, rfl⟩
    · rw [if_neg hl] at HK
      generalize longest L = lg at *
      generalize s.left = lf at *
      go_enter Try.func49, Try.ntmps49
      go_wp2_with fail
      refine HE.out.mono ?_; rintro e w1 ⟨rfl, rfl⟩
      go_wp2_with fail
      go_quiet ((go_at_call 32; exact Calls.quiet_of (HL.out _)))
      go_wp2_with fail
      go_ret
      exact ⟨by rw [HK.out]; rfl, _, rfl⟩
  · have he : ((s.E : Int) != 0) = true := by simp; omega
    have HK : Hid (lk L s = s.E) := by unfold Hid lk; rw [if_pos hE]
    clear hE
    generalize s.E = er at *
    go_enter Try.func49, Try.ntmps49
    go_wp2_with fail
    refine HE.out.mono ?_; rintro e w1 ⟨rfl, rfl⟩
    go_wp2_with fail
    go_ret
    exact ⟨by rw [HK.out]; rfl, 0, rfl⟩
theorem num_low (l : List UInt8) (p a n : Nat) (h : n ≤ a) : num l p a % 2 ^ n = num l p n := by
  have := num_cut l p a n 0 (by omega)
  simpa using this
theorem hit_same (L : List Nat) (l : List UInt8) (p i : Nat) (hL : ∀ y ∈ L, y ≤ 16) (hwt : wt L ≤ 65536) : hit L (tr 16 (num l p (longest L)) 0) i ↔ hit L (tr 16 (num l p 16) 0) i := by
  have hlg := longest_le L 16 hL
  have h1 := longest_ge L i
  constructor
  · intro h
    refine (hit_bits L _ i 0 h.1 hL hwt h.2.1).1 ?_
    rw [num_low l p 16 _ (by omega), ← num_low l p (longest L) _ h1]
    exact (hit_bits L _ i 0 h.1 hL hwt h.2.1).2 h
  · intro h
    refine (hit_bits L _ i 0 h.1 hL hwt h.2.1).1 ?_
    rw [num_low l p (longest L) _ h1, ← num_low l p 16 _ (by omega)]
    exact (hit_bits L _ i 0 h.1 hL hwt h.2.1).2 h
/-- what the decoder finds is what the document picks -/
theorem next_bg (L : List Nat) (s : RS) (h0 : s.E = 0) (hL : ∀ y ∈ L, y ≤ 16) (hwt : wt L ≤ 65536) :
    (∃ i, bg L (num s.l s.pos (longest L)) = (i, len L i) ∧ 0 < len L i ∧ len L i ≤ min (longest L) s.left ∧ s.next L = ((i : Int), 0, { s with pos := s.pos + len L i })) ∨
    (((bg L (num s.l s.pos (longest L))).2 = 0 ∨ min (longest L) s.left < (bg L (num s.l s.pos (longest L))).2) ∧ s.next L = (-1, lk L s, s)) := by
  have hlk : lk L s = if s.left < longest L then 3 else 7 := by unfold lk; rw [if_neg (by omega)]
  by_cases hh : ∃ i, hit L (tr 16 (num s.l s.pos 16) 0) i
  · obtain ⟨i, hi⟩ := hh
    have hb := bg_hit L _ i hL ((hit_same L s.l s.pos i hL hwt).2 hi)
    have hge := longest_ge L i
    by_cases hle : len L i ≤ s.left
    · refine .inl ⟨i, hb, hi.2.1, by omega, RS.next_hit L s h0 i ((pick_some L _ _ i hL).2 ⟨hi, ?_⟩)⟩
      have := hi.2.2.1
      omega
    · refine .inr ⟨.inr (by rw [hb]; show _ < len L i; omega), ?_⟩
      rw [RS.next_none L s h0 ((pick_none L _ _ hL).2 fun k hk => ?_), hlk]
      rw [hit_unique L _ k i hk hi]; omega
  · have hno : ∀ i, ¬ hit L (tr 16 (num s.l s.pos 16) 0) i := fun i hi => hh ⟨i, hi⟩
    have hb := bg_none L (num s.l s.pos (longest L)) hL (fun i hi => hno i ((hit_same L s.l s.pos i hL hwt).1 hi))
    refine .inr ⟨.inl (by rw [hb]), ?_⟩
    rw [RS.next_none L s h0 ((pick_none L _ _ hL).2 fun k hk => absurd hk (hno k)), hlk]
theorem bits_fit (s : RS) (n : Nat) (h0 : s.E = 0) (h32 : n ≤ 32) (hl : n ≤ s.left) : s.bits n = (num s.l s.pos n, { s with pos := s.pos + n }) := by
  unfold RS.bits
  rw [if_neg (by omega), if_neg (by simpa using h0), if_neg (by omega)]
  simp
set_option maxHeartbeats 2000000 in
theorem can_next (w : World) (q r : Nat) (v : Value) (s : RS) (bs L : List Nat) (h : Dec w q bs L) (hr : Rd w r v s) (hd : r ∉ bs) : Calls Try.prog 25 #[.pointer (some ⟨q, 0, none⟩), .pointer (some ⟨r, 0, none⟩)] w fun e w' => e = .returned (.tuple #[.int .i64 (s.next L).1, .int .i64 (s.next L).2.1]) ∧ Rd w' r v (s.next L).2.2 ∧ Keep [r] w w' := by
  have hq : ∃ cs, Blk w q cs 70 ∧ Hd cs L := by
    obtain ⟨sb, rfl, hqs, ⟨cs, ss, b1, b2, _⟩, _⟩ := h
    exact ⟨cs, b1, b2⟩
  obtain ⟨hL, hwt⟩ := h.ok
  obtain ⟨cs, b1, b2⟩ := hq
  have c0 := b1.cell 0 _ b2.2.1
  have c1 := b1.cell 1 _ b2.2.2.1
  have hlg := longest_le L 16 hL
  have HB := Lib.hid (fun w' (k : Keep [] w w') x hx => begin_c w' q bs L (h.keep k (by simp)) x hx)
  have HK := Lib.hid (fun w' (k : Keep [] w w') => lack_c w' q r v s bs L (h.keep k (by simp)) (hr.keep k (by simp) (by simp)))
  have HR := Lib.hid (fun w' (k : Keep [] w w') => hr.keep k (by simp) (by simp))
  clear b2
  by_cases h0 : s.E = 0
  · have HL := Lib.hid (look_ok w r v s (longest L) hr h0 (by omega))
    have hx := num_lt s.l s.pos (longest L)
    have hx2 : 2 ^ longest L ≤ 2 ^ 16 := Nat.pow_le_pow_right (by decide) hlg
    have hx3 : num s.l s.pos (longest L) < 65536 := Nat.lt_of_lt_of_le hx hx2
    rcases next_bg L s h0 hL hwt with ⟨i, e1, e2, e3, e4⟩ | ⟨e1, e2⟩
    · have HBI := Lib.hid (fun w' (k : Keep [] w w') => bits_c w' r v s (len L i) (HR.out w' k))
      rw [bits_fit s (len L i) h0 (by have := longest_ge L i; omega) (by omega)] at HBI
      have HE4 := Lib.hid e4
      have HE1 := Lib.hid e1
      have hn0 : ((len L i : Int) == 0) = false := by simp; omega
      have hnm : ¬ ((min (longest L) s.left : Nat) : Int) < len L i := by omega
      clear e1 e4 hL hwt h0 hx hx2 e2 e3 hlg h hr b1
      generalize num s.l s.pos (longest L) = x at *
      generalize min (longest L) s.left = mn at *
      generalize len L i = n at *
      generalize longest L = lg at *
      go_enter Try.func25, Try.ntmps25
      go_wp2_with fail
      refine HL.out.mono ?_; rintro e w1 ⟨rfl, m, rfl⟩
      go_wp2_with fail
      refine (HB.out _ ((Keep.refl _ _).drewN m) x hx3).mono ?_; rintro e w2 ⟨rfl, k2⟩
      rw [HE1.out]
      have K2 := ((Keep.refl [] w).drewN m).trans k2 (by simp)
      go_wp2_with fail
      refine (HBI.out w2 K2).mono ?_; rintro e w3 ⟨rfl, hr3, k3⟩
      go_wp2_with fail
      go_ret2
      rw [HE4.out]
      exact ⟨rfl, hr3, K2.nil.trans k3 (by simp)⟩
    · have HE2 := Lib.hid e2
      generalize hbg : bg L (num s.l s.pos (longest L)) = bb at *
      obtain ⟨i, n⟩ := bb
      have HBG := Lib.hid hbg
      have e1' : n = 0 ∨ min (longest L) s.left < n := e1
      clear hL hwt h0 hx hx2 e2 hlg h hr b1 hbg e1
      generalize num s.l s.pos (longest L) = x at *
      generalize min (longest L) s.left = mn at *
      generalize longest L = lg at *
      go_enter Try.func25, Try.ntmps25
      go_wp2_with fail
      refine HL.out.mono ?_; rintro e w1 ⟨rfl, m, rfl⟩
      go_wp2_with fail
      refine (HB.out _ ((Keep.refl _ _).drewN m) x hx3).mono ?_; rintro e w2 ⟨rfl, k2⟩
      rw [HBG.out]
      have K2 := ((Keep.refl [] w).drewN m).trans k2 (by simp)
      clear k2 HL HB
      by_cases hn : n = 0
      · subst hn
        clear e1'
        go_wp2_with fail
        refine (HK.out w2 K2).mono ?_; rintro e w3 ⟨rfl, m3, rfl⟩
        go_wp2_with fail
        go_ret2
        rw [HE2.out]
        exact ⟨rfl, (HR.out w2 K2).drewN _, (K2.drewN _).nil⟩
      · have hn0 : ((n : Int) == 0) = false := by simp; omega
        have hmn : (mn : Int) < n := by omega
        clear e1' hn
        go_wp2_with fail
        refine (HK.out w2 K2).mono ?_; rintro e w3 ⟨rfl, m3, rfl⟩
        go_wp2_with fail
        go_ret2
        rw [HE2.out]
        exact ⟨rfl, (HR.out w2 K2).drewN _, (K2.drewN _).nil⟩
  · have HL := Lib.hid (look_err w r v s (longest L) hr h0)
    have HE2 : Hid (s.next L = (-1, lk L s, s)) := by
      have := RS.next_err L s h0
      unfold Hid lk; rw [if_pos h0]; exact this
    generalize hbg : bg L 0 = bb at *
    obtain ⟨i, n⟩ := bb
    have HBG := Lib.hid hbg
    clear hL hwt h0 hlg h hr b1 hbg
    generalize longest L = lg at *
    go_enter Try.func25, Try.ntmps25
    go_wp2_with fail
    refine HL.out.mono ?_; rintro e w1 ⟨rfl, rfl⟩
    go_wp2_with fail
    refine (HB.out _ (Keep.refl _ _) 0 (by omega)).mono ?_; rintro e w2 ⟨rfl, k2⟩
    rw [HBG.out]
    clear HL HB
    by_cases hn : n = 0
    · subst hn
      go_wp2_with fail
      refine (HK.out w2 k2).mono ?_; rintro e w3 ⟨rfl, m3, rfl⟩
      go_wp2_with fail
      go_ret2
      rw [HE2.out]
      exact ⟨rfl, (HR.out w2 k2).drewN _, (k2.drewN _).nil⟩
    · have hn0 : ((n : Int) == 0) = false := by simp; omega
      have hmn : (0 : Int) < n := by omega
      clear hn
      go_wp2_with fail
      refine (HK.out w2 k2).mono ?_; rintro e w3 ⟨rfl, m3, rfl⟩
      go_wp2_with fail
      go_ret2
      rw [HE2.out]
      exact ⟨rfl, (HR.out w2 k2).drewN _, (k2.drewN _).nil⟩
theorem can_next_nilrd (w : World) (q : Nat) (bs L : List Nat) (h : Dec w q bs L) : Calls Try.prog 25 #[.pointer (some ⟨q, 0, none⟩), .pointer none] w fun e w' => e = .returned (.tuple #[.int .i64 (-1), .int .i64 1]) ∧ Keep [] w w' := by
  have hq : ∃ cs, Blk w q cs 70 ∧ Hd cs L := by
    obtain ⟨sb, rfl, hqs, ⟨cs, ss, b1, b2, _⟩, _⟩ := h
    exact ⟨cs, b1, b2⟩
  obtain ⟨cs, b1, b2⟩ := hq
  have c0 := b1.cell 0 _ b2.2.1
  have c1 := b1.cell 1 _ b2.2.2.1
  have HB := Lib.hid (fun w' (k : Keep [] w w') x hx => begin_c w' q bs L (h.keep k (by simp)) x hx)
  have HK := Lib.hid (fun w' (k : Keep [] w w') => lack_nil w' q bs L (h.keep k (by simp)))
  have HL := Lib.hid (look_nil w (longest L))
  generalize hbg : bg L 0 = bb at *
  obtain ⟨i, n⟩ := bb
  have HBG := Lib.hid hbg
  clear h b1 hbg b2
  generalize longest L = lg at *
  go_enter Try.func25, Try.ntmps25
  go_wp2_with fail
  refine HL.out.mono ?_; rintro e w1 ⟨rfl, rfl⟩
  go_wp2_with fail
  refine (HB.out _ (Keep.refl _ _) 0 (by omega)).mono ?_; rintro e w2 ⟨rfl, k2⟩
  rw [HBG.out]
  clear HL HB
  by_cases hn : n = 0
  · subst hn
    go_wp2_with fail
    refine (HK.out w2 k2).mono ?_; rintro e w3 ⟨rfl, rfl⟩
    go_wp2_with fail
    go_ret2
    exact ⟨rfl, k2⟩
  · have hn0 : ((n : Int) == 0) = false := by simp; omega
    have hmn : (0 : Int) < n := by omega
    clear hn
    go_wp2_with fail
    refine (HK.out w2 k2).mono ?_; rintro e w3 ⟨rfl, rfl⟩
    go_wp2_with fail
    go_ret2
    exact ⟨rfl, k2⟩
end Go.Proofs.Ytdhdfedbhanijaa
