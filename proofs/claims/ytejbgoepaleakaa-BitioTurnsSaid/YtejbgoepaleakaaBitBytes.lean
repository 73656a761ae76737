/- Contracts of the method Bytes of bitio.Reader. -/
import Derived.Test.YtejbgoepaleakaaBitLook2
namespace Go.Proofs.Ytejbgoepaleakaa
set_option linter.unusedVariables false
set_option linter.unusedSimpArgs false
open Go.ChangeShapes Go.WideShapes Go.ChangeAt Go.RowKit

/-- what Bytes(n) answers, and the state behind it -/
def RS.bytes (s : RS) (n : Int) : List UInt8 × RS :=
  if s.E ≠ 0 then ([], s)
  else if n < 0 then ([], s.fail 2)
  else if s.left % 8 ≠ 0 then ([], s.fail 4)
  else if (s.left / 8 : Nat) < n then ([], s.fail 3)
  else ((s.l.drop (s.pos / 8)).take n.toNat, { s with pos := s.pos + 8 * n.toNat })
theorem RS.fail_E (s : RS) (e : Nat) (h : s.E = 0) (he : e ≠ 0) : (s.fail e).E = e := by
  have : s.made = true := by
    cases hm : s.made
    · simp [RS.E, hm] at h
    · rfl
  unfold RS.fail; rw [if_pos h]; simp [RS.E, this]
theorem RS.fail_E_ne (s : RS) (e : Nat) (he : e ≠ 0) : (s.fail e).E ≠ 0 := by
  by_cases h : s.E = 0
  · rw [RS.fail_E s e h he]; exact he
  · rw [RS.fail_fail s e h]; exact h
theorem Bs.part {w : World} {l : List UInt8} {g cap : Nat} (hc : l.length ≤ cap) (hm : cap ≤ maxLen) (hcell : ∀ i (hi : i < l.length), w.cell? ⟨g, i, none⟩ = some (.int .u8 (l[i].toNat))) (p n : Nat) (h : p + n ≤ l.length) (hp : p < cap) :
    Bs w (.slice (some ⟨g, p, none⟩) n (cap - p)) ((l.drop p).take n) := by
  have e : ((l.drop p).take n).length = n := by simp; omega
  refine ⟨some ⟨g, p, none⟩, cap - p, by rw [e], by omega, by omega, (fun h => nomatch h), fun x hx i hi => ?_⟩
  obtain rfl : (⟨g, p, none⟩ : Addr) = x := by simpa using hx
  rw [e] at hi
  rw [show (⟨g, p, none⟩ : Addr).add i = ⟨g, p + i, none⟩ by unfold Addr.add; split <;> simp_all, hcell (p + i) (by omega)]
  simp
theorem Bs.none_of_len {w : World} (a : Option Addr) (h : a ≠ none) : Bs w (.slice a 0 0) [] :=
  ⟨a, 0, rfl, by simp, by simp, fun _ => rfl, fun _ _ i hi => by simp at hi⟩

theorem bytes_fails (w : World) (r : Nat) (v : Value) (s : RS) (n : Int) (h : Rd w r v s) (hE : s.E ≠ 0) : Calls Try.prog 19 #[.pointer (some ⟨r, 0, none⟩), .int .i64 n] w fun e w' => e = .returned (.slice none 0 0) ∧ Rd w' r v s ∧ Keep [r] w w' := by
  have hl : s.left = 0 := by unfold RS.left; rw [if_neg hE]
  have he2 : ((s.E : Int) != 0) = true := by simp; omega
  have HL := Lib.hid hl; clear hl
  have HE := Lib.hid hE; clear hE
  by_cases h0 : n < 0
  · go_enter Try.func19, Try.ntmps19
    go_wp2_with fail
    refine (left_c _ _ _ _ h).mono ?_; rintro e w' ⟨rfl, m, rfl⟩
    rw [HL.out]
    go_wp2_with fail
    refine (fail_c _ _ _ _ 2 (by decide) (h.drewN _)).mono ?_; rintro e w' ⟨rfl, hr, hk⟩
    rw [RS.fail_fail _ _ HE.out] at hr
    go_wp2_with (refine (err_c _ _ _ _ hr).mono ?_; rintro e w' ⟨rfl, rfl⟩)
    go_ret
    exact ⟨rfl, hr, ((Keep.refl [] w).drewN m).nil.trans hk (by simp)⟩
  · by_cases h1 : 0 < n
    · go_enter Try.func19, Try.ntmps19
      go_wp2_with fail
      refine (left_c _ _ _ _ h).mono ?_; rintro e w' ⟨rfl, m, rfl⟩
      rw [HL.out]
      go_wp2_with fail
      refine (fail_c _ _ _ _ 3 (by decide) (h.drewN _)).mono ?_; rintro e w' ⟨rfl, hr, hk⟩
      rw [RS.fail_fail _ _ HE.out] at hr
      go_wp2_with (refine (err_c _ _ _ _ hr).mono ?_; rintro e w' ⟨rfl, rfl⟩)
      go_ret
      exact ⟨rfl, hr, ((Keep.refl [] w).drewN m).nil.trans hk (by simp)⟩
    · obtain rfl : n = 0 := by omega
      go_enter Try.func19, Try.ntmps19
      go_wp2_with fail
      refine (left_c _ _ _ _ h).mono ?_; rintro e w' ⟨rfl, m, rfl⟩
      rw [HL.out]
      go_wp2_with (refine (err_c _ _ _ _ (h.drewN m)).mono ?_; rintro e w' ⟨rfl, rfl⟩)
      go_ret
      exact ⟨rfl, h.drewN m, ((Keep.refl [] w).drewN m).nil⟩
theorem bytes_nil (w : World) (n : Int) : Calls Try.prog 19 #[.pointer none, .int .i64 n] w fun e w' => e = .returned (.slice none 0 0) ∧ w = w' := by
  by_cases h0 : n < 0
  · go_enter Try.func19, Try.ntmps19
    go_wp2_with fail
    refine (left_nil _).mono ?_; rintro e w' ⟨rfl, rfl⟩
    go_wp2_with fail
    refine (fail_nil _ 2).mono ?_; rintro e w' ⟨rfl, rfl⟩
    go_wp2_with (refine (err_nil _).mono ?_; rintro e w' ⟨rfl, rfl⟩)
    go_ret
    exact ⟨rfl, rfl⟩
  · by_cases h1 : 0 < n
    · go_enter Try.func19, Try.ntmps19
      go_wp2_with fail
      refine (left_nil _).mono ?_; rintro e w' ⟨rfl, rfl⟩
      go_wp2_with fail
      refine (fail_nil _ 3).mono ?_; rintro e w' ⟨rfl, rfl⟩
      go_wp2_with (refine (err_nil _).mono ?_; rintro e w' ⟨rfl, rfl⟩)
      go_ret
      exact ⟨rfl, rfl⟩
    · obtain rfl : n = 0 := by omega
      go_enter Try.func19, Try.ntmps19
      go_wp2_with fail
      refine (left_nil _).mono ?_; rintro e w' ⟨rfl, rfl⟩
      go_wp2_with (refine (err_nil _).mono ?_; rintro e w' ⟨rfl, rfl⟩)
      go_ret
      exact ⟨rfl, rfl⟩
/-- where an error is told -/
theorem bytes_wrong (w : World) (r : Nat) (v : Value) (s : RS) (n : Int) (h : Rd w r v s) (hE : s.E = 0) (hn : n < 0 ∨ s.left % 8 ≠ 0 ∨ (s.left / 8 : Nat) < n) : Calls Try.prog 19 #[.pointer (some ⟨r, 0, none⟩), .int .i64 n] w fun e w' => e = .returned (.slice none 0 0) ∧ Rd w' r v (s.bytes n).2 ∧ Keep [r] w w' := by
  have hl := RS.left_le s h.2.2.1
  have hk1 := h.2.2.1.2.1
  by_cases h0 : n < 0
  · have hf : (s.bytes n).2 = s.fail 2 := by unfold RS.bytes; rw [if_neg (by simpa using hE), if_pos h0]
    have he2 : (((s.fail 2).E : Int) != 0) = true := by rw [RS.fail_E s 2 hE (by decide)]; rfl
    have HF := Lib.hid hf; clear hf hn hE
    go_enter Try.func19, Try.ntmps19
    go_wp2_with fail
    refine (left_c _ _ _ _ h).mono ?_; rintro e w' ⟨rfl, m, rfl⟩
    go_wp2_with fail
    refine (fail_c _ _ _ _ 2 (by decide) (h.drewN _)).mono ?_; rintro e w' ⟨rfl, hr, hk⟩
    go_wp2_with (refine (err_c _ _ _ _ hr).mono ?_; rintro e w' ⟨rfl, rfl⟩)
    go_ret
    exact ⟨rfl, by rw [HF.out]; exact hr, ((Keep.refl [] w).drewN m).nil.trans hk (by simp)⟩
  · by_cases h1 : s.left % 8 ≠ 0
    · have hf : (s.bytes n).2 = s.fail 4 := by unfold RS.bytes; rw [if_neg (by simpa using hE), if_neg h0, if_pos h1]
      have he2 : (((s.fail 4).E : Int) != 0) = true := by rw [RS.fail_E s 4 hE (by decide)]; rfl
      have h2 : ((s.left : Int) % 8 != 0) = true := by simp; omega
      have HF := Lib.hid hf; clear hf hn hE h1
      go_enter Try.func19, Try.ntmps19
      go_wp2_with fail
      refine (left_c _ _ _ _ h).mono ?_; rintro e w' ⟨rfl, m, rfl⟩
      go_wp2_with fail
      refine (fail_c _ _ _ _ 4 (by decide) (h.drewN _)).mono ?_; rintro e w' ⟨rfl, hr, hk⟩
      go_wp2_with (refine (err_c _ _ _ _ hr).mono ?_; rintro e w' ⟨rfl, rfl⟩)
      go_ret
      exact ⟨rfl, by rw [HF.out]; exact hr, ((Keep.refl [] w).drewN m).nil.trans hk (by simp)⟩
    · have h3 : (s.left : Int) / 8 < n := by omega
      have hf : (s.bytes n).2 = s.fail 3 := by unfold RS.bytes; rw [if_neg (by simpa using hE), if_neg h0, if_neg h1, if_pos (by omega)]
      have he2 : (((s.fail 3).E : Int) != 0) = true := by rw [RS.fail_E s 3 hE (by decide)]; rfl
      have h2 : ((s.left : Int) % 8 != 0) = false := by simp; omega
      have HF := Lib.hid hf; clear hf hn hE h1
      go_enter Try.func19, Try.ntmps19
      go_wp2_with fail
      refine (left_c _ _ _ _ h).mono ?_; rintro e w' ⟨rfl, m, rfl⟩
      go_wp2_with fail
      refine (fail_c _ _ _ _ 3 (by decide) (h.drewN _)).mono ?_; rintro e w' ⟨rfl, hr, hk⟩
      go_wp2_with (refine (err_c _ _ _ _ hr).mono ?_; rintro e w' ⟨rfl, rfl⟩)
      go_ret
      exact ⟨rfl, by rw [HF.out]; exact hr, ((Keep.refl [] w).drewN m).nil.trans hk (by simp)⟩
theorem bytes_right (w : World) (r : Nat) (v : Value) (s : RS) (n : Nat) (h : Rd w r v s) (hE : s.E = 0) (h1 : s.left % 8 = 0) (h2 : n ≤ s.left / 8) : Calls Try.prog 19 #[.pointer (some ⟨r, 0, none⟩), .int .i64 n] w fun e w' => ∃ v', e = .returned v' ∧ OwnB w' v' (s.bytes n).1 ∧ (∀ b, v'.ownBlock = some b → w.heap.size ≤ b) ∧ Rd w' r v (s.bytes n).2 ∧ Keep [r] w w' := by
  have hl := RS.left_le s h.2.2.1
  have hk1 := h.2.2.1.2.1
  have hleft : s.left = 8 * s.l.length - s.pos := by unfold RS.left; rw [if_pos hE]
  have hpos : s.pos ≤ 8 * s.l.length := h.2.2.1.1
  have hf : s.bytes n = ((s.l.drop (s.pos / 8)).take n, { s with pos := s.pos + 8 * n }) := by unfold RS.bytes; rw [if_neg (by simpa using hE), if_neg (by omega), if_neg (by omega), if_neg (by omega)]; simp
  have he2 : ((s.E : Int) != 0) = false := by simp [hE]
  have h2' : ((s.left : Int) % 8 != 0) = false := by simp; omega
  have h3 : ¬ (s.left : Int) / 8 < n := by omega
  have hskip : s.pos + 8 * n ≤ 8 * s.l.length := by omega
  have hfrom : s.pos / 8 + n ≤ s.l.length := by omega
  have HF := Lib.hid hf
  clear hf hE h1 hleft
  go_enter Try.func19, Try.ntmps19
  go_wp2_with fail
  refine (left_c _ _ _ _ h).mono ?_; rintro e w' ⟨rfl, m, rfl⟩
  have hm := h.drewN m
  have hw1 := (Keep.refl [] w).drewN m
  generalize w.drewN m = w1 at hm hw1 ⊢
  have c1 := hm.1.cell 1 _ rfl
  go_wp2_with (refine (err_c _ _ _ _ hm).mono ?_; rintro e w' ⟨rfl, rfl⟩)
  refine (skip_c _ r v s (8 * n) hskip hm).mono ?_; rintro e w' ⟨rfl, hr, hk⟩
  have hK : Keep [r] w w' := hw1.nil.trans hk (by simp)
  have c0 := hr.1.cell 0 _ rfl
  have hlen : ((s.l.drop (s.pos / 8)).take n).length ≤ 140737488355328 := by rw [List.length_take, List.length_drop]; omega
  rcases hr.2.1.cases with ⟨rfl, hl0⟩ | ⟨g, cap, rfl, hc, hmx, hcell, hg⟩
  · have hl00 : s.l.length = 0 := by simpa using hl0
    obtain rfl : n = 0 := by omega
    have hq : s.pos / 8 = 0 := by omega
    have hq2 : s.pos / 8 ≤ 0 := by omega
    have HQ := Lib.hid hq; clear hq
    have hpq : (s.pos : Int) < 8 := by omega
    clear hl0 hl00
    go_wp2_with fail
    refine (clone_nil _).mono ?_
    rintro e w2 ⟨rfl, rfl⟩
    go_wp2_with fail
    go_ret
    exact ⟨_, rfl, by rw [HF.out]; exact OwnB.nil _, (fun b hb => by simp [Value.ownBlock] at hb), by rw [HF.out]; exact hr, hK⟩
  · unfold maxLen at hmx
    by_cases hpc : s.pos / 8 < cap
    · have hb := Bs.part hc hmx hcell (s.pos / 8) n hfrom hpc
      have hpc2 : ¬ s.pos / 8 = cap := by omega
      go_wp2_with fail
      refine (clone_c _ _ _ hlen hb).mono ?_
      rintro e w2 ⟨v2, rfl, ho, hk2, hv2⟩
      go_wp2_with fail
      go_ret
      exact ⟨v2, rfl, by rw [HF.out]; exact ho, fun b hb => Nat.le_trans hK.size (hv2 b hb), by rw [HF.out]; exact hr.keep hk2 (by simp) (by simp), hK.trans hk2 (by simp)⟩
    · have hpc2 : s.pos / 8 = cap := by have : s.l.length ≤ cap := hc; omega
      obtain rfl : n = 0 := by have : s.l.length ≤ cap := hc; omega
      subst hpc2
      clear hcell
      go_wp2_with fail
      refine (clone_c _ _ [] (by simp) (Bs.none_of_len _ (by simp))).mono ?_
      rintro e w2 ⟨v2, rfl, ho, hk2, hv2⟩
      go_wp2_with fail
      go_ret
      exact ⟨v2, rfl, by rw [show s.bytes 0 = _ from HF.out]; exact ho, fun b hb => Nat.le_trans hK.size (hv2 b hb), by rw [show s.bytes 0 = _ from HF.out]; exact hr.keep hk2 (by simp) (by simp), hK.trans hk2 (by simp)⟩
end Go.Proofs.Ytejbgoepaleakaa
