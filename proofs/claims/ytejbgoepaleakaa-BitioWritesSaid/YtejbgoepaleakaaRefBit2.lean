/- Contracts of the document's reader of bits: Align, Bytes. -/
import Derived.Test.YtejbgoepaleakaaRefBit
import Derived.Test.YtejbgoepaleakaaBitBytes
namespace Go.Proofs.Ytejbgoepaleakaa
set_option linter.unusedVariables false
set_option linter.unusedSimpArgs false
open Go.ChangeShapes Go.WideShapes Go.ChangeAt Go.RowKit

theorem ralign_c (w : World) (q : Nat) (v : Value) (s : RS) (h : Rr w q v s) : Calls Try.prog 18 #[.pointer (some ⟨q, 0, none⟩)] w fun e w' => e = .returned (.tuple #[]) ∧ Rr w' q v s.align ∧ Keep [q] w w' := by
  have c1 := h.1.cell 1 _ rfl
  have c2 := h.1.cell 2 _ rfl
  have f1 := h.1.free 1
  have hE := h.E
  have hp1 := h.2.2.1.1
  have hlm : s.l.length ≤ 140737488355328 := h.2.2.1.2.1
  by_cases he : s.E = 0
  · have he2 : ((s.err : Int) == 0) = true := by simp; omega
    have hf : s.align = { s with pos := (s.pos + 7) / 8 * 8 } := by
      unfold RS.align RS.left; rw [if_pos he]
      congr 1; omega
    have HF := Lib.hid hf; clear hf hE he
    go_enter Try.func18, Try.ntmps18
    go_wp2
    go_end0
    refine ⟨rfl, ?_, (Keep.refl _ _).setCell (by simp) _⟩
    rw [HF.out]
    have := h.setPos ((s.pos + 7) / 8 * 8) (by omega)
    simpa using this
  · have he2 : ((s.err : Int) == 0) = false := by simp; omega
    have hf : s.align = s := by
      unfold RS.align RS.left; rw [if_neg he]; rfl
    have HF := Lib.hid hf; clear hf hE he
    go_enter Try.func18, Try.ntmps18
    go_wp2
    go_end0
    exact ⟨rfl, by rw [HF.out]; exact h, Keep.refl _ _⟩
theorem Bs.empty_any (w : World) (a : Addr) (cap : Nat) (hm : cap ≤ maxLen) : Bs w (.slice (some a) 0 cap) [] :=
  ⟨some a, cap, rfl, by simp, hm, (fun h => nomatch h), fun _ _ i hi => by simp at hi⟩
theorem rbytes_wrong (w : World) (q : Nat) (v : Value) (s : RS) (n : Int) (h : Rr w q v s) (hn : s.E ≠ 0 ∨ n < 0 ∨ s.left % 8 ≠ 0 ∨ (s.left / 8 : Nat) < n) : Calls Try.prog 21 #[.pointer (some ⟨q, 0, none⟩), .int .i64 n] w fun e w' => e = .returned (.slice none 0 0) ∧ Rr w' q v (s.bytes n).2 ∧ Keep [q] w w' := by
  have c1 := h.1.cell 1 _ rfl
  have c2 := h.1.cell 2 _ rfl
  have f2 := h.1.free 2
  have hE := h.E
  have hp1 := h.2.2.1.1
  have hlm : s.l.length ≤ 140737488355328 := h.2.2.1.2.1
  by_cases he : s.E = 0
  · have hleft : s.left = 8 * s.l.length - s.pos := by unfold RS.left; rw [if_pos he]
    have he2 : ((s.err : Int) != 0) = false := by simp; omega
    by_cases h0 : n < 0
    · have hf : (s.bytes n).2 = s.fail 2 := by unfold RS.bytes; rw [if_neg (by simpa using he), if_pos h0]
      have HF := Lib.hid hf; have HE := Lib.hid he; clear hf hE he hn hleft
      go_enter Try.func21, Try.ntmps21
      go_wp2
      go_ret
      exact ⟨rfl, by rw [HF.out]; exact h.setErr HE.out 2 (by decide), (Keep.refl _ _).setCell (by simp) _⟩
    · by_cases h1 : s.left % 8 ≠ 0
      · have hf : (s.bytes n).2 = s.fail 4 := by unfold RS.bytes; rw [if_neg (by simpa using he), if_neg h0, if_pos h1]
        have h2 : ((s.pos : Int) % 8 != 0) = true := by simp; omega
        have HF := Lib.hid hf; have HE := Lib.hid he; clear hf hE he hn hleft h1
        go_enter Try.func21, Try.ntmps21
        go_wp2
        go_ret
        exact ⟨rfl, by rw [HF.out]; exact h.setErr HE.out 4 (by decide), (Keep.refl _ _).setCell (by simp) _⟩
      · have h3 : (s.left : Int) / 8 < n := by omega
        have hf : (s.bytes n).2 = s.fail 3 := by unfold RS.bytes; rw [if_neg (by simpa using he), if_neg h0, if_neg h1, if_pos (by omega)]
        have h2 : ((s.pos : Int) % 8 != 0) = false := by simp; omega
        have hlb := RS.left_le s h.2.2.1
        have HF := Lib.hid hf; have HE := Lib.hid he; clear hf hE he hn hleft h1
        go_enter Try.func21, Try.ntmps21
        go_wp2_with fail
        refine (rleft_c _ _ _ _ h).mono ?_; rintro e w' ⟨rfl, m, rfl⟩
        go_wp2
        go_ret
        exact ⟨rfl, by rw [HF.out]; exact (h.drewN m).setErr HE.out 3 (by decide), ((Keep.refl _ _).drewN m).setCell (by simp) _⟩
  · have he2 : ((s.err : Int) != 0) = true := by simp; omega
    have hf : (s.bytes n).2 = s := by unfold RS.bytes; rw [if_pos he]
    have HF := Lib.hid hf; clear hf hE he hn
    go_enter Try.func21, Try.ntmps21
    go_wp2
    go_ret
    exact ⟨rfl, by rw [HF.out]; exact h, Keep.refl _ _⟩
theorem Bs.take_drop {w : World} {v : Value} {l : List UInt8} (b off cap p n : Nat) (hv : v = .slice (some ⟨b, off, none⟩) l.length cap) (h1 : l.length ≤ cap) (h2 : cap ≤ maxLen) (hc : ∀ i (hi : i < l.length), w.cell? ⟨b, off + i, none⟩ = some (.int .u8 (l[i].toNat)))
    (h : p + n ≤ l.length) : Bs w (.slice (some ⟨b, off + p, none⟩) n (cap - p)) ((l.drop p).take n) := by
  have e : ((l.drop p).take n).length = n := by simp; omega
  refine ⟨some ⟨b, off + p, none⟩, cap - p, by rw [e], by omega, by omega, (fun h => nomatch h), fun x hx i hi => ?_⟩
  obtain rfl : (⟨b, off + p, none⟩ : Addr) = x := by simpa using hx
  rw [e] at hi
  rw [show (⟨b, off + p, none⟩ : Addr).add i = ⟨b, off + (p + i), none⟩ by unfold Addr.add; split <;> simp_all; omega, hc (p + i) (by omega)]
  simp
set_option maxHeartbeats 2000000 in
theorem rbytes_right (w : World) (q : Nat) (v : Value) (s : RS) (n : Nat) (h : Rr w q v s) (hE0 : s.E = 0) (h1 : s.left % 8 = 0) (h2 : n ≤ s.left / 8) : Calls Try.prog 21 #[.pointer (some ⟨q, 0, none⟩), .int .i64 n] w fun e w' => ∃ v', e = .returned v' ∧ OwnB w' v' (s.bytes n).1 ∧ (∀ b, v'.ownBlock = some b → w.heap.size ≤ b) ∧ Rr w' q v (s.bytes n).2 ∧ Keep [q] w w' := by
  have c1 := h.1.cell 1 _ rfl
  have c2 := h.1.cell 2 _ rfl
  have f1 := h.1.free 1
  have hE := h.E
  have hp1 := h.2.2.1.1
  have hlm : s.l.length ≤ 140737488355328 := h.2.2.1.2.1
  have hleft : s.left = 8 * s.l.length - s.pos := by unfold RS.left; rw [if_pos hE0]
  have he2 : ((s.err : Int) != 0) = false := by simp; omega
  have h22 : ((s.pos : Int) % 8 != 0) = false := by simp; omega
  have hf : s.bytes n = ((s.l.drop (s.pos / 8)).take n, { s with pos := s.pos + 8 * n }) := by unfold RS.bytes; rw [if_neg (by simpa using hE0), if_neg (by omega), if_neg (by omega), if_neg (by omega)]; simp
  have h3 : ¬ (s.left : Int) / 8 < n := by omega
  have hskip : s.pos + 8 * n ≤ 8 * s.l.length := by omega
  have hfrom : s.pos / 8 + n ≤ s.l.length := by omega
  have h8 : s.pos % 8 = 0 := by omega
  have hq1 : (s.pos + 8 * n) / 8 = s.pos / 8 + n := by omega
  have hlb := RS.left_le s h.2.2.1
  have HF := Lib.hid hf
  have H8 := Lib.hid h8
  have HQ1 := Lib.hid hq1
  clear hf hE0 h1 hleft hE h8 hq1
  go_enter Try.func21, Try.ntmps21
  go_wp2_with fail
  refine (rleft_c _ _ _ _ h).mono ?_; rintro e w' ⟨rfl, m, rfl⟩
  have H2 := (h.drewN m).setPos (s.pos + 8 * n) hskip
  have K2 : Keep [q] w ((w.drewN m).setCell ⟨q, 1, none⟩ (.int .i64 (s.pos + 8 * n : Nat))) := ((Keep.refl _ _).drewN m).setCell (by simp) _
  go_wp2
  rw [show ((s.pos : Int) + 8 * n) = ((s.pos + 8 * n : Nat) : Int) by omega]
  generalize (w.drewN m).setCell ⟨q, 1, none⟩ (.int .i64 (s.pos + 8 * n : Nat)) = w2 at H2 K2 ⊢
  have d0 := H2.1.cell 0 _ rfl
  have d1 := H2.1.cell 1 _ rfl
  have hd1 : w2.cell? ⟨q, 1, none⟩ = some (.int .i64 (s.pos + 8 * n : Nat)) := d1
  clear d1
  have hP : ((s.pos + 8 * n : Nat) : Int) / 8 = ((s.pos / 8 + n : Nat) : Int) := by omega
  have hfc : ((s.l.drop (s.pos / 8)).take n).length ≤ 140737488355328 := by rw [List.length_take, List.length_drop]; omega
  have HFr : s.pos / 8 ≤ 140737488355328 := by omega
  generalize hg : s.pos / 8 = F at hfrom HF hP hfc HFr
  generalize hg2 : s.pos + 8 * n = P2 at hd1 hP H2 K2 HF
  clear hg hg2 c1 c2 f1 H8 HQ1
  have hcc : Hid ((s.bytes n).1 = (s.l.drop F).take n) := by unfold Hid; rw [HF.out]
  have HFr2 : F + n ≤ 140737488355328 := by omega
  obtain ⟨M, hM⟩ : ∃ M, M = F + n := ⟨_, rfl⟩
  rw [← hM] at hP HFr2
  have hMl : M ≤ s.l.length := by omega
  have hFM : F ≤ M := by omega
  have hMF : M - F = n := by omega
  have hwr : IntKind.i64.wrap ((M : Int) - n) = F := by rw [IntKind.wrap_i64]; omega
  have hwr1 : IntKind.i64.wrap (M : Int) = M := by rw [IntKind.wrap_i64]; omega
  have hmx2 : (F : Int) ≤ max (M : Int) 0 := by omega
  have HM := Lib.hid hM; clear hM
  rcases H2.2.1.cases with ⟨hl0, a, cap, rfl, hm, hnil⟩ | ⟨hpos, b, off, cap, rfl, hcl, hmx, hb, hcell⟩
  · have hl00 : s.l.length = 0 := by rw [hl0]; rfl
    obtain rfl : n = 0 := by omega
    obtain rfl : F = 0 := by omega
    obtain rfl : M = 0 := by omega
    have hP0 : (P2 : Int) / 8 = 0 := hP
    have hw0 : IntKind.i64.wrap 0 = 0 := by decide
    clear hMF hFM hwr hwr1 hmx2 hl00 hfrom HFr2 HFr hP
    have hl1 := Lib.hid hl0; clear hl0
    have K3 : Keep [q] w w2.drew := K2.drew
    have H3 := H2.keep ((Keep.refl [] w2).drew) (by simp) (by simp)
    cases a with
    | none =>
      obtain rfl : cap = 0 := hnil rfl
      clear hnil
      go_still_tail 17, (by kernel_rfl)
      change wpList _ _ _ _ _ w2.drew
      generalize w2.drew = w3 at K3 H3 ⊢
      go_wp2_with fail
      refine (copy_c _ _ [] (by simp) (Bs.nil _)).mono ?_
      rintro e w4 ⟨v4, rfl, ho4, hk4, hv4⟩
      go_wp2_with fail
      go_ret
      exact ⟨v4, rfl, by (first | rw [HF.out] | rw [show s.bytes 0 = _ from HF.out]); exact ho4, fun b hb => Nat.le_trans K3.size (hv4 b hb), by (first | rw [HF.out] | rw [show s.bytes 0 = _ from HF.out]); exact H3.keep hk4 (by simp) (by simp), K3.trans hk4 (by simp)⟩
    | some x =>
      clear hnil
      unfold maxLen at hm
      by_cases hc0 : cap = 0
      · subst hc0
        go_still_tail 17, (by kernel_rfl)
        change wpList _ _ _ _ _ w2.drew
        generalize w2.drew = w3 at K3 H3 ⊢
        go_wp2_with fail
        refine (copy_c _ _ [] (by simp) (Bs.none_of_len _ (by simp))).mono ?_
        rintro e w4 ⟨v4, rfl, ho4, hk4, hv4⟩
        go_wp2_with fail
        go_ret
        exact ⟨v4, rfl, by (first | rw [HF.out] | rw [show s.bytes 0 = _ from HF.out]); exact ho4, fun b hb => Nat.le_trans K3.size (hv4 b hb), by (first | rw [HF.out] | rw [show s.bytes 0 = _ from HF.out]); exact H3.keep hk4 (by simp) (by simp), K3.trans hk4 (by simp)⟩
      · have hx0 : x.add 0 = x := by simp [Addr.add]
        go_still_tail 17, (by kernel_rfl)
        change wpList _ _ _ _ _ w2.drew
        generalize w2.drew = w3 at K3 H3 ⊢
        go_wp2_with fail
        refine (copy_c _ _ [] (by simp) (Bs.empty_any _ _ _ (by unfold maxLen; omega))).mono ?_
        rintro e w4 ⟨v4, rfl, ho4, hk4, hv4⟩
        go_wp2_with fail
        go_ret
        exact ⟨v4, rfl, by (first | rw [HF.out] | rw [show s.bytes 0 = _ from HF.out]); exact ho4, fun b hb => Nat.le_trans K3.size (hv4 b hb), by (first | rw [HF.out] | rw [show s.bytes 0 = _ from HF.out]); exact H3.keep hk4 (by simp) (by simp), K3.trans hk4 (by simp)⟩
  · unfold maxLen at hmx
    have hcl' : s.l.length ≤ cap := hcl
    have hMc : M ≤ cap := by omega
    by_cases hcap : F < cap
    · have hB : Bs w2.drew (.slice (some ⟨b, off + F, none⟩) n (cap - F)) ((s.l.drop F).take n) := (Bs.take_drop b off cap F n rfl hcl hmx hcell hfrom).keep ((Keep.refl [] _).drew) (by simp)
      have hne : ¬ cap = F := by omega
      have K3 : Keep [q] w w2.drew := K2.drew
      have H3 := H2.keep ((Keep.refl [] w2).drew) (by simp) (by simp)
      go_still_tail 17, (by kernel_rfl)
      change wpList _ _ _ _ _ w2.drew
      generalize w2.drew = w3 at hB K3 H3 ⊢
      go_wp2_with fail
      refine (copy_c _ _ _ hfc hB).mono ?_
      rintro e w4 ⟨v4, rfl, ho4, hk4, hv4⟩
      go_wp2_with fail
      go_ret
      exact ⟨v4, rfl, by rw [HF.out]; exact ho4, fun b hb => Nat.le_trans K3.size (hv4 b hb), by rw [HF.out]; exact H3.keep hk4 (by simp) (by simp), K3.trans hk4 (by simp)⟩
    · obtain rfl : n = 0 := by omega
      obtain rfl : F = cap := by omega
      obtain rfl : M = F := by omega
      have K3 : Keep [q] w w2.drew := K2.drew
      have H3 := H2.keep ((Keep.refl [] w2).drew) (by simp) (by simp)
      clear hcell hMF
      go_still_tail 17, (by kernel_rfl)
      change wpList _ _ _ _ _ w2.drew
      generalize w2.drew = w3 at K3 H3 ⊢
      go_wp2_with fail
      refine (copy_c _ _ [] (by simp) (Bs.none_of_len _ (by simp))).mono ?_
      rintro e w4 ⟨v4, rfl, ho4, hk4, hv4⟩
      go_wp2_with fail
      go_ret
      exact ⟨v4, rfl, by (first | rw [HF.out] | rw [show s.bytes 0 = _ from HF.out]); exact ho4, fun b hb => Nat.le_trans K3.size (hv4 b hb), by (first | rw [HF.out] | rw [show s.bytes 0 = _ from HF.out]); exact H3.keep hk4 (by simp) (by simp), K3.trans hk4 (by simp)⟩
end Go.Proofs.Ytejbgoepaleakaa
