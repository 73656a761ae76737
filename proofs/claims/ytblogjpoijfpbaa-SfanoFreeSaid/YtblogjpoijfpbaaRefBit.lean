/- Contracts of the document's reader of bits: At, Number, Left, Bits, Look. -/
import Derived.Test.YtblogjpoijfpbaaRefKit
import Derived.Test.YtblogjpoijfpbaaBitLives
/-! The document's own reader of bits. -/
namespace Go.Proofs.Ytblogjpoijfpbaa
set_option linter.unusedVariables false
set_option linter.unusedSimpArgs false
open Go.ChangeShapes Go.WideShapes Go.ChangeAt Go.RowKit

theorem at_c (w : World) (v : Value) (l : List UInt8) (i : Nat) (hi : i ≤ 9223372036854775807) (h : Bs w v l) : Calls Try.prog 60 #[v, .int .i64 i] w fun e w' => e = .returned (.int .u32 (bitAt l i)) ∧ w = w' := by
  have hlm : l.length ≤ 9223372036854775807 := by obtain ⟨a, cap, _, h1, h2⟩ := h.shape; unfold maxLen at h2; omega
  by_cases hl : i / 8 < l.length
  · rcases h.cases with ⟨rfl, _⟩ | ⟨hp, b, off, cap, rfl, h1, h2, hb, hc⟩
    · simp at hl
    · have e1 := hc (i / 8) hl
      rw [show (l[i / 8].toNat) = byteAt l (i / 8) by unfold byteAt; rw [List.getD_eq_getElem?_getD, List.getElem?_eq_getElem hl]; rfl] at e1
      have hb2 := byteAt_lt l (i / 8)
      have HB : Hid (bitAt l i = byteAt l (i / 8) / 2 ^ (i % 8) % 2) := rfl
      have e8 := Nat.mod_lt i (show 8 > 0 by decide)
      generalize byteAt l (i / 8) = c at e1 hb2 HB
      unfold maxLen at h2
      clear hc
      go_enter Try.func60, Try.ntmps60
      go_wp2
      go_ret
      exact ⟨by rw [HB.out]; refine ret_int ?_; rw [show ((c : Int) / 2 ^ (i % 8)) = ((c / 2 ^ (i % 8) : Nat) : Int) by simp, Int.tmod_eq_emod_of_nonneg (Int.natCast_nonneg _)]; simp, rfl⟩
  · have HB : Hid (bitAt l i = 0) := bitAt_ge l i (by omega)
    obtain ⟨a, cap, rfl, h1, h2⟩ := h.shape
    go_enter Try.func60, Try.ntmps60
    go_wp2
    go_ret
    exact ⟨by rw [HB.out]; rfl, rfl⟩
theorem num_step (l : List UInt8) (p n k : Nat) (h : k < n) : num l (p + k) (n - k) = num l (p + (k + 1)) (n - (k + 1)) * 2 + bitAt l (p + k) := by
  obtain ⟨m, hm⟩ : ∃ m, n - k = m + 1 := ⟨n - k - 1, by omega⟩
  rw [hm, num, show n - (k + 1) = m by omega]; rfl
theorem number_c (w : World) (v : Value) (l : List UInt8) (p n : Nat) (hn : n ≤ 32) (hp : p ≤ 9223372036854775000) (h : Bs w v l) : Calls Try.prog 56 #[v, .int .i64 p, .int .i64 n] w fun e w' => e = .returned (.int .u32 (num l p n)) ∧ w = w' := by
  go_enter Try.func56, Try.ntmps56
  go_wp2
  go_loop [7, 8] (fun x i => ∃ (k y : Nat), k ≤ n ∧ i = .int .i64 (k - 1) ∧ x = .int .u32 y ∧ Hid (y = num l (p + k) (n - k)) ∧ y < 2 ^ (n - k)) (fun _ i => (intOf i + 1).toNat)
  case atStart => exact ⟨n, 0, by omega, rfl, rfl, by simp [Hid, num], by simp⟩
  case round =>
    obtain ⟨k, y, hk, rfl, rfl, HY, hy⟩ := hrel
    by_cases hk0 : 0 < k
    · obtain ⟨k, rfl⟩ : ∃ k', k = k' + 1 := ⟨k - 1, by omega⟩
      have HS := Lib.hid (num_step l p n k (by omega))
      have hb := bitAt_lt l (p + k)
      have hy2 : y < 2147483648 := Nat.lt_of_lt_of_le hy (Nat.pow_le_pow_right (n := 2) (j := 31) (by decide) (by omega))
      have HY2 : Hid (y * 2 + bitAt l (p + k) < 2 ^ (n - k)) := by
        unfold Hid; rw [show n - k = (n - (k + 1)) + 1 by omega, Nat.pow_succ]; omega
      have hc := Lib.hid (at_c w v l (p + k) (by omega) h)
      have hkk : (((k + 1 : Nat) : Int) - 1) = k := by omega
      rw [hkk]
      clear hkk hy
      go_wp2_with fail
      refine hc.out.mono ?_; rintro e w' ⟨rfl, rfl⟩
      go_wp2_with fail
      go_round
      case rel => exact ⟨k, y * 2 + bitAt l (p + k), by omega, rfl, by go_num, by unfold Hid; rw [HS.out, HY.out], HY2.out⟩
      case measure => simp [intOf] <;> omega
    · obtain rfl : k = 0 := by omega
      clear hy
      go_wp2
      go_ret
      exact ⟨by rw [HY.out]; rfl, rfl⟩

/-- block q is the document's reader in the state s (its bytes in the slice v) -/
def Rr (w : World) (q : Nat) (v : Value) (s : RS) : Prop :=
  Blk w q #[v, .int .i64 s.pos, .int .i64 s.err] 48 ∧ Bs w v s.l ∧ s.ok ∧ s.made = true ∧ (s.l ≠ [] → ∀ b, v.ownBlock = some b → b ≠ q)
theorem Rr.keep {w w' : World} {r : Nat} {v : Value} {s : RS} {S : List Nat} (h : Rr w r v s) (k : Keep S w w') (hr : r ∉ S) (hv : s.l ≠ [] → ∀ b, v.ownBlock = some b → b ∉ S) : Rr w' r v s :=
  ⟨h.1.keep k hr, h.2.1.keep' k hv, h.2.2⟩
theorem Rr.drewN {w : World} {r : Nat} {v : Value} {s : RS} (h : Rr w r v s) (n : Nat) : Rr (w.drewN n) r v s := h.keep ((Keep.refl [] w).drewN _) (by simp) (by simp)
theorem Rr.E {w : World} {r : Nat} {v : Value} {s : RS} (h : Rr w r v s) : s.E = s.err := by simp [RS.E, h.2.2.2.1]
theorem Rr.setErr {w : World} {q : Nat} {v : Value} {s : RS} (h : Rr w q v s) (hE : s.E = 0) (e : Nat) (he : e < 100) : Rr (w.setCell ⟨q, 2, none⟩ (.int .i64 e)) q v (s.fail e) := by
  have hf : s.fail e = { s with err := e } := by unfold RS.fail; rw [if_pos hE]
  rw [hf]
  exact ⟨h.1.set 2 _, h.2.1.keep' ((Keep.refl [q] _).setCell (by simp) _) (by simpa using h.2.2.2.2), ⟨h.2.2.1.1, h.2.2.1.2.1, he⟩, h.2.2.2.1, h.2.2.2.2⟩
theorem Rr.setPos {w : World} {q : Nat} {v : Value} {s : RS} (h : Rr w q v s) (p : Nat) (hp : p ≤ 8 * s.l.length) : Rr (w.setCell ⟨q, 1, none⟩ (.int .i64 p)) q v { s with pos := p } :=
  ⟨h.1.set 1 _, h.2.1.keep' ((Keep.refl [q] _).setCell (by simp) _) (by simpa using h.2.2.2.2), ⟨hp, h.2.2.1.2⟩, h.2.2.2.1, h.2.2.2.2⟩
theorem rleft_c (w : World) (q : Nat) (v : Value) (s : RS) (h : Rr w q v s) : Calls Try.prog 55 #[.pointer (some ⟨q, 0, none⟩)] w fun e w' => e = .returned (.int .i64 s.left) ∧ ∃ n, w' = w.drewN n := by
  have c0 := h.1.cell 0 _ rfl
  have c1 := h.1.cell 1 _ rfl
  have c2 := h.1.cell 2 _ rfl
  obtain ⟨a, cap, rfl, _⟩ := h.2.1.shape
  have hE := h.E
  have hk := h.2.2.1
  unfold RS.ok at hk
  obtain ⟨k1, k2, k3⟩ := hk
  by_cases he : s.E = 0
  · have hf : ((s.left : Nat) : Int) = 8 * s.l.length - s.pos := by unfold RS.left; rw [if_pos he]; omega
    have he2 : ((s.err : Int) != 0) = false := by simp; omega
    have HF := Lib.hid hf; clear hf he hE
    go_enter Try.func55, Try.ntmps55
    go_wp2
    go_quiet (fail)
    go_wp2
    go_ret
    exact ⟨by rw [HF.out]; rfl, _, rfl⟩
  · have hf : s.left = 0 := by unfold RS.left; rw [if_neg he]
    have he2 : ((s.err : Int) != 0) = true := by simp; omega
    have HF := Lib.hid hf; clear hf he hE
    go_enter Try.func55, Try.ntmps55
    go_wp2
    go_ret
    exact ⟨by rw [HF.out]; rfl, 0, rfl⟩
/-- the state behind Bits(n), as the document's reader has it: the same, but that a number of 0 bits of a reader with an error changes nothing -/
theorem rbits_c (w : World) (q : Nat) (v : Value) (s : RS) (n : Int) (h : Rr w q v s) : Calls Try.prog 45 #[.pointer (some ⟨q, 0, none⟩), .int .i64 n] w fun e w' => e = .returned (.int .u32 (s.bits n).1) ∧ Rr w' q v (s.bits n).2 ∧ Keep [q] w w' := by
  have c0 := h.1.cell 0 _ rfl
  have c1 := h.1.cell 1 _ rfl
  have c2 := h.1.cell 2 _ rfl
  have f1 := h.1.free 1
  have f2 := h.1.free 2
  have hE := h.E
  by_cases he : s.E = 0
  · have he2 : ((s.err : Int) != 0) = false := by simp; omega
    by_cases hb : n < 0 ∨ 32 < n
    · have hf : s.bits n = (0, s.fail 2) := by unfold RS.bits; rw [if_pos hb]
      have HF := Lib.hid hf; have HE := Lib.hid he; clear hf hE he
      by_cases h0 : n < 0
      · have h1 : decide (n < 0) = true := by simpa using h0
        clear hb
        go_enter Try.func45, Try.ntmps45
        go_wp2
        go_ret
        exact ⟨by rw [HF.out]; rfl, by rw [HF.out]; exact h.setErr HE.out 2 (by decide), (Keep.refl _ _).setCell (by simp) _⟩
      · have h1 : 32 < n := by omega
        clear hb
        go_enter Try.func45, Try.ntmps45
        go_wp2
        go_ret
        exact ⟨by rw [HF.out]; rfl, by rw [HF.out]; exact h.setErr HE.out 2 (by decide), (Keep.refl _ _).setCell (by simp) _⟩
    · have h0 : 0 ≤ n := by omega
      have h1 : n ≤ 32 := by omega
      obtain ⟨n, rfl⟩ := Int.eq_ofNat_of_zero_le h0
      have hs := RS.left_le s h.2.2.1
      have hp1 := h.2.2.1.1
      by_cases hl : (s.left : Int) < n
      · have hf : s.bits n = (0, s.fail 3) := by unfold RS.bits; rw [if_neg (by omega), if_neg (by simpa using he), if_pos hl]
        have HF := Lib.hid hf; have HE := Lib.hid he; clear hf hE he hb
        go_enter Try.func45, Try.ntmps45
        go_wp2_with fail
        refine (rleft_c _ _ _ _ h).mono ?_; rintro e w' ⟨rfl, m, rfl⟩
        go_wp2
        go_ret
        exact ⟨by rw [HF.out]; rfl, by rw [HF.out]; exact (h.drewN m).setErr HE.out 3 (by decide), ((Keep.refl _ _).drewN m).setCell (by simp) _⟩
      · have hf : s.bits n = (num s.l s.pos n, { s with pos := s.pos + n }) := by unfold RS.bits; rw [if_neg (by omega), if_neg (by simpa using he), if_neg hl]; simp
        have HF := Lib.hid hf; have HE := Lib.hid he; clear hf hE he hb
        have hn : s.pos + n ≤ 8 * s.l.length := by omega
        have hlm : s.l.length ≤ 140737488355328 := h.2.2.1.2.1
        go_enter Try.func45, Try.ntmps45
        go_wp2_with fail
        refine (rleft_c _ _ _ _ h).mono ?_; rintro e w' ⟨rfl, m, rfl⟩
        have H2 := (h.drewN m).setPos (s.pos + n) hn
        have K2 : Keep [q] w ((w.drewN m).setCell ⟨q, 1, none⟩ (.int .i64 (s.pos + n : Nat))) := ((Keep.refl _ _).drewN m).setCell (by simp) _
        go_wp2
        rw [show ((s.pos : Int) + n) = ((s.pos + n : Nat) : Int) by omega]
        generalize (w.drewN m).setCell ⟨q, 1, none⟩ (.int .i64 (s.pos + n : Nat)) = w2 at H2 K2 ⊢
        have d0 := H2.1.cell 0 _ rfl
        have d1 := H2.1.cell 1 _ rfl
        obtain ⟨a, cap, rfl, _⟩ := H2.2.1.shape
        have hwr : IntKind.i64.wrap ((s.pos : Int) + n - n) = s.pos := by rw [IntKind.wrap_i64]; omega
        have hwr2 : IntKind.i64.wrap (s.pos : Int) = s.pos := by rw [IntKind.wrap_i64]; omega
        go_quiet ((go_at_call 56; exact quiet_left (number_c _ _ _ s.pos n (by omega) (by omega) (H2.drewN _).2.1)))
        go_wp2
        go_ret
        exact ⟨by rw [HF.out]; rfl, by rw [HF.out]; exact H2.drewN _, K2.drewN _⟩
  · have he2 : ((s.err : Int) != 0) = true := by simp; omega
    have hf : (s.bits n) = (0, s) := by
      unfold RS.bits
      rw [RS.fail_fail _ _ he, RS.fail_fail _ _ he, if_pos he]
      by_cases hb : n < 0 ∨ 32 < n <;> simp [hb]
    have HF := Lib.hid hf; clear hf hE he
    go_enter Try.func45, Try.ntmps45
    go_wp2
    go_ret
    exact ⟨by rw [HF.out]; rfl, by rw [HF.out]; exact h, Keep.refl _ _⟩
/-- what Look(n) answers -/
def RS.look (s : RS) (n : Int) : Nat × Nat := if s.E ≠ 0 ∨ n < 0 ∨ 32 < n then (0, 0) else (num s.l s.pos n.toNat, min n.toNat s.left)
end Go.Proofs.Ytblogjpoijfpbaa
