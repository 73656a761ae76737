/- The walk of the law CrcBurst: it returns true at every input. -/
import Derived.Test.YtplamdejdibbhaaCrcLives
import Derived.Test.YtplamdejdibbhaaCutB
import Derived.Test.YtplamdejdibbhaaWithin
import Derived.Test.YtplamdejdibbhaaOpen
namespace Go.Proofs.Ytplamdejdibbhaa
set_option linter.unusedVariables false
set_option linter.unusedSimpArgs false
open Go.ChangeShapes Go.WideShapes Go.ChangeAt Go.RowKit

theorem burst_sum (b c : List UInt8) (at_ p : Nat) (hl : c.length = b.length) (ha : at_ ≤ 8 * b.length) (hp : p < 4294967296) (h0 : p ≠ 0) (hc : le c = le b ^^^ (2 ^ at_ * p)) : crcSum 0 c ≠ crcSum 0 b := by
  intro e
  refine burst b c (0 ^^^ 4294967295) at_ p hl ha hp h0 hc ?_
  unfold crcSum at e
  have h : ∀ x m : Nat, (x ^^^ m) ^^^ m = x := fun x m => by rw [Nat.xor_assoc, Nat.xor_self, Nat.xor_zero]
  have h2 := congrArg (fun z => z ^^^ 4294967295) e
  simp only [h] at h2
  exact h2
theorem burst_step (l c : List UInt8) (a k p j r : Nat) (hj : j < c.length) (hjr : a + k = 8 * j + r) (hr : r < 8) (h : le c = le l ^^^ (2 ^ a * p)) : le (c.set j (c[j] ^^^ UInt8.ofNat (2 ^ r))) = le l ^^^ (2 ^ a * (p ^^^ 2 ^ k)) := by
  have hu : (UInt8.ofNat (2 ^ r)).toNat = 2 ^ r := by
    have : 2 ^ r < 256 := by
      have := Nat.pow_lt_pow_right (a := 2) (by decide) hr
      exact this
    simp only [UInt8.toNat_ofNat', show (2 : Nat) ^ 8 = 256 from rfl]; exact Nat.mod_eq_of_lt this
  rw [le_turn c j hj, h, hu, ← Nat.pow_add, ← hjr, pow_mul_xor, Nat.pow_add, Nat.xor_assoc]
set_option maxRecDepth 100000 in
set_option maxHeartbeats 4000000 in
theorem burst_c2 (W : World) (v0 : Value) (l0 : List UInt8) (h0 : Bs W v0 l0) (at_ : Int) (pt : Nat) (hpt : pt < 4294967296) : Calls Try.prog 6 #[v0, .int .i64 at_, .int .u32 pt] W fun e w' => e = .returned (.bool true) ∧ Keep [] W w' := by
  go_enter Try.func6, Try.ntmps6
  go_wp2_with fail
  refine (cut_c W v0 l0 500 (by decide) h0).mono ?_; rintro e w' ⟨vb, rfl, hb, hvb, rfl⟩
  have hl5 : (l0.take 500).length ≤ 500 := by rw [List.length_take]; omega
  generalize l0.take 500 = l at hb hl5
  obtain ⟨ab, cb, rfl, hcb, hcm⟩ := hb.shape
  by_cases hl0 : l.length = 0
  · have e0 : ((l.length : Int) == 0) = true := by simp; exact List.eq_nil_of_length_eq_zero hl0
    clear hl0
    go_wp2_with (refine (lives_c _).mono ?_; rintro e w' ⟨rfl, hk⟩)
    go_ret
    exact ⟨rfl, hk⟩
  · have e0 : ((l.length : Int) == 0) = false := beq_eq_false_iff_ne.2 (by omega)
    have hcp := Lib.hid (copy_c W _ l (by omega) hb)
    go_wp2_with fail
    refine hcp.out.mono ?_; rintro e w1 ⟨vc, rfl, hc, hk1, hvc⟩
    obtain ⟨a, ha⟩ : ∃ a : Nat, max 0 (min at_ (8 * (l.length : Int) - 1)) = a := ⟨(max 0 (min at_ (8 * (l.length : Int) - 1))).toNat, by omega⟩
    have ha2 : a < 8 * l.length := by omega
    go_wp2_with fail
    refine (within_c at_ 0 _ _ (by omega)).mono ?_; rintro e w' ⟨rfl, rfl⟩
    rw [ha]
    have HV := Lib.hid hvc
    have HBW := Lib.hid hb
    clear ha hcp hb hvc e0
    rcases hc.cases with ⟨rfl, h2⟩ | ⟨g, cap, rfl, hgc, hgm, _, hg⟩
    · subst h2; simp at hl0
    · have hgW : W.heap.size ≤ g := HV.out g rfl
      unfold maxLen at hgm
      go_wp2_with fail
      go_loopw [8] (fun i wr => ∃ (k p : Nat) (c : List UInt8), k ≤ 32 ∧ k ≤ 8 * l.length - a ∧ i = .int .i64 k ∧ c.length = l.length ∧ OwnB wr (.slice (some ⟨g, 0, none⟩) l.length cap) c ∧ Hid (le c = le l ^^^ (2 ^ a * p) ∧ p < 2 ^ k ∧ (0 < k → p ≠ 0)) ∧ Keep [] W wr) (fun i _ => 32 - (intOf i).toNat)
      case atStart => exact ⟨0, 0, l, by omega, by omega, rfl, rfl, hc, ⟨by simp, by decide, by omega⟩, hk1⟩
      case round =>
        obtain ⟨k, p, c, hk, hk2, rfl, hcl, hown, HP, K⟩ := hrel
        have HCl := Lib.hid hcl
        by_cases hlt : k < 32 ∧ (k : Int) < 8 * (l.length : Int) - a
        · obtain ⟨q1, q2⟩ := hlt
          obtain ⟨j, r, hjr, hr8⟩ : ∃ j r, a + k = 8 * j + r ∧ r < 8 := ⟨(a + k) / 8, (a + k) % 8, by omega, by omega⟩
          have hjl : j < c.length := by omega
          have hd : ((a : Int) + k) / 8 = j := by omega
          have hm : ((a : Int) + k) % 8 = r := by omega
          rcases hown.cases with ⟨h1, _⟩ | ⟨g', cap', h1, _, _, hcell, _⟩
          · simp at h1
          · simp only [Value.slice.injEq, Option.some.injEq, Addr.mk.injEq] at h1
            obtain ⟨⟨rfl, _⟩, hz, rfl⟩ := h1
            clear hz
            have e1 := hcell j hjl
            have f1 := hown.free j
            have hodd := bits_odd (pt / 2 ^ k) (by have := Nat.div_le_self pt (2 ^ k); omega)
            have hst := hown.store j hjl (c[j] ^^^ UInt8.ofNat (2 ^ r))
            have hfl := burst_step l c a k p j r hjl hjr hr8 HP.out.1
            have hNew : Hid (le (c.set j (c[j] ^^^ UInt8.ofNat (2 ^ r))) = le l ^^^ (2 ^ a * (p ^^^ 2 ^ k)) ∧ p ^^^ 2 ^ k < 2 ^ (k + 1) ∧ (0 < k + 1 → p ^^^ 2 ^ k ≠ 0)) := ⟨hfl, turned_lt p k HP.out.2.1, fun _ => turned_ne p k HP.out.2.1⟩
            have hLen : Hid ((c.set j (c[j] ^^^ UInt8.ofNat (2 ^ r))).length = l.length) := by unfold Hid; rw [List.length_set]; exact HCl.out
            generalize c.set j (c[j] ^^^ UInt8.ofNat (2 ^ r)) = c2 at hst hNew hLen
            have hr256 : (2 : Nat) ^ r < 256 := Nat.pow_lt_pow_right (a := 2) (by decide) hr8
            have hxx := u8_xor_nat c[j].toNat (2 ^ r) c[j].toNat_lt hr256
            have hun : (c[j] ^^^ UInt8.ofNat (2 ^ r)).toNat = c[j].toNat ^^^ 2 ^ r := by rw [UInt8.toNat_xor]; congr 1; simp only [UInt8.toNat_ofNat', show (2 : Nat) ^ 8 = 256 from rfl]; exact Nat.mod_eq_of_lt hr256
            rw [hun] at hst
            generalize c[j].toNat ^^^ 2 ^ r = y at hxx hst
            generalize c[j].toNat = x at e1 hxx
            have KN : Keep [] W (wr.setCell ⟨g, j, none⟩ (.int .u8 (y : Int))) := K.setCell (.inr hgW) _
            clear hcell hcl hun hfl
            have hstay : Hid (k ≠ 0 → (le c = le l ^^^ (2 ^ a * p) ∧ p < 2 ^ (k + 1) ∧ (0 < k + 1 → p ≠ 0))) := fun h => ⟨HP.out.1, Nat.lt_of_lt_of_le HP.out.2.1 (Nat.pow_le_pow_right (by decide) (by omega)), fun _ => HP.out.2.2 (by omega)⟩
            have key : ((k : Int) == 0) = true ∨ (((k : Int) == 0) = false ∧ (((pt / 2 ^ k % 2 : Nat) : Int) == 1) = true) ∨ (k ≠ 0 ∧ ((k : Int) == 0) = false ∧ (((pt / 2 ^ k % 2 : Nat) : Int) == 1) = false) := by
              by_cases hk0 : k = 0
              · left; simp [hk0]
              · by_cases hb : pt / 2 ^ k % 2 = 1
                · right; left; exact ⟨beq_eq_false_iff_ne.2 (by omega), by simp [hb]⟩
                · right; right; exact ⟨hk0, beq_eq_false_iff_ne.2 (by omega), beq_eq_false_iff_ne.2 (by omega)⟩
            generalize pt / 2 ^ k % 2 = par at hodd key
            have hcast : ((pt / 2 ^ k : Nat) : Int) = (pt : Int) / 2 ^ k := by simp
            rw [hcast] at hodd
            have hlc : (j : Int) < l.length := by have := HCl.out; omega
            have hrN : (2 : Int) ^ r % 256 = 2 ^ r := by
              have : ((2 ^ r : Nat) : Int) = 2 ^ r := by simp
              rw [← this]; exact Int.emod_eq_of_lt (Int.natCast_nonneg _) (Int.ofNat_lt.2 hr256)
            have hxx2 : bits .xor .u8 (x : Int) (2 ^ r) = (y : Int) := by rw [← hxx]; simp
            rcases key with hb0 | ⟨hb0, hb1⟩ | ⟨hk0, hb0, hb1⟩
            · go_wp2_with fail
              go_roundw
              case rel => exact ⟨k + 1, _, c2, by omega, by omega, by go_num, hLen.out, hst, hNew, KN⟩
              case measure => simp [intOf]; omega
            · go_wp2_with fail
              go_roundw
              case rel => exact ⟨k + 1, _, c2, by omega, by omega, by go_num, hLen.out, hst, hNew, KN⟩
              case measure => simp [intOf]; omega
            · have hN := hstay.out hk0
              have HN := Lib.hid hN
              clear hN
              go_wp2_with fail
              go_roundw
              case rel => exact ⟨k + 1, p, c, by omega, by omega, by go_num, HCl.out, hown, HN, K⟩
              case measure => simp [intOf]; omega
        · have hpos : 0 < k := by omega
          have hne := burst_sum l c a p HCl.out (by omega) (Nat.lt_of_lt_of_le HP.out.2.1 (Nat.pow_le_pow_right (n := 2) (j := 32) (by decide) (by omega))) (HP.out.2.2 hpos) HP.out.1
          have hneI : (((crcSum 0 c : Nat) : Int) != ((crcSum 0 l : Nat) : Int)) = true := bne_iff_ne.2 (by omega)
          have sA := fun (ww : World) (kk : Keep [] wr ww) => sum_c ww _ c ((hown.keep kk (by simp)).bs)
          have sB := fun (ww : World) (kk : Keep [] W ww) => sum_c ww _ l (HBW.out.keep kk (by simp))
          have SA := Lib.hid sA; have SB := Lib.hid sB
          have key2 : ¬ k < 32 ∨ (k < 32 ∧ ¬ (k : Int) < 8 * (l.length : Int) - a) := by omega
          clear sA sB hne hlt hcl hown
          generalize crcSum 0 c = yc at hneI SA
          generalize crcSum 0 l = yl at hneI SB
          rcases key2 with q1 | ⟨q1, q2⟩
          all_goals
            go_wp2_with fail
            refine (SA.out _ (Keep.refl _ _)).mono ?_
            rintro e w2 ⟨rfl, k2⟩
            go_wp2_with fail
            refine (SB.out _ (K.trans k2 (by simp))).mono ?_
            rintro e w3 ⟨rfl, k3⟩
            go_wp2_with (refine (lives_c _).mono ?_; rintro e w' ⟨rfl, hk⟩)
            go_ret
            exact ⟨rfl, ((K.trans k2 (by simp)).trans k3 (by simp)).trans hk (by simp)⟩
theorem burst_w (W : World) (v0 : Value) (l0 : List UInt8) (h0 : Bs W v0 l0) (a1 : Int) (w1 : (Lit.int .i64 a1).wf = true) (a2 : Int) (w2 : (Lit.int .u32 a2).wf = true) : Calls Try.prog 6 #[v0, .int .i64 a1, .int .u32 a2] W fun e w' => e = .returned (.bool true) ∧ Keep [] W w' := by
  have h : 0 ≤ a2 ∧ a2 ≤ 4294967295 := by simpa [Lit.wf, IntKind.min, IntKind.max, IntKind.bits, IntKind.signed] using w2
  obtain ⟨x, rfl⟩ := Int.eq_ofNat_of_zero_le h.1
  exact burst_c2 W v0 l0 h0 a1 x (by omega)
end Go.Proofs.Ytplamdejdibbhaa
