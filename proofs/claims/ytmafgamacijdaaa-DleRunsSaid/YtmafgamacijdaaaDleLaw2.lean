/- The walk of DleRuns. -/
import Derived.Test.YtmafgamacijdaaaDleLaw1
import Derived.Test.YtmafgamacijdaaaWithin
import Derived.Test.YtmafgamacijdaaaMake
namespace Go.Proofs.Ytmafgamacijdaaa
set_option linter.unusedVariables false
set_option linter.unusedSimpArgs false
set_option maxRecDepth 100000
open Go.ChangeShapes Go.WideShapes Go.ChangeAt Go.RowKit

set_option maxHeartbeats 2000000 in
theorem dlruns_w (W : World) (c0 : Int) (hc : (Lit.int .u8 c0).wf = true) (n0 : Int) (hn0 : (Lit.int .i64 n0).wf = true) (f0 : Int) (hf0 : (Lit.int .i64 f0).wf = true) : Calls Try.prog 6 #[.int .u8 c0, .int .i64 n0, .int .i64 f0] W fun e w' => e = .returned (.bool true) ∧ Keep [] W w' := by
  obtain ⟨c, rfl⟩ : ∃ c : UInt8, c0 = c.toNat := by
    have h : 0 ≤ c0 ∧ c0 ≤ 255 := by simpa [Lit.wf, IntKind.min, IntKind.max, IntKind.bits, IntKind.signed] using hc
    exact ⟨UInt8.ofNat c0.toNat, by rw [UInt8.toNat_ofNat']; omega⟩
  obtain ⟨n, hn⟩ : ∃ n : Nat, max 0 (min n0 4000) = (n : Int) := ⟨(max 0 (min n0 4000)).toNat, by omega⟩
  have hn2 : n ≤ 4000 := by omega
  obtain ⟨f, hf⟩ : ∃ f : Nat, max 1 (min f0 4) = (f : Int) := ⟨(max 1 (min f0 4)).toNat, by omega⟩
  have hf1 : 1 ≤ f := by omega
  have hf2 : f ≤ 4 := by omega
  have HW1 := Lib.hid (fun w => within_c n0 0 4000 w (by decide))
  have HW2 := Lib.hid (fun w => within_c f0 1 4 w (by decide))
  rw [hn] at HW1
  rw [hf] at HW2
  clear hn hf hc hn0 hf0
  have hm := Lib.hid (fun w => run_make_bytes w n n (Nat.le_refl _) (by omega))
  go_enter Try.func6, Try.ntmps6
  go_wp2_with fail
  refine (HW1.out _).mono ?_; rintro e w1 ⟨rfl, rfl⟩
  go_wp2_with fail
  refine (HW2.out _).mono ?_; rintro e w1 ⟨rfl, rfl⟩
  have hmk := hm.out W
  go_wp2_with fail
  have hO := OwnB.madeN W n (by unfold maxLen; omega)
  have KW : Keep [] W (W.alloc (.cells (madeCells #[.int .u8 0] n) 5)) := (Keep.refl [] W).alloc _
  generalize W.alloc (.cells (madeCells #[.int .u8 0] n) 5) = w1 at hO KW ⊢
  obtain ⟨g, hg⟩ : ∃ g, W.heap.size = g := ⟨_, rfl⟩
  have hHG := Lib.hid hg
  rw [hg] at hO ⊢
  clear hg hmk
  go_loopw [8] (fun i wr => ∃ (k : Nat), k ≤ n ∧ i = .int .i64 k ∧ OwnB wr (.slice (some ⟨g, 0, none⟩) n n) (rep n k c) ∧ Keep [] W wr) (fun i _ => n - (intOf i).toNat)
  case atStart => exact ⟨0, Nat.zero_le _, rfl, by simpa [rep] using hO, KW⟩
  case round =>
    obtain ⟨k, hk, rfl, HO, KK⟩ := hrel
    have hl := rep_len n k c hk
    by_cases hx : k < n
    · have t1 : decide (k < n) = true := by simpa using hx
      have hsum : IntKind.i64.wrap ((k : Int) + 1) = ((k + 1 : Nat) : Int) := by rw [IntKind.wrap_i64]; omega
      have f1 := HO.free k
      obtain ⟨b1, o1, c1, e1, cell1⟩ := HO.bs.spot k (by omega)
      have e2 : b1 = g ∧ o1 = 0 := by
        have := e1; simp at this; exact ⟨this.1.1.symm, this.1.2.symm⟩
      obtain ⟨rfl, rfl⟩ := e2
      rw [Nat.zero_add] at cell1
      have hst := HO.store k (by omega) c
      rw [rep_set n k c hx] at hst
      have KS : Keep [] W (wr.setCell ⟨b1, k, none⟩ (.int .u8 c.toNat)) := KK.setCell (.inr (by have := hHG.out; simp; omega)) _
      clear e1
      go_wp2_with fail
      go_roundw
      case rel => exact ⟨k + 1, hx, rfl, hst, KS⟩
      case measure => simp [intOf]; omega
    · have t1 : decide (k < n) = false := by simpa using hx
      have hkn : k = n := by omega
      subst hkn
      rw [rep_all] at HO
      have HR := enc_runs f hf1 hf2 k c
      have HEN := Lib.hid (dl_encode wr _ (List.replicate k c) f HO.bs (by rw [List.length_replicate]; omega) hf1 hf2)
      generalize enc13 f (List.replicate k c) = E at HR HEN
      have hf : f = 1 ∨ f = 2 ∨ f = 3 ∨ f = 4 := by omega
      clear hx hO hl
      rcases hf with rfl | rfl | rfl | rfl
      · have hlow : low13 1 + 257 = 385 := rfl
        rw [hlow] at HR
        obtain ⟨z, hz⟩ : ∃ z, k / 385 = z := ⟨_, rfl⟩
        rw [hz] at HR
        have u3 : (k : Int).tdiv 385 = (z : Int) := by rw [Int.tdiv_eq_ediv_of_nonneg (by omega)]; omega
        have u4 : IntKind.i64.wrap (z : Int) = z := by rw [IntKind.wrap_i64]; omega
        have u5 : IntKind.i64.wrap (4 * (z : Int)) = 4 * z := by rw [IntKind.wrap_i64]; omega
        have u6 : IntKind.i64.wrap (4 * (z : Int) + 12) = 4 * z + 12 := by rw [IntKind.wrap_i64]; omega
        have p1 : decide ((E.length : Int) ≤ 4 * (z : Int) + 12) = true := by simp; omega
        clear HR hz hlow
        go_wp2_with fail
        refine HEN.out.mono ?_; rintro e w2 ⟨v2, rfl, h2, k2⟩
        obtain ⟨a2, c2, rfl, _⟩ := h2.shape
        go_wp2_with fail
        refine (lives13_c w2).mono ?_; rintro e w3 ⟨rfl, k3⟩
        go_wp2_with fail
        go_ret
        exact ⟨rfl, (KK.trans k2 (by simp)).trans k3 (by simp)⟩
      · have hlow : low13 2 + 257 = 321 := rfl
        rw [hlow] at HR
        obtain ⟨z, hz⟩ : ∃ z, k / 321 = z := ⟨_, rfl⟩
        rw [hz] at HR
        have u3 : (k : Int).tdiv 321 = (z : Int) := by rw [Int.tdiv_eq_ediv_of_nonneg (by omega)]; omega
        have u4 : IntKind.i64.wrap (z : Int) = z := by rw [IntKind.wrap_i64]; omega
        have u5 : IntKind.i64.wrap (4 * (z : Int)) = 4 * z := by rw [IntKind.wrap_i64]; omega
        have u6 : IntKind.i64.wrap (4 * (z : Int) + 12) = 4 * z + 12 := by rw [IntKind.wrap_i64]; omega
        have p1 : decide ((E.length : Int) ≤ 4 * (z : Int) + 12) = true := by simp; omega
        clear HR hz hlow
        go_wp2_with fail
        refine HEN.out.mono ?_; rintro e w2 ⟨v2, rfl, h2, k2⟩
        obtain ⟨a2, c2, rfl, _⟩ := h2.shape
        go_wp2_with fail
        refine (lives13_c w2).mono ?_; rintro e w3 ⟨rfl, k3⟩
        go_wp2_with fail
        go_ret
        exact ⟨rfl, (KK.trans k2 (by simp)).trans k3 (by simp)⟩
      · have hlow : low13 3 + 257 = 289 := rfl
        rw [hlow] at HR
        obtain ⟨z, hz⟩ : ∃ z, k / 289 = z := ⟨_, rfl⟩
        rw [hz] at HR
        have u3 : (k : Int).tdiv 289 = (z : Int) := by rw [Int.tdiv_eq_ediv_of_nonneg (by omega)]; omega
        have u4 : IntKind.i64.wrap (z : Int) = z := by rw [IntKind.wrap_i64]; omega
        have u5 : IntKind.i64.wrap (4 * (z : Int)) = 4 * z := by rw [IntKind.wrap_i64]; omega
        have u6 : IntKind.i64.wrap (4 * (z : Int) + 12) = 4 * z + 12 := by rw [IntKind.wrap_i64]; omega
        have p1 : decide ((E.length : Int) ≤ 4 * (z : Int) + 12) = true := by simp; omega
        clear HR hz hlow
        go_wp2_with fail
        refine HEN.out.mono ?_; rintro e w2 ⟨v2, rfl, h2, k2⟩
        obtain ⟨a2, c2, rfl, _⟩ := h2.shape
        go_wp2_with fail
        refine (lives13_c w2).mono ?_; rintro e w3 ⟨rfl, k3⟩
        go_wp2_with fail
        go_ret
        exact ⟨rfl, (KK.trans k2 (by simp)).trans k3 (by simp)⟩
      · have hlow : low13 4 + 257 = 273 := rfl
        rw [hlow] at HR
        obtain ⟨z, hz⟩ : ∃ z, k / 273 = z := ⟨_, rfl⟩
        rw [hz] at HR
        have u3 : (k : Int).tdiv 273 = (z : Int) := by rw [Int.tdiv_eq_ediv_of_nonneg (by omega)]; omega
        have u4 : IntKind.i64.wrap (z : Int) = z := by rw [IntKind.wrap_i64]; omega
        have u5 : IntKind.i64.wrap (4 * (z : Int)) = 4 * z := by rw [IntKind.wrap_i64]; omega
        have u6 : IntKind.i64.wrap (4 * (z : Int) + 12) = 4 * z + 12 := by rw [IntKind.wrap_i64]; omega
        have p1 : decide ((E.length : Int) ≤ 4 * (z : Int) + 12) = true := by simp; omega
        clear HR hz hlow
        go_wp2_with fail
        refine HEN.out.mono ?_; rintro e w2 ⟨v2, rfl, h2, k2⟩
        obtain ⟨a2, c2, rfl, _⟩ := h2.shape
        go_wp2_with fail
        refine (lives13_c w2).mono ?_; rintro e w3 ⟨rfl, k3⟩
        go_wp2_with fail
        go_ret
        exact ⟨rfl, (KK.trans k2 (by simp)).trans k3 (by simp)⟩
end Go.Proofs.Ytmafgamacijdaaa
