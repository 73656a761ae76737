/- Contract of the method window of bitio.Reader. -/
import Derived.Test.YtblogjpoijfpbaaBitRd
import Derived.Test.YtblogjpoijfpbaaBitMath
namespace Go.Proofs.Ytblogjpoijfpbaa
set_option linter.unusedVariables false
set_option linter.unusedSimpArgs false
open Go.ChangeShapes Go.WideShapes Go.ChangeAt Go.RowKit

theorem byteAt_get (l : List UInt8) (i : Nat) (hi : i < l.length) : (l[i].toNat) = byteAt l i := by
  unfold byteAt; rw [List.getD_eq_getElem?_getD, List.getElem?_eq_getElem hi]; rfl

theorem or_step (l : List UInt8) (p k : Nat) (hk : k < 8) (K : Int) (hK : K = 2 ^ (8 * k)) : Go.bits .or .u64 ((num l (8 * p) (8 * k) : Nat) : Int) ((byteAt l (p + k) : Nat) * K) = ((num l (8 * p) (8 * (k + 1)) : Nat) : Int) := by
  subst hK
  have h1 := num_lt l (8 * p) (8 * k)
  have hb := byteAt_lt l (p + k)
  have h3 : 2 ^ (8 * k) ≤ 2 ^ 56 := Nat.pow_le_pow_right (by decide) (by omega)
  have h4 : byteAt l (p + k) * 2 ^ (8 * k) < 18446744073709551616 := by
    have : byteAt l (p + k) * 2 ^ (8 * k) ≤ 255 * 2 ^ 56 := Nat.mul_le_mul (by omega) h3
    omega
  have h5 : num l (8 * p) (8 * k) < 18446744073709551616 := by omega
  rw [show ((byteAt l (p + k) : Nat) : Int) * 2 ^ (8 * k) = ((byteAt l (p + k) * 2 ^ (8 * k) : Nat) : Int) by simp]
  rw [u64_or_nat _ _ h5 h4, Nat.or_comm, nat_join (8 * k) _ _ (by simp) h1, num_bytes, Nat.mul_comm, Nat.add_comm]
theorem or_stepw (l : List UInt8) (p k n : Nat) (hk : k < 8) (hn : n = num l (8 * p) (8 * k)) : Go.bits .or .u64 (n : Int) (IntKind.u64.wrap ((byteAt l (p + k) : Nat) * 2 ^ (8 * k))) = ((num l (8 * p) (8 * (k + 1)) : Nat) : Int) := by
  have hb := byteAt_lt l (p + k)
  have h3 : 2 ^ (8 * k) ≤ 2 ^ 56 := Nat.pow_le_pow_right (by decide) (by omega)
  have h4 : byteAt l (p + k) * 2 ^ (8 * k) < 18446744073709551616 := by
    have : byteAt l (p + k) * 2 ^ (8 * k) ≤ 255 * 2 ^ 56 := Nat.mul_le_mul (by omega) h3
    omega
  have e : IntKind.u64.wrap (((byteAt l (p + k) : Nat) : Int) * 2 ^ (8 * k)) = ((byteAt l (p + k) : Nat) : Int) * 2 ^ (8 * k) := by
    rw [show ((byteAt l (p + k) : Nat) : Int) * 2 ^ (8 * k) = ((byteAt l (p + k) * 2 ^ (8 * k) : Nat) : Int) by simp]
    simp only [IntKind.wrap, IntKind.bits, IntKind.signed]
    generalize byteAt l (p + k) * 2 ^ (8 * k) = q at h4
    simp; omega
  rw [e, hn]
  exact or_step l p k hk _ rfl
theorem win8 (l : List UInt8) (p : Nat) : Go.bits .or .u64 (Go.bits .or .u64 (Go.bits .or .u64 (Go.bits .or .u64 (Go.bits .or .u64 (Go.bits .or .u64 (Go.bits .or .u64 (byteAt l p) ((byteAt l (p + 1)) * 256)) ((byteAt l (p + 2)) * 65536)) ((byteAt l (p + 3)) * 16777216))
    ((byteAt l (p + 4)) * 4294967296)) ((byteAt l (p + 5)) * 1099511627776)) ((byteAt l (p + 6)) * 281474976710656)) ((byteAt l (p + 7)) * 72057594037927936) = ((num l (8 * p) 64 : Nat) : Int) := by
  have h0 := num_byte l p
  have e := or_step l p 1 (by decide) 256 rfl
  rw [← h0, show (8 : Nat) = 8 * 1 from rfl, e, or_step l p 2 (by decide) 65536 rfl, or_step l p 3 (by decide) 16777216 rfl, or_step l p 4 (by decide) 4294967296 rfl, or_step l p 5 (by decide) 1099511627776 rfl,
    or_step l p 6 (by decide) 281474976710656 rfl, or_step l p 7 (by decide) 72057594037927936 rfl]

theorem window_c (w : World) (r : Nat) (v : Value) (s : RS) (p : Nat) (hp : p ≤ s.l.length) (h : Rd w r v s) : Calls Try.prog 51 #[.pointer (some ⟨r, 0, none⟩), .int .i64 p] w fun e w' => e = .returned (.int .u64 (num s.l (8 * p) 64)) ∧ ∃ n, w' = w.drewN n := by
  have c0 := h.1.cell 0 _ rfl
  have hk := h.2.2.1
  unfold RS.ok at hk
  obtain ⟨_, k2, _⟩ := hk
  rcases h.2.1.cases with ⟨rfl, hl⟩ | ⟨g, cap, rfl, hc, hm, hcell, hg⟩
  · have hp0 : p = 0 := by rw [hl] at hp; simpa using hp
    subst hp0
    have hf : num s.l (8 * 0) 64 = 0 := num_end _ _ _ (by simp [hl])
    have HF := Lib.hid hf; clear hf hl
    go_enter Try.func51, Try.ntmps51
    go_wp2
    refine wp_loop_rounds 1 ?_
    rw [rounds_succ]
    go_wp2
    go_ret
    exact ⟨by rw [HF.out]; rfl, 0, rfl⟩
  · unfold maxLen at hm
    by_cases h8 : 8 ≤ s.l.length - p
    · have hpc : ¬ p = cap := by omega
      have hpc2 : p < cap := by omega
      have b0 := byteAt_lt s.l p
      have b1 := byteAt_lt s.l (p + 1)
      have b2 := byteAt_lt s.l (p + 2)
      have b3 := byteAt_lt s.l (p + 3)
      have b4 := byteAt_lt s.l (p + 4)
      have b5 := byteAt_lt s.l (p + 5)
      have b6 := byteAt_lt s.l (p + 6)
      have b7 := byteAt_lt s.l (p + 7)
      have e0 := hcell p (by omega)
      have e1 := hcell (p + 1) (by omega)
      have e2 := hcell (p + 2) (by omega)
      have e3 := hcell (p + 3) (by omega)
      have e4 := hcell (p + 4) (by omega)
      have e5 := hcell (p + 5) (by omega)
      have e6 := hcell (p + 6) (by omega)
      have e7 := hcell (p + 7) (by omega)
      rw [byteAt_get] at e0 e1 e2 e3 e4 e5 e6 e7
      clear hcell
      go_enter Try.func51, Try.ntmps51
      go_wp2
      go_quiet (fail)
      go_wp2
      go_ret
      exact ⟨congrArg (fun n => Ending.returned (.int .u64 n)) (win8 s.l p), _, rfl⟩
    · by_cases hpc : p = cap
      · have hpl : p = s.l.length := by omega
        have hf : num s.l (8 * p) 64 = 0 := num_end _ _ _ (by omega)
        have HF := Lib.hid hf; clear hf
        have hle : (s.l.length : Int) ≤ p := by omega
        have hle2 : (p : Int) ≤ s.l.length := by omega
        have hpc2 : p = cap := hpc
        clear hpl hcell
        go_enter Try.func51, Try.ntmps51
        go_wp2
        refine wp_loop_rounds 1 ?_
        rw [rounds_succ]
        go_wp2
        go_ret
        exact ⟨by rw [HF.out]; rfl, 0, rfl⟩
      · have hpc2 : p < cap := by omega
        have hf : num s.l (8 * p) 64 = num s.l (8 * p) (8 * (s.l.length - p)) := num_all _ _ _ _ (by omega) (by omega)
        have HF := Lib.hid hf; clear hf
        go_enter Try.func51, Try.ntmps51
        go_wp2
        go_loop [6, 66] (fun x i => ∃ k n : Nat, k ≤ s.l.length - p ∧ i = .int .i64 k ∧ x = .int .u64 n ∧ Hid (n = num s.l (8 * p) (8 * k))) (fun _ i => 8 - (intOf i).toNat)
        case atStart => exact ⟨0, 0, by omega, rfl, rfl, rfl⟩
        case round =>
          obtain ⟨k, n, hk, rfl, rfl, HN⟩ := hrel
          by_cases hlt : k < s.l.length - p
          · have e0 := hcell (p + k) (by omega)
            rw [byteAt_get] at e0
            have b0 := byteAt_lt s.l (p + k)
            have hk8 : k < 8 := by omega
            go_wp2
            refine ⟨⟨k + 1, num s.l (8 * p) (8 * (k + 1)), by omega, by go_num, congrArg (Value.int .u64) (or_stepw s.l p k n hk8 HN.out), rfl⟩, ?_⟩
            simp [intOf]; omega
          · go_wp2
            go_ret
            exact ⟨by rw [HF.out, HN.out, show k = s.l.length - p by omega]; rfl, 0, rfl⟩
end Go.Proofs.Ytblogjpoijfpbaa
