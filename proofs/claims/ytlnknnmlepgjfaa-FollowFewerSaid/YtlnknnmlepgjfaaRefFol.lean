/- Contracts of the document's Width, at and Cost of layer 12. No condition beyond each theorem's own premises. -/
import Derived.Test.YtlnknnmlepgjfaaFolMath
import Derived.Test.YtlnknnmlepgjfaaRefKit
import Derived.Test.YtlnknnmlepgjfaaKept
import Derived.Test.YtlnknnmlepgjfaaArr
namespace Go.Proofs.Ytlnknnmlepgjfaa
set_option linter.unusedVariables false
set_option linter.unusedSimpArgs false
set_option maxRecDepth 100000
open Go.ChangeShapes Go.WideShapes Go.ChangeAt Go.RowKit

theorem width_c (w : World) (n : Nat) (hn : n ≤ 9223372036854775807) : Calls Try.prog 38 #[.int .i64 n] w fun e w' => e = .returned (.int .i64 (widthN n)) ∧ w = w' := by
  by_cases hb : n < 1 ∨ 32 < n
  · have hf : widthN n = 0 := by unfold widthN; rw [if_pos hb]
    rw [hf]
    by_cases h1 : n < 1
    · have t1 : decide (n < 1) = true := by simpa using h1
      have t1' : decide ((n : Int) < 1) = true := by simp; omega
      clear hb h1 hf
      go_enter Try.func38, Try.ntmps38
      go_wp2
      go_ret
      exact ⟨rfl, rfl⟩
    · have t1 : decide (n < 1) = false := by simpa using h1
      have t1' : decide ((n : Int) < 1) = false := by simp; omega
      have t2' : decide (32 < (n : Int)) = true := by simp; omega
      have t2 : decide (32 < n) = true := by simp; omega
      clear hb h1 hf
      go_enter Try.func38, Try.ntmps38
      go_wp2
      go_ret
      exact ⟨rfl, rfl⟩
  · have t1 : decide (n < 1) = false := by simp; omega
    have t1' : decide ((n : Int) < 1) = false := by simp; omega
    have t2' : decide (32 < (n : Int)) = false := by simp; omega
    have t2 : decide (32 < n) = false := by simp; omega
    have hb1 : 1 ≤ n ∧ n ≤ 32 := by omega
    clear hb
    go_enter Try.func38, Try.ntmps38
    go_wp2_with fail
    go_loopw [3, 4] (fun kv tv wr => ∃ (k two : Nat), kv = .int .i64 k ∧ tv = .int .i64 two ∧ two = 2 ^ k ∧ 1 ≤ k ∧ k ≤ 5 ∧ (k = 1 ∨ 2 ^ (k - 1) < n) ∧ wr = w) (fun kv _ _ => 6 - (intOf kv).toNat)
    case atStart => exact ⟨1, 2, rfl, rfl, rfl, by omega, by omega, .inl rfl, rfl⟩
    case round =>
      obtain ⟨k, two, rfl, rfl, ht, hk1, hk2, hk3, hwr⟩ := hrel
      have h5 : (2 : Nat) ^ k ≤ 2 ^ 5 := Nat.pow_le_pow_right (by decide) hk2
      have HT := Lib.hid ht
      have hb2 : two ≤ 32 := by omega
      by_cases hx : two < n
      · have t3 : decide (two < n) = true := by simpa using hx
        have hm : IntKind.i64.wrap ((two : Int) * 2) = ((2 * two : Nat) : Int) := by rw [IntKind.wrap_i64]; omega
        have hs : IntKind.i64.wrap ((k : Int) + 1) = ((k + 1 : Nat) : Int) := by rw [IntKind.wrap_i64]; omega
        have hk4 : k < 5 := by
          rcases Nat.lt_or_ge k 5 with h | h
          · exact h
          · have : k = 5 := by omega
            subst this; simp at ht; omega
        clear ht h5
        go_wp2_with fail
        go_roundw
        case rel => exact ⟨k + 1, 2 * two, rfl, rfl, by rw [Nat.pow_succ, ← HT.out]; omega, by omega, by omega, .inr (by rw [Nat.add_sub_cancel, ← HT.out]; exact hx), trivial⟩
        case measure => simp [intOf]; omega
      · have t3 : decide (two < n) = false := by simpa using hx
        have hf := widthN_of n k hb1.1 hb1.2 hk1 hk2 (by rw [← ht]; omega) hk3
        have HF := Lib.hid hf
        clear hf ht h5 hx
        go_wp2_with fail
        go_ret
        rw [HF.out]
        exact ⟨rfl, by first | exact hwr.symm | trivial⟩
theorem atU_none (l : List UInt8) (c : UInt8) (h : ∀ i (hi : i < l.length), l[i] ≠ c) : atU l c = -1 := by
  unfold atU
  rw [List.findIdx?_eq_none_iff.2]
  intro x hx
  obtain ⟨i, hi, rfl⟩ := List.getElem_of_mem hx
  simpa using h i hi
theorem atU_some (l : List UInt8) (c : UInt8) (k : Nat) (hk : k < l.length) (hc : l[k] = c) (h : ∀ i (hi : i < l.length), i < k → l[i] ≠ c) : atU l c = k := by
  unfold atU
  have : l.findIdx? (· == c) = some k := by
    rw [List.findIdx?_eq_some_iff_getElem]
    exact ⟨hk, by simpa using hc, fun j hj => by simpa using h j (by omega) hj⟩
  rw [this]
theorem rat12_c (w : World) (v : Value) (l : List UInt8) (c : UInt8) (hb : Bs w v l) : Calls Try.prog 30 #[v, .int .u8 c.toNat] w fun e w' => e = .returned (.int .i64 (atU l c)) ∧ w = w' := by
  obtain ⟨a, cp, rfl, hl, hc63⟩ := hb.shape
  have hB := Lib.hid hb; clear hb
  have hln : l.length ≤ 9223372036854775807 := by unfold maxLen at hc63; omega
  go_enter Try.func30, Try.ntmps30
  go_wp2_with fail
  go_loopw [5] (fun i wr => ∃ k : Nat, k ≤ l.length ∧ i = .int .i64 k ∧ Hid (∀ i (hi : i < l.length), i < k → l[i] ≠ c) ∧ wr = w) (fun i _ => l.length - (intOf i).toNat)
  case atStart => exact ⟨0, Nat.zero_le _, rfl, fun i hi h => absurd h (by omega), rfl⟩
  case round =>
    obtain ⟨k, hk, rfl, HN, hwr⟩ := hrel
    by_cases hx : k < l.length
    · have t1 : decide (k < l.length) = true := by simpa using hx
      have hs : IntKind.i64.wrap ((k : Int) + 1) = ((k + 1 : Nat) : Int) := by rw [IntKind.wrap_i64]; omega
      obtain ⟨b0, o0, c0, e0, cell0⟩ := hB.out.spot k hx
      obtain ⟨rfl, -⟩ : a = some ⟨b0, o0, none⟩ ∧ cp = c0 := by simpa using e0
      clear e0
      obtain ⟨y, hy⟩ : ∃ y, l[k] = y := ⟨_, rfl⟩
      rw [hy] at cell0
      by_cases hyc : y = c
      · subst hyc
        have hf := atU_some l y k hx hy HN.out
        have HF := Lib.hid hf
        clear hf hy
        go_wp2_with fail
        go_ret
        rw [HF.out]
        exact ⟨rfl, by first | exact hwr.symm | trivial⟩
      · have t2 : ((y.toNat : Int) == (c.toNat : Int)) = false := by
          simp only [beq_eq_false_iff_ne]
          intro e; exact hyc (UInt8.toNat_inj.1 (by omega))
        have hN2 : Hid (∀ i (hi : i < l.length), i < k + 1 → l[i] ≠ c) := by
          intro i hi h
          by_cases e : i = k
          · subst e; rw [hy]; exact hyc
          · exact HN.out i hi (by omega)
        clear hy hyc
        go_wp2_with fail
        go_roundw
        case rel => exact ⟨k + 1, hx, rfl, hN2, by first | exact hwr | trivial⟩
        case measure => simp [intOf]; omega
    · have t1 : decide (k < l.length) = false := by simpa using hx
      have hf := atU_none l c (fun i hi => HN.out i hi (by omega))
      have HF := Lib.hid hf
      clear hf hx
      go_wp2_with fail
      go_ret
      rw [HF.out]
      exact ⟨rfl, by first | exact hwr.symm | trivial⟩
/-- an array of 256 numbers -/
def IA (cs : Array Value) (n : Nat → Nat) : Prop := cs.size = 256 ∧ ∀ x, x < 256 → cs[x]? = some (.int .i64 (n x))
theorem sameD {v : Value} {w : World} {e : Ending} {w' : World} (h : e = .returned v ∧ w = w') : e = .returned v ∧ ∃ n, w' = w.drewN n := ⟨h.1, 0, h.2.symm⟩
theorem u8_of (x : Nat) (hx : x < 256) : IntKind.u8.wrap (x : Int) = ((UInt8.ofNat x).toNat : Int) ∧ (UInt8.ofNat x).toNat = x := by
  have e : (UInt8.ofNat x).toNat = x := by rw [UInt8.toNat_ofNat']; omega
  rw [e, IntKind.wrap_u8']
  exact ⟨by omega, rfl⟩
theorem inL_atU (l : List UInt8) (x : Nat) (hx : x < 256) : inL l x = decide (0 ≤ atU l (UInt8.ofNat x)) := by
  have e := (u8_of x hx).2
  have h := inL_mem l (UInt8.ofNat x)
  rw [e] at h
  rw [h]
  exact decide_eq_decide.2 (atU_in l _).symm
set_option maxHeartbeats 1000000 in
theorem cost12_c (w : World) (cs : Array Value) (n : Nat → Nat) (v : Value) (l : List UInt8) (hA : IA cs n) (hN : ∀ x, n x ≤ 1000000) (hb : Bs w v l) (hl : l.length ≤ 1000) :
    Calls Try.prog 31 #[.agg cs, v] w fun e w' => e = .returned (.int .i64 (cst n l 256)) ∧ Keep [] w w' := by
  obtain ⟨a, cp, rfl, hl1, hc63⟩ := hb.shape
  obtain ⟨ln, hln⟩ : ∃ ln, l.length = ln := ⟨_, rfl⟩
  have hplf : ∀ x, pl l x = if ln = 0 then 8 else if inL l x then 1 + widthN ln else 9 := by intro x; unfold pl; rw [hln]
  have hcle := fun c (hN : ∀ x, n x ≤ 1000000) => cst_le n l 1000000 c hN
  have hc0 : cst n l 0 = 8 * ln := by rw [cst, hln]
  rw [hln] at hb hl hl1 hcle ⊢
  have HPL := Lib.hid hplf; have HCL := Lib.hid hcle; have HC0 := Lib.hid hc0
  have hB := Lib.hid hb; clear hb hln hplf hcle hc0
  have hm0 : IntKind.i64.wrap (8 * (ln : Int)) = 8 * ln := by rw [IntKind.wrap_i64]; omega
  have HA := Lib.hid hA; clear hA
  have HN := Lib.hid hN; clear hN
  have HW := Lib.hid (fun w' => width_c w' ln (by omega))
  have hwl := widthN_le ln
  obtain ⟨wd, hwd⟩ : ∃ wd, widthN ln = wd := ⟨_, rfl⟩
  rw [hwd] at HW hwl
  have HWD := Lib.hid hwd; clear hwd
  go_enter Try.func31, Try.ntmps31
  go_wp2_with fail
  have hBk := Blk.new w cs 46
  have KA : Keep [] w (w.alloc (.cells cs 46)) := (Keep.refl [] w).alloc _
  obtain ⟨g, hg⟩ : ∃ g, w.heap.size = g := ⟨_, rfl⟩
  rw [hg] at hBk ⊢
  generalize w.alloc (.cells cs 46) = w1 at hBk KA ⊢
  go_loopw [5, 6] (fun tv cv wr => ∃ (c t : Nat), c ≤ 256 ∧ cv = .int .i64 c ∧ tv = .int .i64 t ∧ Hid (cst n l c = t) ∧ Blk wr g cs 46 ∧ Keep [] w wr) (fun _ cv _ => 256 - (intOf cv).toNat)
  case atStart => exact ⟨0, 8 * ln, Nat.zero_le _, rfl, by first | rfl | simp, HC0, hBk, KA⟩
  case round =>
    obtain ⟨c, t, hc, rfl, rfl, HC, hBr, KK⟩ := hrel
    by_cases hx : c < 256
    · have t1 : decide (c < 256) = true := by simpa using hx
      have t1' : decide ((c : Int) < 256) = true := by simp; omega
      have hs : IntKind.i64.wrap ((c : Int) + 1) = ((c + 1 : Nat) : Int) := by rw [IntKind.wrap_i64]; omega
      have cell := hBr.cell c _ (HA.out.2 c hx)
      have hnc := HN.out c
      have htb := HCL.out c HN.out
      rw [HC.out] at htb
      have hstep : cst n l (c + 1) = t + n c * pl l c := by rw [cst, HC.out]
      obtain ⟨nc, hncv⟩ : ∃ nc, n c = nc := ⟨_, rfl⟩
      rw [hncv] at cell hnc hstep
      by_cases h0 : ln = 0
      · have t2 : ((ln : Int) == 0) = true := by simp; omega
        have hp : pl l c = 8 := by rw [HPL.out, if_pos h0]
        rw [hp] at hstep
        have hm1 : IntKind.i64.wrap (8 * (nc : Int)) = 8 * nc := by rw [IntKind.wrap_i64]; omega
        have hm2 : IntKind.i64.wrap ((t : Int) + 8 * (nc : Int)) = ((t + nc * 8 : Nat) : Int) := by rw [IntKind.wrap_i64]; omega
        have HS := Lib.hid hstep
        clear hstep hp h0 hncv htb
        go_wp2_with fail
        go_roundw
        case rel => exact ⟨c + 1, t + nc * 8, hx, rfl, rfl, HS.out, hBr, KK⟩
        case measure => simp [intOf]; omega
      · have t2 : ((ln : Int) == 0) = false := by simp; omega
        have hu := u8_of c hx
        have hin := inL_atU l c hx
        have HB2 := Lib.hid (rat12_c wr (.slice a ln cp) l (UInt8.ofNat c) (hB.out.keep KK (by simp)))
        obtain ⟨at1, hat⟩ : ∃ z, atU l (UInt8.ofNat c) = z := ⟨_, rfl⟩
        rw [hat] at HB2 hin
        rw [hu.2] at HB2
        have hBuf := Lib.hid hu; clear hu hat
        by_cases hi : 0 ≤ at1
        · have t3 : decide (0 ≤ at1) = true := by simpa using hi
          have hp : pl l c = 1 + wd := by rw [HPL.out, if_neg h0, hin, t3, if_pos rfl, HWD.out]
          rw [hp] at hstep
          have hnw : nc * (1 + wd) ≤ nc * 6 := Nat.mul_le_mul_left _ (by omega)
          obtain ⟨pr, hpr⟩ : ∃ pr, nc * (1 + wd) = pr := ⟨_, rfl⟩
          rw [hpr] at hstep hnw
          have hm1 : IntKind.i64.wrap (1 + (wd : Int)) = 1 + wd := by rw [IntKind.wrap_i64]; omega
          have hpr2 : (nc : Int) * (1 + (wd : Int)) = pr := by rw [← hpr]; push_cast; rfl
          have hm2 : IntKind.i64.wrap (pr : Int) = pr := by rw [IntKind.wrap_i64]; omega
          have hm3 : IntKind.i64.wrap ((t : Int) + (pr : Int)) = ((t + pr : Nat) : Int) := by rw [IntKind.wrap_i64]; omega
          have HS := Lib.hid hstep
          clear hstep hp h0 hncv htb hin hi hpr hnw
          go_wp2_with fail
          refine HB2.out.mono ?_; rintro e w' ⟨rfl, rfl⟩
          go_wp2_with fail
          go_quiet ((go_at_call 38; exact Calls.quiet_of ((HW.out _).mono fun _ _ => sameD)))
          go_wp2_with fail
          go_roundw
          case rel => exact ⟨c + 1, t + pr, hx, rfl, rfl, HS.out, hBr.drewN _, KK.drewN _⟩
          case measure => simp [intOf]; omega
        · have t3 : decide (0 ≤ at1) = false := by simpa using hi
          have hp : pl l c = 9 := by rw [HPL.out, if_neg h0, hin, t3, if_neg (by simp)]
          rw [hp] at hstep
          have hm1 : IntKind.i64.wrap (9 * (nc : Int)) = 9 * nc := by rw [IntKind.wrap_i64]; omega
          have hm2 : IntKind.i64.wrap ((t : Int) + 9 * (nc : Int)) = ((t + nc * 9 : Nat) : Int) := by rw [IntKind.wrap_i64]; omega
          have HS := Lib.hid hstep
          clear hstep hp h0 hncv htb hin hi
          go_wp2_with fail
          refine HB2.out.mono ?_; rintro e w' ⟨rfl, rfl⟩
          go_wp2_with fail
          go_roundw
          case rel => exact ⟨c + 1, t + nc * 9, hx, rfl, rfl, HS.out, hBr, KK⟩
          case measure => simp [intOf]; omega
    · have t1 : decide (c < 256) = false := by simpa using hx
      have t1' : decide ((c : Int) < 256) = false := by simp; omega
      have hc2 : c = 256 := by omega
      subst hc2
      go_wp2_with fail
      go_ret
      exact ⟨by rw [HC.out]; rfl, KK⟩
end Go.Proofs.Ytlnknnmlepgjfaa
