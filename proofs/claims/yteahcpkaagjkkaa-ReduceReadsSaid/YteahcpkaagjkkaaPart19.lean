/- Texts put together: RefFol RefFol2 FolTal -/
import Derived.Test.YteahcpkaagjkkaaPart5
import Derived.Test.YteahcpkaagjkkaaPart3
import Derived.Test.YteahcpkaagjkkaaPart1
import Derived.Test.YteahcpkaagjkkaaPart6
namespace Go.Proofs.Yteahcpkaagjkkaa
set_option linter.unusedVariables false
set_option linter.unusedSimpArgs false
set_option maxRecDepth 100000
open Go.ChangeShapes Go.WideShapes Go.ChangeAt Go.RowKit

theorem width_c (w : World) (n : Nat) (hn : n ≤ 9223372036854775807) : Calls Try.prog 52 #[.int .i64 n] w fun e w' => e = .returned (.int .i64 (widthN n)) ∧ w = w' := by
  by_cases hb : n < 1 ∨ 32 < n
  · have hf : widthN n = 0 := by unfold widthN; rw [if_pos hb]
    rw [hf]
    by_cases h1 : n < 1
    · have t1 : decide (n < 1) = true := by simpa using h1
      have t1' : decide ((n : Int) < 1) = true := by simp; omega
      clear hb h1 hf
      go_enter Try.func52, Try.ntmps52
      go_wp2
      go_ret
      exact ⟨rfl, rfl⟩
    · have t1 : decide (n < 1) = false := by simpa using h1
      have t1' : decide ((n : Int) < 1) = false := by simp; omega
      have t2' : decide (32 < (n : Int)) = true := by simp; omega
      have t2 : decide (32 < n) = true := by simp; omega
      clear hb h1 hf
      go_enter Try.func52, Try.ntmps52
      go_wp2
      go_ret
      exact ⟨rfl, rfl⟩
  · have t1 : decide (n < 1) = false := by simp; omega
    have t1' : decide ((n : Int) < 1) = false := by simp; omega
    have t2' : decide (32 < (n : Int)) = false := by simp; omega
    have t2 : decide (32 < n) = false := by simp; omega
    have hb1 : 1 ≤ n ∧ n ≤ 32 := by omega
    clear hb
    go_enter Try.func52, Try.ntmps52
    go_wp2_with fail
    go_loopw [3, 4] (fun kv tv wr => ∃ (k two : Nat), kv = .int .i64 k ∧ tv = .int .i64 two ∧ two = 2 ^ k ∧ 1 ≤ k ∧ k ≤ 5 ∧ (k = 1 ∨ 2 ^ (k - 1) < n) ∧ wr = w) (fun kv _ _ => 6 - (intOf kv).toNat)
    case atStart => exact ⟨1, 2, rfl, rfl, rfl, by omega, by omega, .inl rfl, rfl⟩
    case round =>
      obtain ⟨k, two, rfl, rfl, ht, hk1, hk2, hk3, hwr⟩ := hrel
      have h5 : (2 : Nat) ^ k ≤ 2 ^ 5 := Nat.pow_le_pow_right (by decide) hk2
      have HT := Lib.hid ht
      have hb2 : two ≤ 32 := by omega
      by_cases hx : two < n
      · have t3 : decide (two < n) = true := by simpa using hx
        have hm : IntKind.i64.wrap ((two : Int) * 2) = ((2 * two : Nat) : Int) := by rw [IntKind.wrap_i64]; omega
        have hs : IntKind.i64.wrap ((k : Int) + 1) = ((k + 1 : Nat) : Int) := by rw [IntKind.wrap_i64]; omega
        have hk4 : k < 5 := by
          rcases Nat.lt_or_ge k 5 with h | h
          · exact h
          · have : k = 5 := by omega
            subst this; simp at ht; omega
        clear ht h5
        go_wp2_with fail
        go_roundw
        case rel => exact ⟨k + 1, 2 * two, rfl, rfl, by rw [Nat.pow_succ, ← HT.out]; omega, by omega, by omega, .inr (by rw [Nat.add_sub_cancel, ← HT.out]; exact hx), trivial⟩
        case measure => simp [intOf]; omega
      · have t3 : decide (two < n) = false := by simpa using hx
        have hf := widthN_of n k hb1.1 hb1.2 hk1 hk2 (by rw [← ht]; omega) hk3
        have HF := Lib.hid hf
        clear hf ht h5 hx
        go_wp2_with fail
        go_ret
        rw [HF.out]
        exact ⟨rfl, by first | exact hwr.symm | trivial⟩
theorem atU_none (l : List UInt8) (c : UInt8) (h : ∀ i (hi : i < l.length), l[i] ≠ c) : atU l c = -1 := by
  unfold atU
  rw [List.findIdx?_eq_none_iff.2]
  intro x hx
  obtain ⟨i, hi, rfl⟩ := List.getElem_of_mem hx
  simpa using h i hi
theorem atU_some (l : List UInt8) (c : UInt8) (k : Nat) (hk : k < l.length) (hc : l[k] = c) (h : ∀ i (hi : i < l.length), i < k → l[i] ≠ c) : atU l c = k := by
  unfold atU
  have : l.findIdx? (· == c) = some k := by
    rw [List.findIdx?_eq_some_iff_getElem]
    exact ⟨hk, by simpa using hc, fun j hj => by simpa using h j (by omega) hj⟩
  rw [this]
theorem rat12_c (w : World) (v : Value) (l : List UInt8) (c : UInt8) (hb : Bs w v l) : Calls Try.prog 70 #[v, .int .u8 c.toNat] w fun e w' => e = .returned (.int .i64 (atU l c)) ∧ w = w' := by
  obtain ⟨a, cp, rfl, hl, hc63⟩ := hb.shape
  have hB := Lib.hid hb; clear hb
  have hln : l.length ≤ 9223372036854775807 := by unfold maxLen at hc63; omega
  go_enter Try.func70, Try.ntmps70
  go_wp2_with fail
  go_loopw [5] (fun i wr => ∃ k : Nat, k ≤ l.length ∧ i = .int .i64 k ∧ Hid (∀ i (hi : i < l.length), i < k → l[i] ≠ c) ∧ wr = w) (fun i _ => l.length - (intOf i).toNat)
  case atStart => exact ⟨0, Nat.zero_le _, rfl, fun i hi h => absurd h (by omega), rfl⟩
  case round =>
    obtain ⟨k, hk, rfl, HN, hwr⟩ := hrel
    by_cases hx : k < l.length
    · have t1 : decide (k < l.length) = true := by simpa using hx
      have hs : IntKind.i64.wrap ((k : Int) + 1) = ((k + 1 : Nat) : Int) := by rw [IntKind.wrap_i64]; omega
      obtain ⟨b0, o0, c0, e0, cell0⟩ := hB.out.spot k hx
      obtain ⟨rfl, -⟩ : a = some ⟨b0, o0, none⟩ ∧ cp = c0 := by simpa using e0
      clear e0
      obtain ⟨y, hy⟩ : ∃ y, l[k] = y := ⟨_, rfl⟩
      rw [hy] at cell0
      by_cases hyc : y = c
      · subst hyc
        have hf := atU_some l y k hx hy HN.out
        have HF := Lib.hid hf
        clear hf hy
        go_wp2_with fail
        go_ret
        rw [HF.out]
        exact ⟨rfl, by first | exact hwr.symm | trivial⟩
      · have t2 : ((y.toNat : Int) == (c.toNat : Int)) = false := by
          simp only [beq_eq_false_iff_ne]
          intro e; exact hyc (UInt8.toNat_inj.1 (by omega))
        have hN2 : Hid (∀ i (hi : i < l.length), i < k + 1 → l[i] ≠ c) := by
          intro i hi h
          by_cases e : i = k
          · subst e; rw [hy]; exact hyc
          · exact HN.out i hi (by omega)
        clear hy hyc
        go_wp2_with fail
        go_roundw
        case rel => exact ⟨k + 1, hx, rfl, hN2, by first | exact hwr | trivial⟩
        case measure => simp [intOf]; omega
    · have t1 : decide (k < l.length) = false := by simpa using hx
      have hf := atU_none l c (fun i hi => HN.out i hi (by omega))
      have HF := Lib.hid hf
      clear hf hx
      go_wp2_with fail
      go_ret
      rw [HF.out]
      exact ⟨rfl, by first | exact hwr.symm | trivial⟩
/-- an array of 256 numbers -/
def IA (cs : Array Value) (n : Nat → Nat) : Prop := cs.size = 256 ∧ ∀ x, x < 256 → cs[x]? = some (.int .i64 (n x))
theorem sameD {v : Value} {w : World} {e : Ending} {w' : World} (h : e = .returned v ∧ w = w') : e = .returned v ∧ ∃ n, w' = w.drewN n := ⟨h.1, 0, h.2.symm⟩
theorem u8_of (x : Nat) (hx : x < 256) : IntKind.u8.wrap (x : Int) = ((UInt8.ofNat x).toNat : Int) ∧ (UInt8.ofNat x).toNat = x := by
  have e : (UInt8.ofNat x).toNat = x := by rw [UInt8.toNat_ofNat']; omega
  rw [e, IntKind.wrap_u8']
  exact ⟨by omega, rfl⟩
theorem inL_atU (l : List UInt8) (x : Nat) (hx : x < 256) : inL l x = decide (0 ≤ atU l (UInt8.ofNat x)) := by
  have e := (u8_of x hx).2
  have h := inL_mem l (UInt8.ofNat x)
  rw [e] at h
  rw [h]
  exact decide_eq_decide.2 (atU_in l _).symm
set_option maxHeartbeats 1000000 in
theorem cost12_c (w : World) (cs : Array Value) (n : Nat → Nat) (v : Value) (l : List UInt8) (hA : IA cs n) (hN : ∀ x, n x ≤ 1000000) (hb : Bs w v l) (hl : l.length ≤ 1000) :
    Calls Try.prog 98 #[.agg cs, v] w fun e w' => e = .returned (.int .i64 (cst n l 256)) ∧ Keep [] w w' := by
  obtain ⟨a, cp, rfl, hl1, hc63⟩ := hb.shape
  obtain ⟨ln, hln⟩ : ∃ ln, l.length = ln := ⟨_, rfl⟩
  have hplf : ∀ x, pl l x = if ln = 0 then 8 else if inL l x then 1 + widthN ln else 9 := by intro x; unfold pl; rw [hln]
  have hcle := fun c (hN : ∀ x, n x ≤ 1000000) => cst_le n l 1000000 c hN
  have hc0 : cst n l 0 = 8 * ln := by rw [cst, hln]
  rw [hln] at hb hl hl1 hcle ⊢
  have HPL := Lib.hid hplf; have HCL := Lib.hid hcle; have HC0 := Lib.hid hc0
  have hB := Lib.hid hb; clear hb hln hplf hcle hc0
  have hm0 : IntKind.i64.wrap (8 * (ln : Int)) = 8 * ln := by rw [IntKind.wrap_i64]; omega
  have HA := Lib.hid hA; clear hA
  have HN := Lib.hid hN; clear hN
  have HW := Lib.hid (fun w' => width_c w' ln (by omega))
  have hwl := widthN_le ln
  obtain ⟨wd, hwd⟩ : ∃ wd, widthN ln = wd := ⟨_, rfl⟩
  rw [hwd] at HW hwl
  have HWD := Lib.hid hwd; clear hwd
  go_enter Try.func98, Try.ntmps98
  go_wp2_with fail
  have hBk := Blk.new w cs 113
  have KA : Keep [] w (w.alloc (.cells cs 113)) := (Keep.refl [] w).alloc _
  obtain ⟨g, hg⟩ : ∃ g, w.heap.size = g := ⟨_, rfl⟩
  rw [hg] at hBk ⊢
  generalize w.alloc (.cells cs 113) = w1 at hBk KA ⊢
  go_loopw [5, 6] (fun tv cv wr => ∃ (c t : Nat), c ≤ 256 ∧ cv = .int .i64 c ∧ tv = .int .i64 t ∧ Hid (cst n l c = t) ∧ Blk wr g cs 113 ∧ Keep [] w wr) (fun _ cv _ => 256 - (intOf cv).toNat)
  case atStart => exact ⟨0, 8 * ln, Nat.zero_le _, rfl, by first | rfl | simp, HC0, hBk, KA⟩
  case round =>
    obtain ⟨c, t, hc, rfl, rfl, HC, hBr, KK⟩ := hrel
    by_cases hx : c < 256
    · have t1 : decide (c < 256) = true := by simpa using hx
      have t1' : decide ((c : Int) < 256) = true := by simp; omega
      have hs : IntKind.i64.wrap ((c : Int) + 1) = ((c + 1 : Nat) : Int) := by rw [IntKind.wrap_i64]; omega
      have cell := hBr.cell c _ (HA.out.2 c hx)
      have hnc := HN.out c
      have htb := HCL.out c HN.out
      rw [HC.out] at htb
      have hstep : cst n l (c + 1) = t + n c * pl l c := by rw [cst, HC.out]
      obtain ⟨nc, hncv⟩ : ∃ nc, n c = nc := ⟨_, rfl⟩
      rw [hncv] at cell hnc hstep
      by_cases h0 : ln = 0
      · have t2 : ((ln : Int) == 0) = true := by simp; omega
        have hp : pl l c = 8 := by rw [HPL.out, if_pos h0]
        rw [hp] at hstep
        have hm1 : IntKind.i64.wrap (8 * (nc : Int)) = 8 * nc := by rw [IntKind.wrap_i64]; omega
        have hm2 : IntKind.i64.wrap ((t : Int) + 8 * (nc : Int)) = ((t + nc * 8 : Nat) : Int) := by rw [IntKind.wrap_i64]; omega
        have HS := Lib.hid hstep
        clear hstep hp h0 hncv htb
        go_wp2_with fail
        go_roundw
        case rel => exact ⟨c + 1, t + nc * 8, hx, rfl, rfl, HS.out, hBr, KK⟩
        case measure => simp [intOf]; omega
      · have t2 : ((ln : Int) == 0) = false := by simp; omega
        have hu := u8_of c hx
        have hin := inL_atU l c hx
        have HB2 := Lib.hid (rat12_c wr (.slice a ln cp) l (UInt8.ofNat c) (hB.out.keep KK (by simp)))
        obtain ⟨at1, hat⟩ : ∃ z, atU l (UInt8.ofNat c) = z := ⟨_, rfl⟩
        rw [hat] at HB2 hin
        rw [hu.2] at HB2
        have hBuf := Lib.hid hu; clear hu hat
        by_cases hi : 0 ≤ at1
        · have t3 : decide (0 ≤ at1) = true := by simpa using hi
          have hp : pl l c = 1 + wd := by rw [HPL.out, if_neg h0, hin, t3, if_pos rfl, HWD.out]
          rw [hp] at hstep
          have hnw : nc * (1 + wd) ≤ nc * 6 := Nat.mul_le_mul_left _ (by omega)
          obtain ⟨pr, hpr⟩ : ∃ pr, nc * (1 + wd) = pr := ⟨_, rfl⟩
          rw [hpr] at hstep hnw
          have hm1 : IntKind.i64.wrap (1 + (wd : Int)) = 1 + wd := by rw [IntKind.wrap_i64]; omega
          have hpr2 : (nc : Int) * (1 + (wd : Int)) = pr := by rw [← hpr]; push_cast; rfl
          have hm2 : IntKind.i64.wrap (pr : Int) = pr := by rw [IntKind.wrap_i64]; omega
          have hm3 : IntKind.i64.wrap ((t : Int) + (pr : Int)) = ((t + pr : Nat) : Int) := by rw [IntKind.wrap_i64]; omega
          have HS := Lib.hid hstep
          clear hstep hp h0 hncv htb hin hi hpr hnw
          go_wp2_with fail
          refine HB2.out.mono ?_; rintro e w' ⟨rfl, rfl⟩
          go_wp2_with fail
          go_quiet ((go_at_call 52; exact Calls.quiet_of ((HW.out _).mono fun _ _ => sameD)))
          go_wp2_with fail
          go_roundw
          case rel => exact ⟨c + 1, t + pr, hx, rfl, rfl, HS.out, hBr.drewN _, KK.drewN _⟩
          case measure => simp [intOf]; omega
        · have t3 : decide (0 ≤ at1) = false := by simpa using hi
          have hp : pl l c = 9 := by rw [HPL.out, if_neg h0, hin, t3, if_neg (by simp)]
          rw [hp] at hstep
          have hm1 : IntKind.i64.wrap (9 * (nc : Int)) = 9 * nc := by rw [IntKind.wrap_i64]; omega
          have hm2 : IntKind.i64.wrap ((t : Int) + 9 * (nc : Int)) = ((t + nc * 9 : Nat) : Int) := by rw [IntKind.wrap_i64]; omega
          have HS := Lib.hid hstep
          clear hstep hp h0 hncv htb hin hi
          go_wp2_with fail
          refine HB2.out.mono ?_; rintro e w' ⟨rfl, rfl⟩
          go_wp2_with fail
          go_roundw
          case rel => exact ⟨c + 1, t + nc * 9, hx, rfl, rfl, HS.out, hBr, KK⟩
          case measure => simp [intOf]; omega
    · have t1 : decide (c < 256) = false := by simpa using hx
      have t1' : decide ((c : Int) < 256) = false := by simp; omega
      have hc2 : c = 256 := by omega
      subst hc2
      go_wp2_with fail
      go_ret
      exact ⟨by rw [HC.out]; rfl, KK⟩
end Go.Proofs.Yteahcpkaagjkkaa
namespace Go.Proofs.Yteahcpkaagjkkaa
set_option linter.unusedVariables false
set_option linter.unusedSimpArgs false
set_option maxRecDepth 100000
open Go.ChangeShapes Go.WideShapes Go.ChangeAt Go.RowKit

set_option maxHeartbeats 2000000 in
theorem behind12_c (w : World) (v : Value) (b : List UInt8) (c : UInt8) (hb : Bs w v b) (hl : b.length ≤ 1000000) : Calls Try.prog 97 #[v, .int .u8 c.toNat] w fun e w' => e = .returned (.agg (AL (cnB 0 b c.toNat))) ∧ Keep [] w w' := by
  have hz := (zero_of_info (P := Try.prog) alInfo).1
  have hsz := (zero_of_info (P := Try.prog) alInfo).2
  rw [← AL_zero] at hz
  have KA : Keep [] w ((w.alloc (.cells (AL fun _ => 0) 113)).alloc (.cells (AL fun _ => 0) 113)) := ((Keep.refl [] w).alloc _).alloc _
  have hb0 : Blk ((w.alloc (.cells (AL fun _ => 0) 113)).alloc (.cells (AL fun _ => 0) 113)) w.heap.size (AL fun _ => 0) 113 := (Blk.new w _ _).alloc _
  have hb1 : Blk ((w.alloc (.cells (AL fun _ => 0) 113)).alloc (.cells (AL fun _ => 0) 113)) (w.heap.size + 1) (AL fun _ => 0) 113 := by
    have := Blk.new (w.alloc (.cells (AL fun _ => 0) 113)) (AL fun _ => 0) 113
    simpa using this
  have HB := Lib.hid hb
  obtain ⟨a, cp, rfl, _, _⟩ := hb.shape
  clear hb
  generalize hZ : AL (fun _ => 0) = Z at hz hb0 hb1 KA
  have HZ := Lib.hid hZ
  have HS := Lib.hid hsz
  clear hZ hsz
  go_enter Try.func97, Try.ntmps97
  go_wp2_with fail
  go_loopw [6, 7] (fun lv i wr => ∃ (k : Nat) (f : Nat → Nat) (p : UInt8), k ≤ b.length ∧ i = .int .i64 k ∧ lv = .int .u8 p.toNat ∧ Blk wr (w.heap.size + 1) (AL f) 113 ∧ Blk wr w.heap.size Z 113 ∧ Keep [] w wr ∧ Hid (∀ x, f x + cnB p (b.drop k) c.toNat x = cnB 0 b c.toNat x)) (fun _ i _ => b.length - (intOf i).toNat)
  case atStart => exact ⟨0, fun _ => 0, 0, by omega, rfl, rfl, by rw [HZ.out]; exact hb1, hb0, KA, fun x => by simp⟩
  case round =>
    obtain ⟨k, f, p, hk, rfl, rfl, h1, h0, KK, HF⟩ := hrel
    by_cases hx : k < b.length
    · have t1 : decide (k < b.length) = true := by simpa using hx
      have hs : IntKind.i64.wrap ((k : Int) + 1) = ((k + 1 : Nat) : Int) := by rw [IntKind.wrap_i64]; omega
      obtain ⟨b0, o0, c0, e0, cell0⟩ := (HB.out.keep KK (by simp)).spot k hx
      obtain ⟨rfl, -⟩ : a = some ⟨b0, o0, none⟩ ∧ cp = c0 := by simpa using e0
      clear e0
      obtain ⟨y, hy⟩ : ∃ y, b[k] = y := ⟨_, rfl⟩
      rw [hy] at cell0
      have hdrop : b.drop k = y :: b.drop (k + 1) := by rw [List.drop_eq_getElem_cons hx, hy]
      have hstep := HF.out
      rw [hdrop] at hstep
      simp only [cnB] at hstep
      have HST := Lib.hid hstep
      have hfy : f y.toNat ≤ 1000000 := by
        have h1 := hstep y.toNat
        have := cnB_le 0 b c.toNat y.toNat
        omega
      have hy8 := y.toNat_lt
      have hy9 : y.toNat < 256 := by simpa using hy8
      have hy10 : (y.toNat : Int) < 256 := by omega
      clear hdrop hstep hy hy8
      by_cases hpc : p = c
      · subst hpc
        have cc := h1.cell y.toNat _ (AL_get f y.toNat hy9)
        have ff := h1.free y.toNat
        have hsum : IntKind.i64.wrap ((f y.toNat : Int) + 1) = (f y.toNat : Int) + 1 := by rw [IntKind.wrap_i64]; omega
        go_upto_region 7 with fail
        go_still_tail 12, (by kernel_rfl)
        have K2 : Keep [] wr wr.drew := (Keep.refl [] wr).drew
        have h1' := h1.keep K2 (by simp)
        have h0' := h0.keep K2 (by simp)
        have KK' := KK.drew
        have cell2 := K2.cell cell0 (by simp)
        change wpList _ _ _ _ _ wr.drew
        generalize wr.drew = w2 at h1' h0' KK' cell2 ⊢
        clear cc ff cell0 h1 h0 KK K2
        have cc := h1'.cell y.toNat _ (AL_get f y.toNat hy9)
        have ff := h1'.free y.toNat
        have e1 : (f y.toNat : Int) + 1 = ((f y.toNat + 1 : Nat) : Int) := by omega
        have hs1 : Blk (w2.setCell ⟨w.heap.size + 1, y.toNat, none⟩ (.int .i64 ((f y.toNat : Int) + 1))) (w.heap.size + 1) (AL fun i => if i = y.toNat then f y.toNat + 1 else f i) 113 := by
          have := h1'.set y.toNat (.int .i64 (f y.toNat + 1 : Nat))
          rw [AL_set _ _ _ hy9] at this
          rw [e1]; exact this
        clear e1
        have h0'' : Blk (w2.setCell ⟨w.heap.size + 1, y.toNat, none⟩ (.int .i64 ((f y.toNat : Int) + 1))) w.heap.size Z 113 := h0'.other (by simp) _
        have KC : Keep [] w (w2.setCell ⟨w.heap.size + 1, y.toNat, none⟩ (.int .i64 ((f y.toNat : Int) + 1))) := KK'.setCell (.inr (by simp)) _
        have cell3 : (w2.setCell ⟨w.heap.size + 1, y.toNat, none⟩ (.int .i64 ((f y.toNat : Int) + 1))).cell? ⟨b0, o0 + k, none⟩ = some (.int .u8 y.toNat) := by
          have hlt : b0 < w.heap.size := HB.out.lt (by intro e; rw [e] at hx; simp at hx) b0 rfl
          exact Keep.cell (S := [w.heap.size + 1]) ((Keep.refl _ w2).setCell (by simp) _) cell2 (by simp; omega)
        go_wp2_with fail
        go_roundw
        case rel =>
          refine ⟨k + 1, _, y, hx, rfl, rfl, hs1, h0'', KC, fun x => ?_⟩
          have := HST.out x
          by_cases e : x = y.toNat
          · subst e; rw [if_pos rfl]; rw [if_pos ⟨rfl, rfl⟩] at this; omega
          · rw [if_neg e]; rw [if_neg (fun h => e h.2.symm)] at this; omega
        case measure => simp [intOf]; omega
      · have t2 : ((p.toNat : Int) == (c.toNat : Int)) = false := by
          simp only [beq_eq_false_iff_ne]
          intro e; exact hpc (UInt8.toNat_inj.1 (by omega))
        have hne : ¬ p.toNat = c.toNat := fun e => hpc (UInt8.toNat_inj.1 e)
        have HNE := Lib.hid hne
        clear hpc hne
        go_wp2_with fail
        go_roundw
        case rel => exact ⟨k + 1, f, y, hx, rfl, rfl, h1, h0, KK, fun x => by have := HST.out x; rw [if_neg (fun e => HNE.out e.1)] at this; omega⟩
        case measure => simp [intOf]; omega
    · have t1 : decide (k < b.length) = false := by simpa using hx
      have hfe : f = cnB 0 b c.toNat := by
        funext x
        have := HF.out x
        rw [List.drop_of_length_le (by omega)] at this
        simpa [cnB] using this
      rw [hfe] at h1
      clear hx HF hfe
      have hz256 : Z.size = 256 := by rw [← HZ.out, AL_size]
      have hb2 := h0.setRow (AL (cnB 0 b c.toNat))
      have K2 : Keep [] w (wr.setRow w.heap.size (AL (cnB 0 b c.toNat))) := KK.trans (Keep.setRow _) (by simp)
      go_wp2_with (first | refine wpList_loadA256 rfl _ rfl _ rfl _ h1 ?_ | refine wpList_storeA256 rfl _ _ rfl _ _ rfl rfl _ _ h0 hz256 ?_)
      refine bodyPost_ret (results_cell256 rfl _ rfl hb2) rfl ?_
      exact ⟨rfl, K2⟩
end Go.Proofs.Yteahcpkaagjkkaa
namespace Go.Proofs.Yteahcpkaagjkkaa
set_option linter.unusedVariables false
set_option linter.unusedSimpArgs false
set_option maxRecDepth 100000
open Go.ChangeShapes Go.WideShapes Go.ChangeAt Go.RowKit

set_option maxHeartbeats 2000000 in
theorem tally_c (w : World) (v : Value) (b : List UInt8) (hb : Bs w v b) (hl : b.length ≤ 1000000) : Calls Try.prog 59 #[v] w fun e w' => ∃ g, e = .returned (.pointer (some ⟨g, 0, none⟩)) ∧ w.heap.size ≤ g ∧ Blk w' g (TA (cnB 0 b)) 142 ∧ Keep [] w w' := by
  have hz := (zero_of_info (P := Try.prog) taInfo).1
  have hsz := (zero_of_info (P := Try.prog) taInfo).2
  rw [TA_zero] at hz
  have KA : Keep [] w (w.alloc (.cells (TA fun _ _ => 0) 142)) := (Keep.refl [] w).alloc _
  have hb1 : Blk (w.alloc (.cells (TA fun _ _ => 0) 142)) w.heap.size (TA fun _ _ => 0) 142 := Blk.new w _ _
  have HB := Lib.hid hb
  obtain ⟨a, cp, rfl, _, _⟩ := hb.shape
  clear hb
  generalize hZ : TA (fun _ _ => 0) = Z at hz hb1 KA
  have HZ := Lib.hid hZ
  have HS := Lib.hid hsz
  clear hZ hsz
  go_enter Try.func59, Try.ntmps59
  go_wp2_with fail
  go_loopw [4, 6, 9] (fun lv uv i wr => ∃ (k : Nat) (f : Nat → Nat → Nat) (p : UInt8), k ≤ b.length ∧ i = .int .i64 k ∧ lv = .int .u8 p.toNat ∧ Blk wr w.heap.size (TA f) 142 ∧ Keep [] w wr ∧ Hid (∀ c x, f c x + cnB p (b.drop k) c x = cnB 0 b c x)) (fun _ _ i _ => b.length - (intOf i).toNat)
  case atStart => exact ⟨0, fun _ _ => 0, 0, by omega, rfl, rfl, by rw [HZ.out]; exact hb1, KA, fun c x => by simp⟩
  case round =>
    obtain ⟨k, f, p, hk, rfl, rfl, h1, KK, HF⟩ := hrel
    by_cases hx : k < b.length
    · have t1 : decide (k < b.length) = true := by simpa using hx
      have hs : IntKind.i64.wrap ((k : Int) + 1) = ((k + 1 : Nat) : Int) := by rw [IntKind.wrap_i64]; omega
      obtain ⟨b0, o0, c0, e0, cell0⟩ := (HB.out.keep KK (by simp)).spot k hx
      obtain ⟨rfl, -⟩ : a = some ⟨b0, o0, none⟩ ∧ cp = c0 := by simpa using e0
      clear e0
      obtain ⟨y, hy⟩ : ∃ y, b[k] = y := ⟨_, rfl⟩
      rw [hy] at cell0
      have hdrop : b.drop k = y :: b.drop (k + 1) := by rw [List.drop_eq_getElem_cons hx, hy]
      have hstep := HF.out
      rw [hdrop] at hstep
      simp only [cnB] at hstep
      have HST := Lib.hid hstep
      obtain ⟨P, hP⟩ : ∃ P, p.toNat = P := ⟨_, rfl⟩
      obtain ⟨Y, hY⟩ : ∃ Y, y.toNat = Y := ⟨_, rfl⟩
      have hp9 : P < 256 := by have := p.toNat_lt; omega
      have hy9 : Y < 256 := by have := y.toNat_lt; omega
      have hp10 : (P : Int) < 256 := by omega
      have hy10 : (Y : Int) < 256 := by omega
      obtain ⟨fv, hfv⟩ : ∃ fv, f P Y = fv := ⟨_, rfl⟩
      have hfy : fv ≤ 1000000 := by
        have h1 := hstep P Y
        have := cnB_le 0 b P Y
        omega
      have HPY : Hid (p.toNat = P ∧ y.toNat = Y ∧ f P Y = fv) := ⟨hP, hY, hfv⟩
      have cc := h1.cell (P * 256 + Y) _ (TA_at f P Y hp9 hy9)
      rw [hfv] at cc
      rw [hY] at cell0
      rw [hP]
      clear hdrop hstep hy hP hY hfv
      have ff := h1.free (P * 256 + Y)
      have hsum : IntKind.i64.wrap ((fv : Int) + 1) = (fv : Int) + 1 := by rw [IntKind.wrap_i64]; omega
      have h1' : Hid (Blk wr.drew w.heap.size (TA f) 142) := h1.keep ((Keep.refl [] wr).drew) (by simp)
      have KK' := Lib.hid KK.drew
      go_upto_region 6 with fail
      go_still_tail 8, (by kernel_rfl)
      change wpList _ _ _ _ _ wr.drew
      generalize wr.drew = w2 at h1' KK' ⊢
      clear cc ff cell0 h1 KK
      have cc := h1'.out.cell (P * 256 + Y) _ (TA_at f P Y hp9 hy9)
      have ff := h1'.out.free (P * 256 + Y)
      have e1 : (fv : Int) + 1 = ((fv + 1 : Nat) : Int) := by omega
      have hs1 : Hid (Blk (w2.setCell ⟨w.heap.size, P * 256 + Y, none⟩ (.int .i64 ((fv : Int) + 1))) w.heap.size (TA fun i j => if i = P ∧ j = Y then fv + 1 else f i j) 142) := by
        have := h1'.out.set (P * 256 + Y) (.int .i64 (fv + 1 : Nat))
        rw [TA_set _ _ _ _ hp9 hy9] at this
        rw [e1]; exact this
      clear e1
      have KC : Hid (Keep [] w (w2.setCell ⟨w.heap.size, P * 256 + Y, none⟩ (.int .i64 ((fv : Int) + 1)))) := KK'.out.setCell (.inr (by simp)) _
      go_wp2_with fail
      go_roundw
      case rel =>
        refine ⟨k + 1, _, y, hx, rfl, by rw [HPY.out.2.1], hs1.out, KC.out, fun c x => ?_⟩
        have := HST.out c x
        obtain ⟨k1, k2, k3⟩ := HPY.out
        rw [k1, k2] at this
        by_cases e : c = P ∧ x = Y
        · obtain ⟨rfl, rfl⟩ := e; rw [if_pos ⟨rfl, rfl⟩]; rw [if_pos ⟨rfl, rfl⟩] at this; omega
        · rw [if_neg e]; rw [if_neg (fun h => e ⟨h.1.symm, h.2.symm⟩)] at this; omega
      case measure => simp [intOf]; omega
    · have t1 : decide (k < b.length) = false := by simpa using hx
      have hfe : f = cnB 0 b := by
        funext c x
        have := HF.out c x
        rw [List.drop_of_length_le (by omega)] at this
        simpa [cnB] using this
      rw [hfe] at h1
      clear hx HF hfe
      have h1 := Lib.hid h1
      go_wp2_with fail
      go_ret
      exact ⟨_, rfl, Nat.le_refl _, h1.out, KK⟩
end Go.Proofs.Yteahcpkaagjkkaa
