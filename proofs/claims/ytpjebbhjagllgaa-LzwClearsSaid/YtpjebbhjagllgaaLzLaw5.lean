/- The walk of the law LzwClears: it returns true at every input. -/
import Derived.Test.YtpjebbhjagllgaaLzLaw3
import Derived.Test.YtpjebbhjagllgaaLzMath3
import Derived.Laws.StructEq
namespace Go.Proofs.Ytpjebbhjagllgaa
set_option linter.unusedVariables false
set_option linter.unusedSimpArgs false
open Go.ChangeShapes Go.WideShapes Go.ChangeAt Go.RowKit

theorem lz_linkv (w : World) (q : Nat) (bs : List Nat) (s : LT) (c : Int) (hc : (Lit.int .i64 c).wf = true) (h : LTab w q bs s) : Calls Try.prog 21 #[.pointer (some ⟨q, 0, none⟩), .int .i64 c] w fun e w' => e = .returned (.tuple #[.agg #[.int .i64 (lp s.rows c : Nat), .int .u8 (ly s.rows c).toNat], .bool (hs s.rows c)]) ∧ Keep [] w w' := by
  rcases atI_cases s.rows c with hat | ⟨i, hat, hi, _⟩
  · have hn : lk s.rows c = none := (lk_at _ _).2 (by omega)
    have := lz_nolink w q bs s c hc h (by omega)
    unfold lp ly hs
    rw [hn]; exact this
  · have hn : lk s.rows c = some (rw' s.rows i) := by unfold lk; rw [if_neg (by omega), hat, Int.toNat_natCast]
    have := lz_link w q bs s c hc h i hat
    unfold lp ly hs
    rw [hn]; exact this
/-- a link; a bool -/
def EK : El (Nat × UInt8) := ⟨2, 44, 41, 16, fun r => [.int .i64 r.1, .int .u8 r.2.toNat]⟩
theorem EKg : EK.Good := by
  refine ⟨by decide, fun _ => rfl, fun x u hu => ?_, by kernel_rfl, Try.underlying41, by decide⟩
  simp only [EK, List.mem_cons, List.not_mem_nil, or_false] at hu
  rcases hu with rfl | rfl <;> rfl
def EBo : El Bool := ⟨1, 4, 42, 1, fun b => [.bool b]⟩
theorem EBg : EBo.Good := by
  refine ⟨by decide, fun _ => rfl, fun x u hu => ?_, by kernel_rfl, Try.underlying42, by decide⟩
  simp only [EBo, List.mem_cons, List.not_mem_nil, or_false] at hu
  subst hu; rfl
def lkL (s : LT) (n : Nat) : List (Nat × UInt8) := (List.range n).map fun (j : Nat) => (lp s.rows (j : Nat), ly s.rows (j : Nat))
def hsL (s : LT) (n : Nat) : List Bool := (List.range n).map fun (j : Nat) => hs s.rows (j : Nat)
theorem lkL_succ (s : LT) (n : Nat) : lkL s (n + 1) = lkL s n ++ [(lp s.rows (n : Nat), ly s.rows (n : Nat))] := by simp [lkL, List.range_succ]
theorem hsL_succ (s : LT) (n : Nat) : hsL s (n + 1) = hsL s n ++ [hs s.rows (n : Nat)] := by simp [hsL, List.range_succ]
theorem lkL_len (s : LT) (n : Nat) : (lkL s n).length = n := by simp [lkL]
theorem hsL_len (s : LT) (n : Nat) : (hsL s n).length = n := by simp [hsL]
/-- two rows, side by side, apart from all that stood in w1 -/
structure TwoR (W w1 w : World) (hv bv : Value) (s : LT) (n : Nat) : Prop where
  h : OwnG EK w hv (lkL s n)
  b : OwnG EBo w bv (hsL s n)
  k : Keep [] w1 w
  fh : ∀ x, hv.ownBlock = some x → w1.heap.size ≤ x
  fb : ∀ x, bv.ownBlock = some x → w1.heap.size ≤ x
  ap : ∀ x, hv.ownBlock = some x → bv.ownBlock = some x → False
theorem TwoR.step {W w1 wr wC w4 wD w5 : World} {hv bv v4 v5 : Value} {s : LT} {i : Nat} (H : TwoR W w1 wr hv bv s i) (kC : Keep [] wr wC) (ho4 : OwnG EK w4 v4 (lkL s (i + 1))) (hk4 : Keep hv.ownBlock.toList wC w4) (hb4 : ∀ b, v4.ownBlock = some b → hv.ownBlock = some b ∨ b = wC.heap.size)
    (kD : Keep [] w4 wD) (ho5 : OwnG EBo w5 v5 (hsL s (i + 1))) (hk5 : Keep bv.ownBlock.toList wD w5) (hb5 : ∀ b, v5.ownBlock = some b → bv.ownBlock = some b ∨ b = wD.heap.size) : TwoR W w1 w5 v4 v5 s (i + 1) := by
  have z1 := H.k.size
  have z2 := kC.size
  have z3 := hk4.size
  have z4 := kD.size
  have hbl : ∀ x, bv.ownBlock = some x → x < wC.heap.size := fun x hx => by have := H.b.lt x hx; omega
  have f4 : ∀ x, v4.ownBlock = some x → w1.heap.size ≤ x := fun x hx => by
    rcases hb4 x hx with h | h
    · exact H.fh x h
    · omega
  refine ⟨(ho4.keep kD (by simp)).keep hk5 (fun b hb hm => ?_), ho5, ((H.k.andThen kC).trans hk4 (fun x hx => .inr (H.fh x (by simpa using hx)))).andThen kD |>.trans hk5 (fun x hx => .inr (H.fb x (by simpa using hx))), f4, fun x hx => ?_, fun x hx hx5 => ?_⟩
  · have hm' : bv.ownBlock = some b := by simpa using hm
    rcases hb4 b hb with h | h
    · exact H.ap b h hm'
    · have := hbl b hm'; omega
  · rcases hb5 x hx with h | h
    · exact H.fb x h
    · omega
  · have hl := ho4.lt x hx
    rcases hb5 x hx5 with h | h
    · rcases hb4 x hx with h2 | h2
      · exact H.ap x h2 h
      · have := hbl x h; omega
    · omega
set_option maxRecDepth 100000 in
set_option maxHeartbeats 4000000 in
theorem lzclears_w (W : World) (v0 : Value) (x : DzL) (h0 : isDzs W v0 x) : Calls Try.prog 5 #[v0] W fun e w' => e = .returned (.bool true) ∧ Keep [] W w' := by
  have HPL := Lib.hid (played_c W v0 x 150 (by omega) h0)
  clear h0
  go_enter Try.func5, Try.ntmps5
  go_wp2_with fail
  refine HPL.out.mono ?_; rintro e w1 ⟨q, bs, s, rfl, ht, hr, k1, hb⟩
  have hok := ht.ok
  have HOK := Lib.hid hok
  have HR := Lib.hid hr
  have HL := Lib.hid (fun w' (k : Keep [] w1 w') => ht.keep k (by simp))
  have HK1 := Lib.hid k1
  have HB := Lib.hid hb
  have HBL := Lib.hid ht.lt.2
  have HLK := Lib.hid (fun w' c (k : Keep [] w1 w') (hc : (Lit.int .i64 c).wf = true) => lz_linkv w' q bs s c hc (ht.keep k (by simp)))
  clear HPL ht hb k1 hr hok
  go_wp2_with fail
  have hS0 : Hid (TwoR W w1 w1 (.slice none 0 0) (.slice none 0 0) s 0) := ⟨OwnG.nil _ _, OwnG.nil _ _, Keep.refl _ _, fun x hx => by simp [Value.ownBlock] at hx, fun x hx => by simp [Value.ownBlock] at hx, fun x hx => by simp [Value.ownBlock] at hx⟩
  go_loopw [4, 5, 6] (fun hv bv iv wr => ∃ i : Nat, i ≤ 600 ∧ iv = .int .i64 i ∧ Hid (TwoR W w1 wr hv bv s i)) (fun _ _ iv _ => 600 - (intOf iv).toNat)
  case atStart => exact ⟨0, by omega, rfl, hS0⟩
  case round =>
    clear hS0
    obtain ⟨i, hi, rfl, HS⟩ := hrel
    by_cases hlt : i < 600
    · have hiz : (i : Int) < 600 := by omega
      have HLI := Lib.hid (HLK.out wr i HS.out.k (wf_of i (by omega) (by omega)))
      have hks := lkL_succ s i
      have hbs := hsL_succ s i
      have hkl := lkL_len s i
      have hbl := hsL_len s i
      generalize lp s.rows (i : Nat) = p at *
      generalize ly s.rows (i : Nat) = y at *
      generalize hs s.rows (i : Nat) = t at *
      go_wp2_with fail
      refine HLI.out.mono ?_; rintro e w3 ⟨rfl, k3⟩
      have hX := Blk.new w3 #[.int .i64 0, .int .u8 0] 44
      have p0 := hX.cell 0 _ rfl
      have p1 := hX.cell 1 _ rfl
      have g0 := hX.free 0
      have g1 := hX.free 1
      clear hX HLI
      go_upto_region 10 with fail
      have kB : Keep [] wr (w3.alloc (.cells #[.int .i64 p, .int .u8 y.toNat] 44)) := k3.alloc _
      have hXB := Blk.new w3 #[.int .i64 p, .int .u8 y.toNat] 44
      clear p0 p1 g0 g1
      have x0 := hXB.cell 0 _ rfl
      have x1 := hXB.cell 1 _ rfl
      generalize w3.heap.size = l at *
      generalize w3.alloc (.cells #[.int .i64 p, .int .u8 y.toNat] 44) = wB at *
      have kC := kB.alloc (.cells #[.int .i64 p, .int .u8 y.toNat] 44)
      have hO1 := HS.out.h.keep kC (by simp)
      have hlit1 : Gs EK (wB.alloc (.cells #[.int .i64 p, .int .u8 y.toNat] 44)) (.slice (some ⟨wB.heap.size, 0, none⟩) 1 1) [(p, y)] := Gs.lit EKg [(p, y)] 1 (Blk.new wB _ _) rfl rfl (by decide)
      have hO2 := HS.out.b.keep kC (by simp)
      have hsz1 := HS.out.k.size
      have hszC := kC.size
      clear k3 hXB
      go_wp2_with (first
        | (at_builtin; (refine wpList_appendG EKg (.tmp 35) (.tmp 37) rfl rfl u4 _ rfl hO1 (.slice (some ⟨wB.heap.size, 0, none⟩) 1 1) [(p, y)] rfl hlit1 (by rw [hkl]; simp; omega) ?_); (intro v4 w4 ho4 hk4 hb4); (have hO2' := hO2.keep hk4 (fun b hb hm => HS.out.ap b (by simpa using hm) hb)); (have kD : Keep [] w4 (w4.alloc (.cells #[.bool t] 4)) := (Keep.refl [] w4).alloc _); (have hO2'' := hO2'.keep kD (by simp)); (have hlit2 : Gs EBo (w4.alloc (.cells #[.bool t] 4)) (.slice (some ⟨w4.heap.size, 0, none⟩) 1 1) [t] := Gs.lit EBg [t] 1 (Blk.new w4 _ _) rfl rfl (by decide)))
        | (at_builtin; (refine wpList_appendG EBg (.tmp 39) (.tmp 41) rfl rfl u5 _ rfl hO2'' (.slice (some ⟨w4.heap.size, 0, none⟩) 1 1) [t] rfl hlit2 (by rw [hbl]; simp; omega) ?_); (intro v5 w5 ho5 hk5 hb5)))
      go_roundw
      case rel => exact ⟨i + 1, by omega, by go_num, HS.out.step kC (by rw [hks]; exact ho4) hk4 hb4 kD (by rw [hbs]; exact ho5) hk5 hb5⟩
      case measure => simp [intOf]; omega
    · obtain rfl : i = 600 := by omega
      have ht := HL.out wr HS.out.k
      have HCL := Lib.hid (lz_clear wr q bs s ht)
      have HKW : Hid (Keep [] W wr) := HK1.out.andThen HS.out.k
      clear ht
      go_wp2_with fail
      refine HCL.out.mono ?_; rintro e w6 ⟨rfl, bs6, ht6, k6, hb6⟩
      have HH : Hid (Gs EK w6 u4 (lkL s 600)) := HS.out.h.gs.keep EKg k6 (fun b hb hm => by have h1 := HS.out.fh b hb; have h2 := HBL.out b hm; omega)
      have HBB : Hid (Gs EBo w6 u5 (hsL s 600)) := HS.out.b.gs.keep EBg k6 (fun b hb hm => by have h1 := HS.out.fb b hb; have h2 := HBL.out b hm; omega)
      have HK6 : Hid (Keep [] W w6) := HKW.out.trans k6 (fun x hx => .inr (HB.out x hx))
      have HL6 := Lib.hid (fun w' c (k : Keep [] w6 w') (hc : (Lit.int .i64 c).wf = true) => lz_linkv w' q bs6 _ c hc (ht6.keep k (by simp)))
      have HN6 := Lib.hid (fun w' (k : Keep [] w6 w') => lz_next w' q bs6 _ (ht6.keep k (by simp)))
      have HU6 := Lib.hid (fun w' (k : Keep [] w6 w') => lz_used w' q bs6 _ (ht6.keep k (by simp)))
      have hcode : ∀ r ∈ s.rows, r.code < 600 := fun r h => by have := HR.out.2 r h; omega
      have hcok := LT.clear_ok HOK.out
      have hcc : ∀ r ∈ s.clear.rows, r.code < 600 := fun r h => hcode r (List.mem_filter.1 h).1
      obtain ⟨n, hn1, hn2, hn3, hn4, hn5⟩ := next_clear HOK.out 150 (by omega) HR.out.2
      have HLS := Lib.hid (fun i => lwb_step s.clear.rows hcok.srt i)
      have HLF := Lib.hid (lwb_first s.clear.rows (fun r h => (hcok.all r h).1))
      have HLZ := Lib.hid (lwb_last s.clear.rows 600 hcc)
      have HHC := Lib.hid (fun c => hs_clear HOK.out c)
      have HSC := Lib.hid (fun c => same_clear HOK.out c)
      have HAP := Lib.hid (fun i => anyP_par HOK.out 600 hcode i)
      have HSL : Hid (s.clear.rows.length ≤ 7935) := hcok.len
      have HN4 := Lib.hid hn4
      have HN5 := Lib.hid hn5
      rw [hn1] at HN6
      clear hcode hcok hcc hn1 hn4 hn5 ht6 k6 hb6 HCL HS HL HLK HK1 HB HBL HR HOK HKW
      generalize s.clear = sc at *
      have HKP : Hid (∀ w' k, Keep [] w6 w' → k < 600 → ∃ b off cp, u4 = .slice (some ⟨b, off, none⟩) 600 cp ∧ w'.cell? ⟨b, off + k * 2, none⟩ = some (.int .i64 (lp s.rows (k : Nat) : Nat)) ∧ w'.cell? ⟨b, off + k * 2 + 1, none⟩ = some (.int .u8 (ly s.rows (k : Nat)).toNat)) := fun w' k kk hk => by
        obtain ⟨b, off, cp, hv, hc⟩ := (HH.out.keep EKg kk (by simp)).at EKg k (by rw [lkL_len]; exact hk)
        rw [lkL_len] at hv
        have hg : (lkL s 600)[k]'(by rw [lkL_len]; exact hk) = (lp s.rows (k : Nat), ly s.rows (k : Nat)) := by simp [lkL]
        rw [hg] at hc
        exact ⟨b, off, cp, hv, hc 0 (by decide), hc 1 (by decide)⟩
      have HBP : Hid (∀ w' k, Keep [] w6 w' → k < 600 → ∃ b off cp, u5 = .slice (some ⟨b, off, none⟩) 600 cp ∧ w'.cell? ⟨b, off + k, none⟩ = some (.bool (hs s.rows (k : Nat)))) := fun w' k kk hk => by
        obtain ⟨b, off, cp, hv, hc⟩ := (HBB.out.keep EBg kk (by simp)).at EBg k (by rw [hsL_len]; exact hk)
        rw [hsL_len] at hv
        have hg : (hsL s 600)[k]'(by rw [hsL_len]; exact hk) = hs s.rows (k : Nat) := by simp [hsL]
        rw [hg] at hc
        have h0 := hc 0 (by decide)
        have e : off + (k * EBo.sz + 0) = off + k := by show off + (k * 1 + 0) = _; omega
        rw [e] at h0
        exact ⟨b, off, cp, hv, h0⟩
      obtain ⟨bh, offh, ch, hv4, _⟩ := HKP.out w6 0 (Keep.refl _ _) (by omega)
      obtain ⟨bb, offb, cb, hv5, _⟩ := HBP.out w6 0 (Keep.refl _ _) (by omega)
      subst hv4 hv5
      have HKQ : Hid (∀ w' k, Keep [] w6 w' → k < 600 → w'.cell? ⟨bh, offh + k * 2, none⟩ = some (.int .i64 (lp s.rows (k : Nat) : Nat)) ∧ w'.cell? ⟨bh, offh + k * 2 + 1, none⟩ = some (.int .u8 (ly s.rows (k : Nat)).toNat)) := fun w' k kk hk => by
        obtain ⟨b, off, cp, hv, h1, h2⟩ := HKP.out w' k kk hk
        simp only [Value.slice.injEq, Option.some.injEq, Addr.mk.injEq, and_true, true_and] at hv
        obtain ⟨⟨rfl, rfl⟩, _⟩ := hv
        exact ⟨h1, h2⟩
      have HBQ : Hid (∀ w' k, Keep [] w6 w' → k < 600 → w'.cell? ⟨bb, offb + k, none⟩ = some (.bool (hs s.rows (k : Nat)))) := fun w' k kk hk => by
        obtain ⟨b, off, cp, hv, h1⟩ := HBP.out w' k kk hk
        simp only [Value.slice.injEq, Option.some.injEq, Addr.mk.injEq, and_true, true_and] at hv
        obtain ⟨⟨rfl, rfl⟩, _⟩ := hv
        exact h1
      clear HKP HBP HH HBB
      have hu0 : Hid (lwb sc.rows ((257 : Nat) : Int) = 0) := HLF.out
      go_wp2_with fail
      go_loopw [9, 10] (fun uv iv wr => ∃ i u : Nat, 257 ≤ i ∧ i ≤ 600 ∧ uv = .int .i64 u ∧ iv = .int .i64 i ∧ Hid (u = lwb sc.rows (i : Nat)) ∧ Hid (Keep [] w6 wr)) (fun _ iv _ => 600 - (intOf iv).toNat)
      case atStart => exact ⟨257, 0, by omega, by omega, rfl, rfl, hu0.out.symm, Keep.refl _ _⟩
      case round =>
        clear hu0
        obtain ⟨i, u, h257, hi, rfl, rfl, HU, HK⟩ := hrel
        by_cases hlt : i < 600
        · have hiz : (i : Int) < 600 := by omega
          go_wp2_with fail
          have hP0 : anyP s.rows i 257 = false := by
            cases hx : anyP s.rows i 257 with
            | false => rfl
            | true => obtain ⟨j, h1, h2, _⟩ := (anyP_iff _ _ _).1 hx; omega
          have HP0 := Lib.hid hP0
          have HST : Hid (∀ k, 257 ≤ k → anyP s.rows i (k + 1) = (anyP s.rows i k || (hs s.rows (k : Nat) && (lp s.rows (k : Nat) == i)))) := fun k hk => by rw [anyP, decide_eq_true hk, Bool.true_and]
          have HPA := Lib.hid (HAP.out i)
          clear hP0
          go_loopw [11, 12] (fun pv kv w2 => ∃ (k : Nat) (t : Bool), 257 ≤ k ∧ k ≤ 600 ∧ pv = .bool t ∧ kv = .int .i64 k ∧ Hid (t = anyP s.rows i k) ∧ w2 = wr) (fun _ kv _ => 600 - (intOf kv).toNat)
          case atStart => exact ⟨257, false, by omega, by omega, rfl, rfl, HP0.out.symm, rfl⟩
          case round =>
            clear HP0
            obtain ⟨k, t, hk1, hk2, rfl, rfl, HT, rfl⟩ := hrel
            by_cases hkl : k < 600
            · have hkz : (k : Int) < 600 := by omega
              have hst := HST.out k hk1
              rw [← HT.out] at hst
              cases t with
              | true =>
                have HT2 : Hid (true = anyP s.rows i (k + 1)) := by unfold Hid; rw [hst]; rfl
                clear hst
                go_wp2_with fail
                go_roundw
                case rel => exact ⟨k + 1, true, by omega, by omega, rfl, by go_num, HT2, trivial⟩
                case measure => simp [intOf]; omega
              | false =>
                have e0 := HBQ.out _ k HK.out hkl
                have e1 := (HKQ.out _ k HK.out hkl).1
                rw [Bool.false_or] at hst
                cases hh : hs s.rows (k : Nat) with
                | false =>
                  have HT2 : Hid (false = anyP s.rows i (k + 1)) := by unfold Hid; rw [hst, hh]; rfl
                  rw [hh] at e0
                  clear hst e1 hh
                  go_wp2_with fail
                  go_roundw
                  case rel => exact ⟨k + 1, false, by omega, by omega, rfl, by go_num, HT2, trivial⟩
                  case measure => simp [intOf]; omega
                | true =>
                  obtain ⟨d, hd⟩ : ∃ d, (lp s.rows (k : Nat) == i) = d := ⟨_, rfl⟩
                  have hd2 : (((lp s.rows (k : Nat) : Nat) : Int) == (i : Int)) = d := by rw [← hd]; cases hx : (lp s.rows (k : Nat) == i) <;> simp at hx ⊢ <;> omega
                  have HT2 : Hid (d = anyP s.rows i (k + 1)) := by unfold Hid; rw [hst, hh, hd]; rfl
                  rw [hh] at e0
                  clear hst hh hd
                  generalize lp s.rows (k : Nat) = z at *
                  go_wp2_with fail
                  go_roundw
                  case rel => exact ⟨k + 1, d, by omega, by omega, rfl, by go_num, HT2, trivial⟩
                  case measure => simp [intOf]; omega
            · obtain rfl : k = 600 := by omega
              have ht : t = isPar s.rows i := by rw [HT.out, HPA.out]
              have hhc := HHC.out i
              rw [← ht] at hhc
              have HHH : Hid (hs sc.rows (i : Nat) = (hs s.rows (i : Nat) && t)) := hhc
              clear hhc
              have HLI := Lib.hid (HL6.out wr (i : Nat) HK.out (wf_of i (by omega) (by omega)))
              have hsc := HSC.out (i : Nat)
              have hls := HLS.out i
              have e0 := HBQ.out _ i HK.out hlt
              obtain ⟨e1, e2⟩ := HKQ.out _ i HK.out hlt
              clear ht HT HST HPA hkl hk1 hk2
              cases hsi : hs sc.rows (i : Nat) with
              | false =>
                rw [hsi] at HHH hls HLI
                have hu2 : Hid (u = lwb sc.rows ((i + 1 : Nat) : Int)) := by unfold Hid; rw [hls, HU.out]; simp
                clear hsc hls hsi HU
                generalize lp sc.rows (i : Nat) = p' at *
                generalize ly sc.rows (i : Nat) = y' at *
                go_wp2_with fail
                refine HLI.out.mono ?_; rintro e w7 ⟨rfl, k7⟩
                have K7 := HK.out.andThen k7
                have hX := Blk.new w7 #[.int .i64 0, .int .u8 0] 44
                have p0 := hX.cell 0 _ rfl
                have p1 := hX.cell 1 _ rfl
                have g0 := hX.free 0
                have g1 := hX.free 1
                have K8 := k7.alloc (.cells #[.int .i64 p', .int .u8 y'.toNat] 44)
                have KK8 := HK.out.andThen K8
                have hX2 := Blk.new w7 #[.int .i64 p', .int .u8 y'.toNat] 44
                have x0 := hX2.cell 0 _ rfl
                have x1 := hX2.cell 1 _ rfl
                have f0 := K8.cell e0 (by simp)
                have f1 := K8.cell e1 (by simp)
                have f2 := K8.cell e2 (by simp)
                have HKK8 := Lib.hid KK8
                clear hX hX2 HLI K7 k7 e0 e1 e2 KK8
                cases hh : hs s.rows (i : Nat) with
                | false =>
                  rw [hh] at f0
                  clear HHH hh
                  go_wp2_with fail
                  go_quiet (fail)
                  go_wp2_with fail
                  go_roundw
                  case rel => exact ⟨i + 1, u, by omega, by omega, rfl, by go_num, hu2, HKK8.out.drewN _⟩
                  case measure => simp [intOf]; omega
                | true =>
                  have h3 := HHH.out
                  rw [hh] at f0 h3
                  obtain rfl : t = false := by rw [Bool.true_and] at h3; exact h3.symm
                  clear HHH hh h3
                  go_wp2_with fail
                  go_quiet (fail)
                  go_wp2_with fail
                  go_roundw
                  case rel => exact ⟨i + 1, u, by omega, by omega, rfl, by go_num, hu2, HKK8.out.drewN _⟩
                  case measure => simp [intOf]; omega
              | true =>
                rw [hsi] at HHH hls HLI
                obtain ⟨hp1, hp2⟩ := hsc hsi
                have hu2 : Hid (u + 1 = lwb sc.rows ((i + 1 : Nat) : Int)) := by unfold Hid; rw [hls, HU.out]; simp
                have hboth : hs s.rows (i : Nat) = true ∧ t = true := by rw [← Bool.and_eq_true]; exact HHH.out.symm
                obtain ⟨hh, rfl⟩ := hboth
                have hul : u ≤ 8000 := by have := HU.out; have := lwb_le sc.rows (i : Nat); have := HSL.out; omega
                rw [hh] at e0
                rw [← hp1] at e1
                rw [← hp2] at e2
                clear hsc hls hsi HHH hh hp1 hp2 HU
                generalize lp sc.rows (i : Nat) = p' at *
                generalize ly sc.rows (i : Nat) = y' at *
                go_wp2_with fail
                refine HLI.out.mono ?_; rintro e w7 ⟨rfl, k7⟩
                have hX := Blk.new w7 #[.int .i64 0, .int .u8 0] 44
                have p0 := hX.cell 0 _ rfl
                have p1 := hX.cell 1 _ rfl
                have g0 := hX.free 0
                have g1 := hX.free 1
                have K8 := k7.alloc (.cells #[.int .i64 p', .int .u8 y'.toNat] 44)
                have KK8 := HK.out.andThen K8
                have hX2 := Blk.new w7 #[.int .i64 p', .int .u8 y'.toNat] 44
                have x0 := hX2.cell 0 _ rfl
                have x1 := hX2.cell 1 _ rfl
                have f0 := K8.cell e0 (by simp)
                have f1 := K8.cell e1 (by simp)
                have f2 := K8.cell e2 (by simp)
                have HKK8 := Lib.hid KK8
                clear hX hX2 HLI k7 e0 e1 e2 KK8
                go_wp2_with fail
                go_quiet (fail)
                go_wp2_with fail
                go_roundw
                case rel => exact ⟨i + 1, u + 1, by omega, by omega, by go_num, by go_num, hu2, HKK8.out.drewN _⟩
                case measure => simp [intOf]; omega
        · obtain rfl : i = 600 := by omega
          have hu : u = sc.rows.length := by rw [HU.out]; exact HLZ.out
          subst hu
          have HNX := Lib.hid (HN6.out wr HK.out)
          clear HU HLZ HLS HLF HHC HSC HAP HKQ HBQ HN6
          go_wp2_with fail
          refine HNX.out.mono ?_; rintro e w7 ⟨rfl, k7⟩
          have HK7 := Lib.hid (HK.out.andThen k7)
          clear HK HNX k7
          go_wp2_with fail
          go_loopw [16] (fun iv wr => ∃ i : Nat, 257 ≤ i ∧ i ≤ n ∧ iv = .int .i64 i ∧ Hid (Keep [] w6 wr)) (fun iv _ => n - (intOf iv).toNat)
          case atStart => exact ⟨257, by omega, by omega, rfl, HK7⟩
          case round =>
            clear HK7
            obtain ⟨j, hj1, hj2, rfl, HK⟩ := hrel
            by_cases hjn : j < n
            · have hjz : (j : Int) < n := by omega
              have HLI := Lib.hid (HL6.out wr (j : Nat) HK.out (wf_of j (by omega) (by omega)))
              rw [HN5.out j hj1 hjn] at HLI
              generalize lp sc.rows (j : Nat) = p' at *
              generalize ly sc.rows (j : Nat) = y' at *
              go_wp2_with fail
              refine HLI.out.mono ?_; rintro e w8 ⟨rfl, k8⟩
              have hX := Blk.new w8 #[.int .i64 0, .int .u8 0] 44
              have p0 := hX.cell 0 _ rfl
              have p1 := hX.cell 1 _ rfl
              have g0 := hX.free 0
              have g1 := hX.free 1
              have HK9 : Hid (Keep [] w6 (w8.alloc (.cells #[.int .i64 p', .int .u8 y'.toNat] 44))) := (HK.out.andThen k8).alloc _
              clear HLI k8 hX
              go_wp2_with fail
              go_roundw
              case rel => exact ⟨j + 1, by omega, by omega, by go_num, HK9⟩
              case measure => simp [intOf]; omega
            · obtain rfl : j = n := by omega
              have HLI := Lib.hid (HL6.out wr (j : Nat) HK.out (wf_of j (by omega) (by omega)))
              rw [HN4.out] at HLI
              generalize lp sc.rows (j : Nat) = p' at *
              generalize ly sc.rows (j : Nat) = y' at *
              have hjg : (256 : Int) < j := by omega
              go_wp2_with fail
              refine HLI.out.mono ?_; rintro e w8 ⟨rfl, k8⟩
              have hX := Blk.new w8 #[.int .i64 0, .int .u8 0] 44
              have p0 := hX.cell 0 _ rfl
              have p1 := hX.cell 1 _ rfl
              have g0 := hX.free 0
              have g1 := hX.free 1
              have K9 : Keep [] w6 (w8.alloc (.cells #[.int .i64 p', .int .u8 y'.toNat] 44)) := (HK.out.andThen k8).alloc _
              have HUX := Lib.hid (HU6.out _ K9)
              have HKE := Lib.hid (HK6.out.andThen K9)
              clear HLI k8 hX K9
              go_wp2_with fail
              refine HUX.out.mono ?_; rintro e wU ⟨rfl, kU⟩
              have HKF := Lib.hid (HKE.out.andThen kU)
              clear HUX HKE kU p0 p1 g0 g1
              go_wp2_with fail
              refine (lives10_c _).mono ?_; rintro e wE ⟨rfl, kE⟩
              go_wp2_with fail
              go_ret
              exact ⟨rfl, HKF.out.andThen kE⟩
end Go.Proofs.Ytpjebbhjagllgaa
