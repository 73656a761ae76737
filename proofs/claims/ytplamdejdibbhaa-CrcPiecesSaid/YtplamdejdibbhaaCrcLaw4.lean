/- The walk of the law CrcPieces: it returns true at every input. -/
import Derived.Test.YtplamdejdibbhaaCrcLives
import Derived.Test.YtplamdejdibbhaaCutB
import Derived.Test.YtplamdejdibbhaaWithin
import Derived.Test.YtplamdejdibbhaaOpen
import Derived.Deep.RegionHeld3
import Derived.Deep.MidRow
namespace Go.Proofs.Ytplamdejdibbhaa
set_option linter.unusedVariables false
set_option linter.unusedSimpArgs false
open Go.ChangeShapes Go.WideShapes Go.ChangeAt Go.RowKit

theorem crcSum_append (s : Nat) (l m : List UInt8) : crcSum (crcSum s l) m = crcSum s (l ++ m) := by
  unfold crcSum
  rw [cfold_append, Nat.xor_assoc, Nat.xor_self, Nat.xor_zero]
set_option maxRecDepth 100000 in
set_option maxHeartbeats 4000000 in
theorem pieces_w (W : World) (v0 : Value) (l0 : List UInt8) (h0 : Bs W v0 l0) (v1 : Value) (zs : List Int) (h1 : Is .i64 W v1 zs) : Calls Try.prog 5 #[v0, v1] W fun e w' => e = .returned (.bool true) ∧ Keep [] W w' := by
  have hz := (zero_of_info (P := Try.prog) arrInfo).1
  have hsz := (zero_of_info (P := Try.prog) arrInfo).2
  generalize hZ : Array.replicate 256 (Value.int .u32 0) = Z at hz
  have HZ : Hid (Z.size = 256) := by unfold Hid; rw [← hZ]; simp
  have HSz := Lib.hid hsz
  clear hZ hsz
  have H1 := Lib.hid h1
  obtain ⟨a1, c1, rfl, hc1, hm1, _⟩ := h1
  unfold maxLen at hm1
  go_enter Try.func5, Try.ntmps5
  go_wp2_with fail
  refine (cut_c W v0 l0 2000 (by decide) h0).mono ?_; rintro e w' ⟨vb, rfl, hb, hvb, rfl⟩
  have hl2 : (l0.take 2000).length ≤ 2000 := by rw [List.length_take]; omega
  generalize l0.take 2000 = l at hb hl2
  obtain ⟨ab, cb, rfl, hcb, hcm⟩ := hb.shape
  have hcm' := hcm
  unfold maxLen at hcm'
  have HBW := Lib.hid hb
  clear h0 hb
  go_wp2_with fail
  refine (table_c W).mono ?_; rintro e w1 ⟨tv, rfl, ht, k1⟩
  have HT := Lib.hid ht
  obtain ⟨cs, rfl, hcs, hcv⟩ := ht
  have hones : ∀ v ∈ cs.toList, v.oneCell' = true := by
    intro v hv
    obtain ⟨i, hi, he⟩ := List.getElem_of_mem hv
    have h2 : i < 256 := by simpa [hcs] using hi
    have := (hcv i h2).1
    rw [← he]
    simp only [Array.length_toList] at hi
    rw [Array.getElem?_eq_getElem hi] at this
    simp only [Array.getElem_toList]
    rw [Option.some.inj this]; rfl
  have hB1 : Blk (w1.alloc (.cells Z 23)) w1.heap.size Z 23 := Blk.new w1 Z _
  have hst := hB1.storeC (P := Try.prog) cs (by rw [hcs, HZ.out]) hones
  have hB2 := hB1.setRow cs
  have K2 : Keep [] W ((w1.alloc (.cells Z 23)).setRow w1.heap.size cs) := (k1.alloc _).trans (Keep.setRow _) (by have := k1.size; intro b hb; right; simp at hb; omega)
  have hg : W.heap.size ≤ w1.heap.size := k1.size
  generalize (w1.alloc (.cells Z 23)).setRow w1.heap.size cs = w2 at hst hB2 K2
  clear hones hcv hB1
  go_wp2_with fail
  go_loopw [6, 7, 8] (fun vs vr vi wr => ∃ (k : Nat) (P R : List UInt8) (a : Option Addr) (c : Nat), vi = .int .i64 k ∧ k ≤ zs.length ∧ k ≤ 50 ∧ Hid (l = P ++ R) ∧ vs = .int .u32 (crcSum 0 P) ∧ vr = .slice a R.length c ∧ Bs W (.slice a R.length c) R ∧ Blk wr w1.heap.size cs 23 ∧ Keep [] W wr) (fun _ _ vi _ => 50 - (intOf vi).toNat)
  case atStart => exact ⟨0, [], l, ab, cb, rfl, by omega, by omega, rfl, rfl, rfl, HBW.out, hB2, K2⟩
  case round =>
    obtain ⟨k, P, R, a, c, rfl, hk, hk5, HPR, rfl, rfl, hbR, hB, K⟩ := hrel
    have hRl : R.length ≤ 2000 := by have := congrArg List.length HPR.out; simp at this; omega
    obtain ⟨_, _, hsh, hRc, hRm⟩ := hbR.shape
    simp only [Value.slice.injEq] at hsh
    obtain ⟨rfl, hz0, rfl⟩ := hsh
    clear hz0
    have hRm' := hRm
    unfold maxLen at hRm'
    have hPlt := crcSum_lt 0 P (by decide)
    have key : (k < zs.length ∧ k < 50) ∨ ¬ k < zs.length ∨ (k < zs.length ∧ ¬ k < 50) := by omega
    rcases key with ⟨q1, q2⟩ | q1 | ⟨q1, q2⟩
    · obtain ⟨b1, o1, c1', hv1, e1⟩ := H1.out.at k q1
      simp only [Value.slice.injEq] at hv1
      obtain ⟨rfl, hz1, rfl⟩ := hv1
      clear hz1
      have e1 := K.cellW e1
      generalize zs[k] = y at e1
      obtain ⟨n, hn⟩ : ∃ n : Nat, max 0 (min y (R.length : Int)) = n := ⟨(max 0 (min y (R.length : Int))).toNat, by omega⟩
      have hnR : n ≤ R.length := by omega
      have hbp := hbR.pre n hnR
      obtain ⟨hbq, _⟩ := hbR.cutOf n R.length c hnR (Nat.le_refl _) hRc (Nat.le_refl _)
      rw [show (R.drop n).take (R.length - n) = R.drop n from List.take_of_length_le (by simp)] at hbq
      have hPR2 : Hid (l = (P ++ R.take n) ++ R.drop n) := by unfold Hid; rw [HPR.out, List.append_assoc, List.take_append_drop]
      have hsum : Hid (crcWith (csteps 8) (crcSum 0 P) (R.take n) = crcSum 0 (P ++ R.take n)) := by unfold Hid; rw [crcWith_steps, crcSum_append]
      have hl2n : (R.drop n).length = R.length - n := List.length_drop
      unfold sliced at hbq
      rw [← hl2n, Nat.mul_one] at hbq
      have Hl2n := Lib.hid hl2n
      generalize P ++ R.take n = P2 at hPR2 hsum
      generalize R.take n = Rn at hbp hsum
      generalize R.drop n = R2 at hbq hPR2 Hl2n
      have HN := Lib.hid hn
      clear hn hl2n
      go_wp2_with fail
      refine (within_c y 0 R.length _ (by omega)).mono ?_; rintro e w' ⟨rfl, rfl⟩
      rw [HN.out]
      have g1 : (n : Int) ≤ c := by omega
      have hBd : Blk wr.drew w1.heap.size cs 23 := hB.keep ((Keep.refl [] _).drew) (by simp)
      have hu := Try.underlying23
      have hi : (Try.prog.info? 23).map (·.size) = some cs.toList.length := by rw [Array.length_toList, hcs]; exact HSz.out
      have hcl : cs.toList.length = 256 := by simpa using hcs
      have hrange : ∀ ww : World, Blk ww w1.heap.size cs 23 → ww.rangeAt w1.heap.size 0 cs.toList := fun ww hB => fun j v hv => by rw [Nat.zero_add]; exact hB.cell j v (by simpa using hv)
      have HR := Lib.hid hrange
      have hS := hrange _ hBd
      have hbpW : ∀ ww : World, Keep [] W ww → Bs ww (.slice a n c) Rn := fun ww kk => hbp.keep kk (by simp)
      have HbpW := Lib.hid hbpW
      have Kd := K.drew
      have hadd := fun (ww : World) (kk : Keep [] W ww) => add_c ww (.agg cs) (csteps 8) (crcSum 0 P) (.slice a n c) Rn HT.out hPlt (HbpW.out ww kk)
      have HAdd := Lib.hid hadd
      clear hrange hbpW hadd hbp
      go_wp2_with fail
      go_region_held3 (fun w' => w'.rangeAt w1.heap.size 0 cs.toList)
        (first | assumption | go_keep_ranges)
        (first
        | (go_at_call 15; (refine (HAdd.out _ Kd).mono ?_); (rintro e w5 ⟨rfl, k5⟩); (have hB5 := hBd.keep k5 (by simp)); (have S5 := HR.out _ hB5)))
      all_goals
        rw [hsum.out]
        have K5 : Keep [] W w5 := Kd.trans k5 (by simp)
        clear S5 hS k5 Kd hBd hu hi hcl HR HAdd HbpW hB K e1
        go_wp2_with fail
        go_roundw
        case rel => exact ⟨k + 1, P2, R2, _, _, by go_num, by omega, by omega, hPR2, rfl, by rw [Hl2n.out], hbq, hB5, K5⟩
        case measure => simp [intOf]; omega
    all_goals
      have hld := hB.load (P := Try.prog) _ Try.underlying23 rfl (by rw [hcs]; exact HSz.out)
      have hadd := add_c wr (.agg cs) (csteps 8) (crcSum 0 P) (.slice a R.length c) R HT.out hPlt (hbR.keep K (by simp))
      rw [crcWith_steps, crcSum_append, ← HPR.out] at hadd
      have HAdd := Lib.hid hadd
      have hsum := fun (ww : World) (kk : Keep [] W ww) => sum_c ww _ l (HBW.out.keep kk (by simp))
      have HSum := Lib.hid hsum
      clear hadd hsum
      go_wp2_with fail
      refine wp_loadA 23 (.tmp 5) rfl w1.heap.size rfl cs hld ?_
      go_wp2_with fail
      refine HAdd.out.mono ?_
      rintro e w5 ⟨rfl, k5⟩
      have K5 : Keep [] W w5 := K.trans k5 (by simp)
      go_wp2_with fail
      refine (HSum.out w5 K5).mono ?_
      rintro e w6 ⟨rfl, k6⟩
      have K6 : Keep [] W w6 := K5.trans k6 (by simp)
      go_wp2_with (refine (lives_c _).mono ?_; rintro e w' ⟨rfl, hk⟩)
      go_ret
      exact ⟨rfl, K6.trans hk (by simp)⟩
end Go.Proofs.Ytplamdejdibbhaa
