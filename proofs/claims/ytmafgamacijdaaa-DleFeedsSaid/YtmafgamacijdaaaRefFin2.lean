/- The document's own answers of layer 9: At. -/
import Derived.Test.YtmafgamacijdaaaRefFin
import Derived.Test.YtmafgamacijdaaaTok
namespace Go.Proofs.Ytmafgamacijdaaa
set_option linter.unusedVariables false
set_option linter.unusedSimpArgs false
open Go.ChangeShapes Go.WideShapes Go.ChangeAt Go.RowKit

set_option maxRecDepth 100000 in
set_option maxHeartbeats 4000000 in
theorem refat9_c (w : World) (v : Value) (b : List UInt8) (s : Sh) (i : Nat) (hs : s.ok) (h : Bs w v b) (hi : i ≤ b.length) (hb : b.length ≤ 100000) : Calls Try.prog 51 #[v, s.val, .int .i64 i] w fun e w' => e = .returned (.agg (atT b s i).cells.toArray) ∧ Keep [] w w' := by
  obtain ⟨win, mn, mx, ch, lz⟩ := s
  have hs' := hs
  unfold Sh.ok at hs'
  simp only at hs'
  obtain ⟨mn, rfl⟩ := Int.eq_ofNat_of_zero_le (show 0 ≤ mn by omega)
  obtain ⟨mx, rfl⟩ := Int.eq_ofNat_of_zero_le (show 0 ≤ mx by omega)
  have hmn : mn ≤ 3 := by omega
  have hmx : mx ≤ 65538 := by omega
  have hch : ch ≤ 4096 := by omega
  show Calls Try.prog 51 #[v, .agg #[.int .i64 win, .int .i64 mn, .int .i64 mx, .int .i64 ch, .bool lz], .int .i64 i] w _
  have HAT : Hid (∀ k L best, atF b ⟨win, mn, mx, ch, lz⟩ i (k + 1) L best = if (i : Int) - k ≤ win ∧ (L : Int) < ch then if sme b k i mn < mn then atF b ⟨win, mn, mx, ch, lz⟩ i k L best else atF b ⟨win, mn, mx, ch, lz⟩ i k (L + 1) (if best.len < (sme b k i mx : Int) then ⟨0, (i : Int) - k, sme b k i mx⟩ else best) else best) := fun k L best => rfl
  have HA0 : Hid (∀ L best, atF b ⟨win, mn, mx, ch, lz⟩ i 0 L best = best) := fun L best => rfl
  have HAS : Hid (atT b ⟨win, mn, mx, ch, lz⟩ i = atF b ⟨win, mn, mx, ch, lz⟩ i i 0 ⟨0, 0, 0⟩) := rfl
  clear hs hs'
  generalize (⟨win, mn, mx, ch, lz⟩ : Sh) = S at HAT HA0 HAS ⊢
  have HSM := Lib.hid (fun (ww : World) (kk : Keep [] w ww) (f m : Nat) (hf : f ≤ i) (hm : m ≤ 100000) => refsame9_c ww v b f i m (h.keep kk (by simp)) hf hi hb hm)
  have hil : i ≤ 100000 := by omega
  go_enter Try.func51, Try.ntmps51
  go_wp2_with fail
  go_loopw [8, 9] (fun lk fr wr => ∃ (k L : Nat) (z : Int) (best : Tk), k ≤ i ∧ L + k ≤ i ∧ lk = .int .i64 L ∧ fr = .int .i64 z ∧ Hid (z = (k : Int) - 1) ∧ Hid (atT b S i = atF b S i k L best) ∧ Hid (Keep [] w wr) ∧ Hid (Blk wr w.heap.size #[.int .i64 win, .int .i64 mn, .int .i64 mx, .int .i64 ch, .bool lz] 66) ∧ Hid (Blk wr (w.heap.size + 1) #[.int .u8 0, .int .i64 0, .int .i64 0] 69) ∧ Hid (Blk wr (w.heap.size + 1 + 1) best.cells.toArray 69)) (fun _ fr _ => (intOf fr + 1).toNat)
  case atStart =>
    refine ⟨i, 0, (i : Int) - 1, ⟨0, 0, 0⟩, by omega, by omega, rfl, rfl, rfl, HAS, (((Keep.refl [] w).alloc _).alloc _).alloc _, ((Blk.new _ _ _).alloc _).alloc _, ?_, ?_⟩
    · have := (Blk.new (w.alloc (.cells #[.int .i64 win, .int .i64 mn, .int .i64 mx, .int .i64 ch, .bool lz] 66)) #[.int .u8 0, .int .i64 0, .int .i64 0] 69).alloc (.cells #[.int .u8 0, .int .i64 0, .int .i64 0] 69)
      simpa [Hid] using this
    · have := (Blk.new ((w.alloc (.cells #[.int .i64 win, .int .i64 mn, .int .i64 mx, .int .i64 ch, .bool lz] 66)).alloc (.cells #[.int .u8 0, .int .i64 0, .int .i64 0] 69)) #[.int .u8 0, .int .i64 0, .int .i64 0] 69)
      simp only [World.size_alloc] at this
      exact this
  case round =>
    obtain ⟨k, L, z, ⟨lt, ds, ln⟩, hk, hL, rfl, rfl, HZ, HA, HK, HB1, HB2, HB3'⟩ := hrel
    have HB3 : Hid (Blk wr (w.heap.size + 1 + 1) #[.int .u8 lt.toNat, .int .i64 ds, .int .i64 ln] 69) := HB3'
    clear HB3'
    have s0 := HB1.out.cell 0 _ rfl
    have s1 := HB1.out.cell 1 _ rfl
    have s2 := HB1.out.cell 2 _ rfl
    have s3 := HB1.out.cell 3 _ rfl
    have b0 := HB3.out.cell 0 _ rfl
    have b1 := HB3.out.cell 1 _ rfl
    have b2 := HB3.out.cell 2 _ rfl
    have f0 := HB2.out.free 0
    have f1 := HB2.out.free 1
    have f2 := HB2.out.free 2
    have r0 := HB2.out.cell 0 _ rfl
    have r1 := HB2.out.cell 1 _ rfl
    have r2 := HB2.out.cell 2 _ rfl
    have HF : Hid (Blk (((wr.setCell ⟨w.heap.size + 1, 0, none⟩ (.int .u8 lt.toNat)).setCell ⟨w.heap.size + 1, 1, none⟩ (.int .i64 ds)).setCell ⟨w.heap.size + 1, 2, none⟩ (.int .i64 ln)) (w.heap.size + 1) #[.int .u8 lt.toNat, .int .i64 ds, .int .i64 ln] 69) := ((HB2.out.set 0 (.int .u8 lt.toNat)).set 1 (.int .i64 ds)).set 2 (.int .i64 ln)
    have HKF : Hid (Keep [] w (((wr.setCell ⟨w.heap.size + 1, 0, none⟩ (.int .u8 lt.toNat)).setCell ⟨w.heap.size + 1, 1, none⟩ (.int .i64 ds)).setCell ⟨w.heap.size + 1, 2, none⟩ (.int .i64 ln))) := ((HK.out.setCell (.inr (by simp)) _).setCell (.inr (by simp)) _).setCell (.inr (by simp)) _
    by_cases hk0 : k = 0
    · subst hk0
      have HR : Hid (atT b S i = ⟨lt, ds, ln⟩) := by have := HA.out; rw [HA0.out] at this; exact this
      have hz := HZ.out
      have d1 : ¬ z ≥ 0 := by omega
      clear HA HZ hz
      go_wp2_with fail
      refine bodyPost_ret (results_cell_row rfl _ _ _ _ _ (0, 0) _ rfl HF.out Try.underlying69 rfl (by kernel_rfl)) rfl ?_
      exact ⟨by rw [HR.out]; rfl, HKF.out⟩
    obtain ⟨k', rfl⟩ : ∃ k', k = k' + 1 := ⟨k - 1, by omega⟩
    obtain rfl : z = (k' : Int) := by have := HZ.out; omega
    clear HZ hk0
    have hstep := HA.out
    rw [HAT.out] at hstep
    by_cases h2 : (i : Int) - k' ≤ win
    case neg =>
      have HR : Hid (atT b S i = ⟨lt, ds, ln⟩) := by rw [if_neg (fun g => h2 g.1)] at hstep; exact hstep
      have d2 := dec_f h2
      clear HA h2 hstep
      go_wp2_with fail
      refine bodyPost_ret (results_cell_row rfl _ _ _ _ _ (0, 0) _ rfl HF.out Try.underlying69 rfl (by kernel_rfl)) rfl ?_
      exact ⟨by rw [HR.out]; rfl, HKF.out⟩
    have d2 := dec_t h2
    by_cases h3 : (L : Int) < ch
    case neg =>
      have HR : Hid (atT b S i = ⟨lt, ds, ln⟩) := by rw [if_neg (fun g => h3 g.2)] at hstep; exact hstep
      have d3 := dec_f h3
      clear HA h2 h3 hstep
      go_wp2_with fail
      refine bodyPost_ret (results_cell_row rfl _ _ _ _ _ (0, 0) _ rfl HF.out Try.underlying69 rfl (by kernel_rfl)) rfl ?_
      exact ⟨by rw [HR.out]; rfl, HKF.out⟩
    have d3 := dec_t h3
    rw [if_pos ⟨h2, h3⟩] at hstep
    have HST := Lib.hid hstep
    clear HA hstep h2 h3 HF HKF f0 f1 f2 r0 r1 r2
    have HS1 := Lib.hid (fun (ww : World) (kk : Keep [] wr ww) => kept_drewN (HSM.out ww (HK.out.trans kk (by simp)) k' mn (by omega) (by omega)))
    have y1 : ∀ p : Kept wr, p.x.cell? ⟨w.heap.size, 1, none⟩ = some (.int .i64 mn) := fun p => p.h.cell s1 (by simp)
    have hsl : sme b k' i mn ≤ 100000 := by have := (cntUp_le (sm1 b k' i) mn 0).2; unfold sme; omega
    have hsl2 : sme b k' i mx ≤ 100000 := by have := (cntUp_le (sm1 b k' i) mx 0).2; unfold sme; omega
    go_upto_region 6 with fail
    go_wp2_with fail
    refine wp_region_kept (by kernel_rfl) (by kernel_rfl) ?_
    repeat (quiet_step (first | (go_at_call 56; with_reducible exact kept_of (HS1.out _ (Kept.h _)))))
    refine wpQuiet_nil ?_
    intro _ hw'
    obtain ⟨p, hw''⟩ := hw'
    subst hw''
    clear y1 HS1 s0 s1 s2 s3 b0 b1 b2
    have HK2 : Hid (Keep [] w p.x) := HK.out.trans p.h (by simp)
    have HB1' : Hid (Blk p.x w.heap.size #[.int .i64 win, .int .i64 mn, .int .i64 mx, .int .i64 ch, .bool lz] 66) := HB1.out.keep p.h (by simp)
    have HB2' : Hid (Blk p.x (w.heap.size + 1) #[.int .u8 0, .int .i64 0, .int .i64 0] 69) := HB2.out.keep p.h (by simp)
    have HB3' : Hid (Blk p.x (w.heap.size + 1 + 1) #[.int .u8 lt.toNat, .int .i64 ds, .int .i64 ln] 69) := HB3.out.keep p.h (by simp)
    generalize p.x = w2 at HK2 HB1' HB2' HB3' ⊢
    clear HK HB1 HB2 HB3 p
    have s2 := HB1'.out.cell 2 (.int .i64 mx) rfl
    by_cases hm : sme b k' i mn < mn
    · have HA2 : Hid (atT b S i = atF b S i k' L ⟨lt, ds, ln⟩) := by have := HST.out; rw [if_pos hm] at this; exact this
      have d4 : (sme b k' i mn : Int) < (mn : Int) := by omega
      clear hm HST s2
      go_wp2_with fail
      go_roundw
      case rel => exact ⟨k', L, _, ⟨lt, ds, ln⟩, by omega, by omega, rfl, rfl, rfl, HA2, HK2, HB1', HB2', HB3'⟩
      case measure => simp [intOf]
    have d4 : ¬ (sme b k' i mn : Int) < (mn : Int) := by omega
    have HST2 : Hid (atT b S i = atF b S i k' (L + 1) (if ln < (sme b k' i mx : Int) then ⟨0, (i : Int) - k', sme b k' i mx⟩ else ⟨lt, ds, ln⟩)) := by have := HST.out; rw [if_neg hm] at this; exact this
    clear hm HST
    go_wp2_with fail
    refine (HSM.out _ HK2.out k' mx (by omega) (by omega)).mono ?_
    rintro e w3 ⟨rfl, n2, rfl⟩
    have K3 : Keep [] w2 (w2.drewN n2) := (Keep.refl [] w2).drewN n2
    generalize w2.drewN n2 = w3 at K3 ⊢
    have HK3 : Hid (Keep [] w w3) := HK2.out.trans K3 (by simp)
    have HC1 : Hid (Blk w3 w.heap.size #[.int .i64 win, .int .i64 mn, .int .i64 mx, .int .i64 ch, .bool lz] 66) := HB1'.out.keep K3 (by simp)
    have HC2 : Hid (Blk w3 (w.heap.size + 1) #[.int .u8 0, .int .i64 0, .int .i64 0] 69) := HB2'.out.keep K3 (by simp)
    have HC3 : Hid (Blk w3 (w.heap.size + 1 + 1) #[.int .u8 lt.toNat, .int .i64 ds, .int .i64 ln] 69) := HB3'.out.keep K3 (by simp)
    clear HB1' HB2' HB3' HK2 K3 s2
    have b0 := HC3.out.cell 0 (.int .u8 lt.toNat) rfl
    have b1 := HC3.out.cell 1 (.int .i64 ds) rfl
    have b2 := HC3.out.cell 2 (.int .i64 ln) rfl
    have f0 := HC3.out.free 0
    have f1 := HC3.out.free 1
    have f2 := HC3.out.free 2
    by_cases hg : ln < (sme b k' i mx : Int)
    · have HA2 : Hid (atT b S i = atF b S i k' (L + 1) ⟨0, (i : Int) - k', sme b k' i mx⟩) := by have := HST2.out; rw [if_pos hg] at this; exact this
      have HB4 : Hid (Blk (((w3.setCell ⟨w.heap.size + 1 + 1, 0, none⟩ (.int .u8 0)).setCell ⟨w.heap.size + 1 + 1, 1, none⟩ (.int .i64 ((i : Int) - k'))).setCell ⟨w.heap.size + 1 + 1, 2, none⟩ (.int .i64 (sme b k' i mx))) (w.heap.size + 1 + 1) (Tk.cells ⟨0, (i : Int) - k', sme b k' i mx⟩).toArray 69) := ((HC3.out.set 0 (.int .u8 0)).set 1 (.int .i64 ((i : Int) - k'))).set 2 (.int .i64 (sme b k' i mx))
      have HK4 : Hid (Keep [] w (((w3.setCell ⟨w.heap.size + 1 + 1, 0, none⟩ (.int .u8 0)).setCell ⟨w.heap.size + 1 + 1, 1, none⟩ (.int .i64 ((i : Int) - k'))).setCell ⟨w.heap.size + 1 + 1, 2, none⟩ (.int .i64 (sme b k' i mx)))) := ((HK3.out.setCell (.inr (by simp; omega)) _).setCell (.inr (by simp; omega)) _).setCell (.inr (by simp; omega)) _
      have KK : Keep [w.heap.size + 1 + 1] w3 (((w3.setCell ⟨w.heap.size + 1 + 1, 0, none⟩ (.int .u8 0)).setCell ⟨w.heap.size + 1 + 1, 1, none⟩ (.int .i64 ((i : Int) - k'))).setCell ⟨w.heap.size + 1 + 1, 2, none⟩ (.int .i64 (sme b k' i mx))) := (((Keep.refl _ w3).setCell (.inl (by simp)) _).setCell (.inl (by simp)) _).setCell (.inl (by simp)) _
      have HD1 := Lib.hid (HC1.out.keep KK (by simp; omega))
      have HD2 := Lib.hid (HC2.out.keep KK (by simp))
      clear KK HST2
      have hgt : (sme b k' i mx : Int) > ln := hg
      clear hg
      go_wp2_with fail
      go_roundw
      case rel => exact ⟨k', L + 1, _, ⟨0, (i : Int) - k', sme b k' i mx⟩, by omega, by omega, by go_num, rfl, rfl, HA2, HK4, HD1, HD2, HB4⟩
      case measure => simp [intOf]
    · have HA2 : Hid (atT b S i = atF b S i k' (L + 1) ⟨lt, ds, ln⟩) := by have := HST2.out; rw [if_neg hg] at this; exact this
      have hgt : ¬ (sme b k' i mx : Int) > ln := hg
      clear hg HST2
      go_wp2_with fail
      go_roundw
      case rel => exact ⟨k', L + 1, _, ⟨lt, ds, ln⟩, by omega, by omega, by go_num, rfl, rfl, HA2, HK3, HC1, HC2, HC3⟩
      case measure => simp [intOf]
end Go.Proofs.Ytmafgamacijdaaa
