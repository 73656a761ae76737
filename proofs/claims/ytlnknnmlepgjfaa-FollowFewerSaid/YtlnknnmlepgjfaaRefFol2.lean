/- Contract of the document's behind of layer 12. No condition beyond each theorem's own premises. -/
import Derived.Test.YtlnknnmlepgjfaaRefFol
import Derived.Test.YtlnknnmlepgjfaaFolArr
namespace Go.Proofs.Ytlnknnmlepgjfaa
set_option linter.unusedVariables false
set_option linter.unusedSimpArgs false
set_option maxRecDepth 100000
open Go.ChangeShapes Go.WideShapes Go.ChangeAt Go.RowKit

set_option maxHeartbeats 2000000 in
theorem behind12_c (w : World) (v : Value) (b : List UInt8) (c : UInt8) (hb : Bs w v b) (hl : b.length ≤ 1000000) : Calls Try.prog 29 #[v, .int .u8 c.toNat] w fun e w' => e = .returned (.agg (AL (cnB 0 b c.toNat))) ∧ Keep [] w w' := by
  have hz := (zero_of_info (P := Try.prog) alInfo).1
  have hsz := (zero_of_info (P := Try.prog) alInfo).2
  rw [← AL_zero] at hz
  have KA : Keep [] w ((w.alloc (.cells (AL fun _ => 0) 46)).alloc (.cells (AL fun _ => 0) 46)) := ((Keep.refl [] w).alloc _).alloc _
  have hb0 : Blk ((w.alloc (.cells (AL fun _ => 0) 46)).alloc (.cells (AL fun _ => 0) 46)) w.heap.size (AL fun _ => 0) 46 := (Blk.new w _ _).alloc _
  have hb1 : Blk ((w.alloc (.cells (AL fun _ => 0) 46)).alloc (.cells (AL fun _ => 0) 46)) (w.heap.size + 1) (AL fun _ => 0) 46 := by
    have := Blk.new (w.alloc (.cells (AL fun _ => 0) 46)) (AL fun _ => 0) 46
    simpa using this
  have HB := Lib.hid hb
  obtain ⟨a, cp, rfl, _, _⟩ := hb.shape
  clear hb
  generalize hZ : AL (fun _ => 0) = Z at hz hb0 hb1 KA
  have HZ := Lib.hid hZ
  have HS := Lib.hid hsz
  clear hZ hsz
  go_enter Try.func29, Try.ntmps29
  go_wp2_with fail
  go_loopw [6, 7] (fun lv i wr => ∃ (k : Nat) (f : Nat → Nat) (p : UInt8), k ≤ b.length ∧ i = .int .i64 k ∧ lv = .int .u8 p.toNat ∧ Blk wr (w.heap.size + 1) (AL f) 46 ∧ Blk wr w.heap.size Z 46 ∧ Keep [] w wr ∧ Hid (∀ x, f x + cnB p (b.drop k) c.toNat x = cnB 0 b c.toNat x)) (fun _ i _ => b.length - (intOf i).toNat)
  case atStart => exact ⟨0, fun _ => 0, 0, by omega, rfl, rfl, by rw [HZ.out]; exact hb1, hb0, KA, fun x => by simp⟩
  case round =>
    obtain ⟨k, f, p, hk, rfl, rfl, h1, h0, KK, HF⟩ := hrel
    by_cases hx : k < b.length
    · have t1 : decide (k < b.length) = true := by simpa using hx
      have hs : IntKind.i64.wrap ((k : Int) + 1) = ((k + 1 : Nat) : Int) := by rw [IntKind.wrap_i64]; omega
      obtain ⟨b0, o0, c0, e0, cell0⟩ := (HB.out.keep KK (by simp)).spot k hx
      obtain ⟨rfl, -⟩ : a = some ⟨b0, o0, none⟩ ∧ cp = c0 := by simpa using e0
      clear e0
      obtain ⟨y, hy⟩ : ∃ y, b[k] = y := ⟨_, rfl⟩
      rw [hy] at cell0
      have hdrop : b.drop k = y :: b.drop (k + 1) := by rw [List.drop_eq_getElem_cons hx, hy]
      have hstep := HF.out
      rw [hdrop] at hstep
      simp only [cnB] at hstep
      have HST := Lib.hid hstep
      have hfy : f y.toNat ≤ 1000000 := by
        have h1 := hstep y.toNat
        have := cnB_le 0 b c.toNat y.toNat
        omega
      have hy8 := y.toNat_lt
      have hy9 : y.toNat < 256 := by simpa using hy8
      have hy10 : (y.toNat : Int) < 256 := by omega
      clear hdrop hstep hy hy8
      by_cases hpc : p = c
      · subst hpc
        have cc := h1.cell y.toNat _ (AL_get f y.toNat hy9)
        have ff := h1.free y.toNat
        have hsum : IntKind.i64.wrap ((f y.toNat : Int) + 1) = (f y.toNat : Int) + 1 := by rw [IntKind.wrap_i64]; omega
        go_upto_region 7 with fail
        go_still_tail 12, (by kernel_rfl)
        have K2 : Keep [] wr wr.drew := (Keep.refl [] wr).drew
        have h1' := h1.keep K2 (by simp)
        have h0' := h0.keep K2 (by simp)
        have KK' := KK.drew
        have cell2 := K2.cell cell0 (by simp)
        change wpList _ _ _ _ _ wr.drew
        generalize wr.drew = w2 at h1' h0' KK' cell2 ⊢
        clear cc ff cell0 h1 h0 KK K2
        have cc := h1'.cell y.toNat _ (AL_get f y.toNat hy9)
        have ff := h1'.free y.toNat
        have e1 : (f y.toNat : Int) + 1 = ((f y.toNat + 1 : Nat) : Int) := by omega
        have hs1 : Blk (w2.setCell ⟨w.heap.size + 1, y.toNat, none⟩ (.int .i64 ((f y.toNat : Int) + 1))) (w.heap.size + 1) (AL fun i => if i = y.toNat then f y.toNat + 1 else f i) 46 := by
          have := h1'.set y.toNat (.int .i64 (f y.toNat + 1 : Nat))
          rw [AL_set _ _ _ hy9] at this
          rw [e1]; exact this
        clear e1
        have h0'' : Blk (w2.setCell ⟨w.heap.size + 1, y.toNat, none⟩ (.int .i64 ((f y.toNat : Int) + 1))) w.heap.size Z 46 := h0'.other (by simp) _
        have KC : Keep [] w (w2.setCell ⟨w.heap.size + 1, y.toNat, none⟩ (.int .i64 ((f y.toNat : Int) + 1))) := KK'.setCell (.inr (by simp)) _
        have cell3 : (w2.setCell ⟨w.heap.size + 1, y.toNat, none⟩ (.int .i64 ((f y.toNat : Int) + 1))).cell? ⟨b0, o0 + k, none⟩ = some (.int .u8 y.toNat) := by
          have hlt : b0 < w.heap.size := HB.out.lt (by intro e; rw [e] at hx; simp at hx) b0 rfl
          exact Keep.cell (S := [w.heap.size + 1]) ((Keep.refl _ w2).setCell (by simp) _) cell2 (by simp; omega)
        go_wp2_with fail
        go_roundw
        case rel =>
          refine ⟨k + 1, _, y, hx, rfl, rfl, hs1, h0'', KC, fun x => ?_⟩
          have := HST.out x
          by_cases e : x = y.toNat
          · subst e; rw [if_pos rfl]; rw [if_pos ⟨rfl, rfl⟩] at this; omega
          · rw [if_neg e]; rw [if_neg (fun h => e h.2.symm)] at this; omega
        case measure => simp [intOf]; omega
      · have t2 : ((p.toNat : Int) == (c.toNat : Int)) = false := by
          simp only [beq_eq_false_iff_ne]
          intro e; exact hpc (UInt8.toNat_inj.1 (by omega))
        have hne : ¬ p.toNat = c.toNat := fun e => hpc (UInt8.toNat_inj.1 e)
        have HNE := Lib.hid hne
        clear hpc hne
        go_wp2_with fail
        go_roundw
        case rel => exact ⟨k + 1, f, y, hx, rfl, rfl, h1, h0, KK, fun x => by have := HST.out x; rw [if_neg (fun e => HNE.out e.1)] at this; omega⟩
        case measure => simp [intOf]; omega
    · have t1 : decide (k < b.length) = false := by simpa using hx
      have hfe : f = cnB 0 b c.toNat := by
        funext x
        have := HF.out x
        rw [List.drop_of_length_le (by omega)] at this
        simpa [cnB] using this
      rw [hfe] at h1
      clear hx HF hfe
      have hz256 : Z.size = 256 := by rw [← HZ.out, AL_size]
      have hb2 := h0.setRow (AL (cnB 0 b c.toNat))
      have K2 : Keep [] w (wr.setRow w.heap.size (AL (cnB 0 b c.toNat))) := KK.trans (Keep.setRow _) (by simp)
      go_wp2_with (first | refine wpList_loadA256 rfl _ rfl _ rfl _ h1 ?_ | refine wpList_storeA256 rfl _ _ rfl _ _ rfl rfl _ _ h0 hz256 ?_)
      refine bodyPost_ret (results_cell256 rfl _ rfl hb2) rfl ?_
      exact ⟨rfl, K2⟩
end Go.Proofs.Ytlnknnmlepgjfaa
