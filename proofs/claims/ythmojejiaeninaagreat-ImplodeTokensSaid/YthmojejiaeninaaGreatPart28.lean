/- Texts put together: Tok8 FinTok -/
import Derived.Test.YthmojejiaeninaaGreatPart8
import Derived.Test.YthmojejiaeninaaGreatPart21
namespace Go.Proofs.YthmojejiaeninaaGreat
set_option linter.unusedVariables false
set_option linter.unusedSimpArgs false
open Go.ChangeShapes Go.WideShapes Go.ChangeAt Go.RowKit

theorem wf_natT (n : Nat) (h : n ≤ 9223372036854775807) : (Lit.int .i64 (n : Int)).wf = true := by simp [Lit.wf, IntKind.min, IntKind.max, IntKind.bits, IntKind.signed]; omega
theorem pcs_wf (d : Int) (hd : (Lit.int .i64 d).wf = true) (most : Nat) (hm : most ≤ 9223372036854775807) (n : Nat) : ∀ t ∈ pcs d most n, t.wf := by
  induction n using Nat.strongRecOn with
  | _ n ih =>
    by_cases h : n = 0 ∨ most = 0
    · rw [pcs, dif_pos h]; simp
    · rw [pcs, dif_neg h]
      intro t ht
      rcases List.mem_cons.1 ht with h1 | h1
      · subst h1; exact ⟨hd, wf_natT _ (by omega)⟩
      · exact ih (n - most) (by omega) t h1
end Go.Proofs.YthmojejiaeninaaGreat
namespace Go.Proofs.YthmojejiaeninaaGreat
set_option linter.unusedVariables false
set_option linter.unusedSimpArgs false
set_option maxRecDepth 100000
open Go.ChangeShapes Go.WideShapes Go.ChangeAt Go.RowKit

set_option maxRecDepth 100000 in
set_option maxHeartbeats 2000000 in
theorem fits1_c (w : World) (t : Tk) (s : Sh) (h : fits1 s t) : Calls Tryz.prog 64 #[.agg t.cells.toArray, s.val] w fun e w' => e = .returned (.bool true) ∧ Keep [] w w' := by
  obtain ⟨c, d, l⟩ := t
  obtain ⟨win, mn, mx, ch, lz⟩ := s
  have HK : Hid (Keep [] w ((w.alloc (.cells #[.int .u8 c.toNat, .int .i64 d, .int .i64 l] 42)).alloc (.cells #[.int .i64 win, .int .i64 mn, .int .i64 mx, .int .i64 ch, .bool lz] 46))) := ((Keep.refl [] w).alloc _).alloc _
  show Calls Tryz.prog 64 #[.agg #[.int .u8 c.toNat, .int .i64 d, .int .i64 l], .agg #[.int .i64 win, .int .i64 mn, .int .i64 mx, .int .i64 ch, .bool lz]] w _
  unfold fits1 at h
  simp only at h
  rcases h with ⟨rfl, rfl⟩ | ⟨h0, h1, h2, h3, h4⟩
  · go_enter Tryz.func64, Tryz.ntmps64
    go_wp2_with fail
    go_ret
    exact ⟨rfl, HK.out⟩
  · go_enter Tryz.func64, Tryz.ntmps64
    go_wp2_with fail
    go_ret
    exact ⟨rfl, HK.out⟩
set_option maxRecDepth 100000 in
set_option maxHeartbeats 2000000 in
theorem tok_fits (w : World) (v : Value) (ts : List Tk) (s : Sh) (h : Ts w v ts) (hf : fitsT ts s) : Calls Tryz.prog 28 #[v, s.val] w fun e w' => e = .returned (.bool true) ∧ Keep [] w w' := by
  have HI := Lib.hid (fun w' (k : Keep [] w w') i hi => (h.keep k (by simp)).at i hi)
  have HF : Hid (∀ t ∈ ts, fits1 s t) := fun t ht => by
    unfold fitsT at hf
    exact of_decide_eq_true (List.all_eq_true.1 hf t ht)
  obtain ⟨a, cap, rfl, hl⟩ := h.sh
  have HFC := Lib.hid (fun ww t (ht : fits1 s t) => fits1_c ww t s ht)
  obtain ⟨win, mn, mx, ch, lz⟩ := s
  have HFC2 : Hid (∀ ww (t : Tk), fits1 ⟨win, mn, mx, ch, lz⟩ t → Calls Tryz.prog 64 #[.agg #[.int .u8 t.lit.toNat, .int .i64 t.dist, .int .i64 t.len], .agg #[.int .i64 win, .int .i64 mn, .int .i64 mx, .int .i64 ch, .bool lz]] ww fun e w' => e = .returned (.bool true) ∧ Keep [] ww w') := HFC.out
  have HK0 : Hid (Keep [] w (w.alloc (.cells #[.int .i64 win, .int .i64 mn, .int .i64 mx, .int .i64 ch, .bool lz] 46))) := (Keep.refl [] w).alloc _
  have HB0 : Hid (Blk (w.alloc (.cells #[.int .i64 win, .int .i64 mn, .int .i64 mx, .int .i64 ch, .bool lz] 46)) w.heap.size #[.int .i64 win, .int .i64 mn, .int .i64 mx, .int .i64 ch, .bool lz] 46) := Blk.new _ _ _
  show Calls Tryz.prog 28 #[_, .agg #[.int .i64 win, .int .i64 mn, .int .i64 mx, .int .i64 ch, .bool lz]] w _
  clear h hf HFC
  go_enter Tryz.func28, Tryz.ntmps28
  go_wp2_with fail
  generalize w.alloc (.cells #[.int .i64 win, .int .i64 mn, .int .i64 mx, .int .i64 ch, .bool lz] 46) = w1 at HK0 HB0 ⊢
  generalize w.heap.size = q at HB0 ⊢
  go_loopw [9] (fun i wr => ∃ (k : Nat), k ≤ ts.length ∧ i = .int .i64 k ∧ Hid (Keep [] w wr) ∧ Hid (Blk wr q #[.int .i64 win, .int .i64 mn, .int .i64 mx, .int .i64 ch, .bool lz] 46)) (fun i _ => ts.length - (intOf i).toNat)
  case atStart => exact ⟨0, by omega, rfl, HK0.out, HB0.out⟩
  case round =>
    obtain ⟨k, hk, rfl, HK, HB⟩ := hrel
    clear HK0 HB0
    by_cases hlt : k < ts.length
    · have z1 : (k : Int) < (ts.length : Int) := by omega
      obtain ⟨b, off, cap1, hv, e1, e2, e3⟩ := HI.out wr HK.out k hlt
      simp only [Value.slice.injEq] at hv
      obtain ⟨rfl, h2, rfl⟩ := hv
      clear h2
      have HT := Lib.hid (fun ww => HFC2.out ww ts[k] (HF.out _ (List.getElem_mem hlt)))
      generalize ts[k] = t at e1 e2 e3 HT
      have HK2 : Hid (Keep [] w (wr.alloc (.cells #[.int .u8 t.lit.toNat, .int .i64 t.dist, .int .i64 t.len] 42))) := HK.out.alloc _
      have HB2 : Hid (Blk (wr.alloc (.cells #[.int .u8 t.lit.toNat, .int .i64 t.dist, .int .i64 t.len] 42)) q #[.int .i64 win, .int .i64 mn, .int .i64 mx, .int .i64 ch, .bool lz] 46) := HB.out.alloc _
      have c0 := HB2.out.cell 0 _ rfl
      have c1 := HB2.out.cell 1 _ rfl
      have c2 := HB2.out.cell 2 _ rfl
      have c3 := HB2.out.cell 3 _ rfl
      have c4 := HB2.out.cell 4 _ rfl
      simp only [List.getElem_toArray, List.getElem_cons_zero, List.getElem_cons_succ] at c0 c1 c2 c3 c4
      clear HFC2
      go_wp2_with fail
      refine (HT.out _).mono ?_; rintro e w2 ⟨rfl, k2⟩
      have HK3 : Hid (Keep [] w w2) := HK2.out.trans k2 (by simp)
      have HB3 : Hid (Blk w2 q #[.int .i64 win, .int .i64 mn, .int .i64 mx, .int .i64 ch, .bool lz] 46) := HB2.out.keep k2 (by simp)
      clear k2 HT c0 c1 c2 c3 c4 HK2 HB2
      go_wp2_with fail
      go_roundw
      case rel => exact ⟨k + 1, by omega, by go_num, HK3, HB3⟩
      case measure => simp [intOf]; omega
    · obtain rfl : k = ts.length := by omega
      go_wp2_with fail
      go_ret
      exact ⟨rfl, HK.out⟩
end Go.Proofs.YthmojejiaeninaaGreat
