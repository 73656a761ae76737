/- Contract of limit's own rising: the symbols that come, the seldomest first. -/
import Derived.Test.YtibhelfiibincaaLim1
namespace Go.Proofs.Ytibhelfiibincaa
set_option linter.unusedVariables false
set_option linter.unusedSimpArgs false
open Go.ChangeShapes Go.WideShapes Go.ChangeAt Go.RowKit

theorem compare_c (w : World) (x y : Int) : Calls Try.prog 29 #[.int .i64 x, .int .i64 y] w fun e w' => e = .returned (.int .i64 (cmpK x y)) ∧ ∃ n, w' = w.drewN n := by
  by_cases h1 : x < y
  · have hc : Hid (cmpK x y = -1) := by unfold Hid cmpK; rw [if_pos h1]
    go_enter Try.func29, Try.ntmps29
    go_wp2
    go_ret
    exact ⟨by rw [hc.out]; rfl, 0, rfl⟩
  · by_cases h2 : y < x
    · have hc : Hid (cmpK x y = 1) := by unfold Hid cmpK; rw [if_neg h1, if_pos h2]
      have h3 : x > y := h2
      go_enter Try.func29, Try.ntmps29
      go_wp2
      go_ret
      exact ⟨by rw [hc.out]; rfl, 0, rfl⟩
    · have hc : Hid (cmpK x y = 0) := by unfold Hid cmpK; rw [if_neg h1, if_neg h2]
      have h3 : ¬ x > y := h2
      go_enter Try.func29, Try.ntmps29
      go_wp2
      go_ret
      exact ⟨by rw [hc.out]; rfl, 0, rfl⟩
/-- a slice of numbers whose block is not g -/
theorem Is.awayCell {w w' : World} {v : Value} {zs : List Int} {g : Nat} (h : Is .i64 w v zs) (k : Keep [g] w w') (hv : v.ownBlock ≠ some g) : Is .i64 w' v zs :=
  h.keep k (fun b hb hm => hv (by rw [hb, show b = g by simpa using hm]))
set_option maxHeartbeats 1000000 in
theorem risingcmp_c (w0 : World) (bx g : Nat) (fv : Value) (zs : List Int) (h : Is .i64 w0 fv zs) (hv : fv.ownBlock ≠ some g) (hb : w0.cell? ⟨bx, 0, none⟩ = some fv) (hbg : bx ≠ g) :
    CmpBy 28 #[.pointer (some ⟨bx, 0, none⟩)] (fun x => 0 ≤ x ∧ x < zs.length) (fun x => zn zs x.toNat) w0 g := by
  refine ⟨fun args w => by kernel_rfl, fun w k x y hx hy => ?_⟩
  have hI := h.awayCell k hv
  have hc : w.cell? ⟨bx, 0, none⟩ = some fv := k.cell hb (by simpa using hbg)
  obtain ⟨i, rfl⟩ := Int.eq_ofNat_of_zero_le hx.1
  obtain ⟨j, rfl⟩ := Int.eq_ofNat_of_zero_le hy.1
  have hi : i < zs.length := by omega
  have hj : j < zs.length := by omega
  obtain ⟨b, off, cap, rfl, e1⟩ := hI.at i hi
  obtain ⟨b', off', cap', hv', e2⟩ := hI.at j hj
  simp only [Value.slice.injEq] at hv'
  obtain ⟨hx1, hx2, rfl⟩ := hv'
  injection hx1 with hx1
  injection hx1 with hx1 hx3 _
  subst hx1 hx3
  clear hx2
  rw [← zn_get zs i hi] at e1
  rw [← zn_get zs j hj] at e2
  have hbl : zs.length ≤ 9223372036854775807 := hI.sh.choose_spec.choose_spec.2
  show Calls Try.prog _ #[.int .i64 i, .int .i64 j, .pointer (some ⟨bx, 0, none⟩)] w _
  simp only [Int.toNat_natCast]
  generalize zn zs i = p at e1
  generalize zn zs j = q at e2
  have HQ := Lib.hid (fun n => compare_c (w.drewN n) p q)
  generalize cmpK p q = c at HQ
  have hiz : (i : Int) < (zs.length : Int) := by omega
  have hjz : (j : Int) < (zs.length : Int) := by omega
  clear h hI hx hy hb hbg hv k
  go_enter Try.func28, Try.ntmps28
  go_wp2_with fail
  go_quiet ((go_at_call 29; exact Calls.quiet_of (HQ.out _)))
  go_wp2_with fail
  go_ret
  exact ⟨rfl, _, rfl⟩
theorem Is.blt {k : IntKind} {w : World} {v : Value} {zs : List Int} (h : Is k w v zs) (hz : 0 < zs.length) : ∀ b, v.ownBlock = some b → b < w.heap.size := by
  intro b hb
  obtain ⟨b', off, cap, rfl, hc⟩ := h.at 0 hz
  have := World.block_lt_of_cell? w _ hc
  simp only [Value.ownBlock, Option.some.injEq] at hb
  subst hb
  simpa using this
/-- the symbols below k that come -/
def ords (zs : List Int) (k : Nat) : List Int := ((List.range k).filter fun i => decide (fn zs i ≠ 0)).map Int.ofNat
theorem ords_step (zs : List Int) (k : Nat) (hk : k < zs.length) : ords zs (k + 1) = if 0 < zs[k] then ords zs k ++ [(k : Int)] else ords zs k := by
  unfold ords
  rw [List.range_succ, List.filter_append, List.map_append]
  have hf := fn_get zs k hk
  by_cases h : 0 < zs[k]
  · have hd : decide (fn zs k ≠ 0) = true := by rw [decide_eq_true_eq]; omega
    rw [if_pos h]; simp only [List.filter_cons, hd, List.filter_nil]; rfl
  · have hd : decide (fn zs k ≠ 0) = false := by rw [decide_eq_false_iff_not]; omega
    rw [if_neg h]; simp only [List.filter_cons, hd, List.filter_nil]; simp
theorem ords_len (zs : List Int) (k : Nat) : (ords zs k).length ≤ k := by
  unfold ords
  rw [List.length_map]
  exact Nat.le_trans (List.length_filter_le _ _) (by simp)
theorem ords_mem (zs : List Int) (k : Nat) (x : Int) (h : x ∈ ords zs k) : 0 ≤ x ∧ x < k := by
  unfold ords at h
  simp only [List.mem_map, List.mem_filter, List.mem_range] at h
  obtain ⟨i, ⟨h1, _⟩, rfl⟩ := h
  constructor
  · exact Int.natCast_nonneg i
  · exact Int.ofNat_lt.2 h1
theorem OwnI.blk {w : World} {v : Value} {l : List Int} (h : OwnI w v l) (hn : v ≠ .slice none 0 0) : ∃ g c, v = .slice (some ⟨g, 0, none⟩) l.length c := by
  rcases h.1.2 with ⟨h', _⟩ | ⟨g', cap', cur, h', _⟩
  · exact absurd h' hn
  · exact ⟨g', cap', h'⟩
theorem wf_nat (k : Nat) (h : k ≤ 9223372036854775807) : (Lit.int .i64 (k : Int)).wf = true := by
  simp [Lit.wf, IntKind.min, IntKind.max, IntKind.bits, IntKind.signed]; omega
set_option maxRecDepth 100000 in
set_option maxHeartbeats 2000000 in
theorem rising_c (w : World) (v : Value) (zs : List Int) (hlen : zs.length ≤ 4096) (h : Is .i64 w v zs) : Calls Try.prog 22 #[v] w fun e w' => ∃ g c os, e = .returned (.slice (some ⟨g, 0, none⟩) os.length c) ∧ OwnI w' (.slice (some ⟨g, 0, none⟩) os.length c) os ∧ Keep [] w w' ∧ w.heap.size ≤ g ∧ os.Perm (ords zs zs.length) ∧ Srt (fun x => zn zs x.toNat) os 0 os.length := by
  have HI := Lib.hid (fun w' (k : Keep [] w w') i hi => (h.keep k (by simp)).at i hi)
  have H := Lib.hid h
  obtain ⟨a, cap, rfl, hl⟩ := h.sh
  have hmk := fun w' => run_make_intsC w' 0 zs.length (Nat.zero_le _) (by omega)
  rw [show ((0 : Nat) : Int) = 0 from rfl] at hmk
  clear h
  go_enter Try.func22, Try.ntmps22
  go_wp2_with fail
  clear hmk
  have K0 : Keep [] w ((w.alloc (.cells #[.slice a zs.length cap] 22)).alloc (.cells (madeCells #[.int .i64 0] zs.length) 3)) := ((Keep.refl [] w).alloc _).alloc _
  have hO := OwnI.made0 (w.alloc (.cells #[.slice a zs.length cap] 22)) zs.length (by omega)
  have hB := ((Blk.new w #[.slice a zs.length cap] 22).alloc (.cells (madeCells #[.int .i64 0] zs.length) 3)).cell 0 _ rfl
  rw [show (w.alloc (.cells #[.slice a zs.length cap] 22)).heap.size = w.heap.size + 1 by simp] at hO
  generalize (w.alloc (.cells #[.slice a zs.length cap] 22)).alloc (.cells (madeCells #[.int .i64 0] zs.length) 3) = w1 at K0 hO hB ⊢
  obtain ⟨bx, hbx⟩ : ∃ x, w.heap.size = x := ⟨_, rfl⟩
  rw [hbx] at hO hB ⊢
  have HBX := Lib.hid hbx
  clear hbx
  go_loopw [3, 11] (fun ov i wr => ∃ (k g c : Nat) (os : List Int), k ≤ zs.length ∧ os.length ≤ k ∧ i = .int .i64 k ∧ ov = .slice (some ⟨g, 0, none⟩) os.length c ∧ OwnI wr (.slice (some ⟨g, 0, none⟩) os.length c) os ∧ Keep [] w wr ∧ bx < g ∧ wr.cell? ⟨bx, 0, none⟩ = some (.slice a zs.length cap) ∧ Hid (os = ords zs k)) (fun _ i _ => zs.length - (intOf i).toNat)
  case atStart => exact ⟨0, bx + 1, zs.length, [], by omega, by simp, rfl, rfl, hO, K0, by omega, hB, rfl⟩
  case round =>
    clear hO K0 hB
    obtain ⟨k, g, c, os, hk, hol, rfl, rfl, hO, K, hbg, hB, HOS⟩ := hrel
    by_cases hlt : k < zs.length
    · obtain ⟨b, off, cap', hv, e1⟩ := HI.out wr K k hlt
      simp only [Value.slice.injEq] at hv
      obtain ⟨rfl, h2, rfl⟩ := hv
      clear h2
      have HST := Lib.hid (ords_step zs k hlt)
      have hwf := wf_nat k (by omega)
      generalize zs[k] = z at e1 HST
      have hltz : (k : Int) < (zs.length : Int) := by omega
      by_cases h0 : 0 < z
      · have h0z : z > 0 := h0
        rw [if_pos h0] at HST
        go_wp2_with (at_builtin; (refine wpList_appendI (.tmp 18) (.tmp 20) rfl rfl (.slice (some ⟨g, 0, none⟩) os.length c) os rfl (hO.keep ((Keep.refl [] _).alloc _) (by simp)) _ [(k : Int)] rfl (Is.lit1 _ (k : Int) hwf) (by simp; omega) ?_); (intro v7 w7 E7 k7 hp7 hn7); (obtain ⟨g7, c7, hv7⟩ := E7.blk (hn7 (by simp))); (subst hv7))
        have K7 : Keep [] w w7 := (K.alloc _).trans k7 (fun x hx => .inr (by
          have := HBX.out
          simp [Value.ownBlock] at hx; omega))
        have hB7 : w7.cell? ⟨bx, 0, none⟩ = some (.slice (some ⟨b, off, none⟩) zs.length cap) := k7.cell (((Keep.refl [] wr).alloc _).cell hB (by simp)) (by simp [Value.ownBlock]; omega)
        have hg7 : bx < g7 := by
          rcases hp7 g7 rfl with h | h
          · simp [Value.ownBlock] at h; omega
          · have := HBX.out
            have := K.size
            simp at h; omega
        have HO7 : Hid (os ++ [(k : Int)] = ords zs (k + 1)) := by unfold Hid; rw [HST.out, ← HOS.out]
        have hl7 : (os ++ [(k : Int)]).length ≤ k + 1 := by simp; omega
        have hl8 : (os ++ [(k : Int)]).length = os.length + 1 := by simp
        clear k7 hp7 hn7 hO K hB HST HOS hwf h0 h0z
        generalize os ++ [(k : Int)] = os7 at *
        have HL8 := Lib.hid hl8
        clear hl8
        go_wp2_with fail
        go_roundw
        case rel => exact ⟨k + 1, g7, c7, os7, by omega, hl7, by go_num, by rw [HL8.out], E7, K7, hg7, hB7, HO7⟩
        case measure => simp [intOf]; omega
      · have h0z : ¬ z > 0 := h0
        rw [if_neg h0] at HST
        have HO7 : Hid (os = ords zs (k + 1)) := by unfold Hid; rw [HST.out, ← HOS.out]
        go_wp2_with fail
        go_roundw
        case rel => exact ⟨k + 1, g, c, os, by omega, by omega, by go_num, rfl, hO, K, hbg, hB, HO7⟩
        case measure => simp [intOf]; omega
    · obtain rfl : k = zs.length := by omega
      have HW : Hid (w.heap.size ≤ g) := by unfold Hid; have := HBX.out; omega
      have hcm : CmpBy 28 #[.pointer (some ⟨bx, 0, none⟩)] (fun x => 0 ≤ x ∧ x < zs.length) (fun x => zn zs x.toNat) wr g := by
        by_cases hz0 : zs.length = 0
        · exact ⟨fun args w => by kernel_rfl, fun w k x y hx hy => by exfalso; omega⟩
        · exact risingcmp_c wr bx g _ zs (H.out.keep K (by simp)) (fun e => by have := H.out.blt (by omega) g e; have := HW.out; omega) hB (by omega)
      have HS := Lib.hid (sortstable_c _ _ _ _ wr g os.length c os hO hcm (fun x hx => by rw [HOS.out] at hx; exact ords_mem zs _ x hx) (by omega))
      clear hcm hO hB
      go_wp2_with fail
      refine HS.out.mono ?_; rintro e w2 ⟨rfl, o2, O2, K2, P2, R2⟩
      have hl2 : o2.length = os.length := P2.length_eq
      rw [← hl2] at O2 R2
      go_wp2_with fail
      go_ret
      exact ⟨g, c, o2, by rw [hl2]; rfl, O2, K.trans K2 (fun x hx => .inr (by have := HW.out; simp at hx; omega)), HW.out, HOS.out ▸ P2, R2⟩
end Go.Proofs.Ytibhelfiibincaa
