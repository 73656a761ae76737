/- Contract of follow's Best. No condition beyond each theorem's own premises. -/
import Derived.Test.YtlnknnmlepgjfaaFol4
namespace Go.Proofs.Ytlnknnmlepgjfaa
open Sg
set_option linter.unusedVariables false
set_option linter.unusedSimpArgs false
set_option maxRecDepth 100000
open Go.ChangeShapes Go.WideShapes Go.ChangeAt Go.RowKit

/-- sets in the block q, whose followers lie from block N on -/
def SQ (w : World) (q N : Nat) (f : Nat → List UInt8) : Prop := ∃ cs, Blk w q cs 28 ∧ cs.size = 256 ∧ ∀ c, c < 256 → ∃ v, cs[c]? = some v ∧ Bs w v (f c) ∧ ∀ x, v.ownBlock = some x → N ≤ x
theorem SQ.keep {w w' : World} {q N : Nat} {f : Nat → List UInt8} (h : SQ w q N f) (k : Keep [] w w') : SQ w' q N f := by
  obtain ⟨cs, h1, h2, h3⟩ := h
  refine ⟨cs, h1.keep k (by simp), h2, fun c hc => ?_⟩
  obtain ⟨v, a, b, d⟩ := h3 c hc
  exact ⟨v, a, b.keep k (by simp), d⟩
theorem SQ.free {w : World} {q N : Nat} {f : Nat → List UInt8} (h : SQ w q N f) (c : Nat) : w.frozen? ⟨q, c, none⟩ = false := by
  obtain ⟨cs, h1, _⟩ := h; exact h1.free c
theorem SQ.cell {w : World} {q N : Nat} {f : Nat → List UInt8} (h : SQ w q N f) (c : Nat) (hc : c < 256) : ∃ v, w.cell? ⟨q, c, none⟩ = some v := by
  obtain ⟨cs, h1, h2, h3⟩ := h
  obtain ⟨v, a, _⟩ := h3 c hc
  exact ⟨v, h1.cell c _ a⟩
theorem SQ.set {w : World} {q N : Nat} {f : Nat → List UInt8} (h : SQ w q N f) (hqN : q < N) (c : Nat) (hc : c < 256) (v : Value) (l : List UInt8) (hv : Bs w v l) (hN : ∀ x, v.ownBlock = some x → N ≤ x) : SQ (w.setCell ⟨q, c, none⟩ v) q N (fun i => if i = c then l else f i) := by
  obtain ⟨cs, h1, h2, h3⟩ := h
  have KC : Keep [q] w (w.setCell ⟨q, c, none⟩ v) := (Keep.refl [q] w).setCell (by simp) _
  have hbs : ∀ (u : Value) l', Bs w u l' → (∀ x, u.ownBlock = some x → N ≤ x) → Bs (w.setCell ⟨q, c, none⟩ v) u l' := fun u l' hb hn => hb.keep KC (fun b hb' hm => by
    have := hn b hb'
    have : b = q := by simpa using hm
    omega)
  refine ⟨_, h1.set c v, by simp [h2], fun i hi => ?_⟩
  rw [Array.getElem?_setIfInBounds, h2]
  by_cases e : i = c
  · subst e
    rw [if_pos rfl, if_pos hc]
    exact ⟨v, rfl, by show Bs _ v (if i = i then l else f i); rw [if_pos rfl]; exact hbs v l hv hN, hN⟩
  · rw [if_neg (fun h => e h.symm)]
    obtain ⟨u, a, b, d⟩ := h3 i hi
    exact ⟨u, a, by show Bs _ u (if i = c then l else f i); rw [if_neg e]; exact hbs u _ b d, d⟩
theorem SQ.congr {w : World} {q N : Nat} {f f' : Nat → List UInt8} (h : SQ w q N f) (e : ∀ c, c < 256 → f c = f' c) : SQ w q N f' := by
  obtain ⟨cs, h1, h2, h3⟩ := h
  exact ⟨cs, h1, h2, fun c hc => by rw [← e c hc]; exact h3 c hc⟩
theorem fsetsInfo : (Try.prog.info? 28).map (fun i => (i.zero, i.size)) = some (some (.agg zset), 256) := by kernel_rfl
theorem fsetsSize : (Try.prog.info? 28).map (·.size) = some 256 := by kernel_rfl
theorem SQ.zero {w : World} {q N : Nat} (h : Blk w q zset 28) : SQ w q N (fun _ => []) := by
  refine ⟨zset, h, by simp [zset], fun c hc => ⟨.slice none 0 0, ?_, Bs.nil _, by simp [Value.ownBlock]⟩⟩
  simp [zset, hc]
theorem am_bound (b : List UInt8) (c : Nat) (R : List SEl) (h : Rk (cnB 0 b c) R) (hl : b.length ≤ 1000000) : am R R.length ≤ 1000000000 := by
  rw [← h.all]
  have h1 := sm_le (cnB 0 b c) (fun _ => b.length) 256 (fun x _ => cnB_le 0 b c x)
  rw [sm_const] at h1
  omega
set_option maxHeartbeats 4000000 in
theorem fol_best (w : World) (v : Value) (b : List UInt8) (hb : Bs w v b) (hl : b.length ≤ 1000000) : Calls Try.prog 8 #[v] w fun e w' => ∃ V, e = .returned V ∧ SV w' V (one12 b) ∧ Keep [] w w' := by
  have hz := (zero_of_info (P := Try.prog) fsetsInfo).1
  have KA : Keep [] w ((w.alloc (.cells zset 28)).alloc (.cells zset 28)) := ((Keep.refl [] w).alloc _).alloc _
  have h2 : Blk ((w.alloc (.cells zset 28)).alloc (.cells zset 28)) w.heap.size zset 28 := (Blk.new w _ _).alloc _
  have h3 : SQ ((w.alloc (.cells zset 28)).alloc (.cells zset 28)) (w.heap.size + 1) (w.heap.size + 2) (fun _ => []) := by
    refine SQ.zero ?_
    have := Blk.new (w.alloc (.cells zset 28)) zset 28
    simpa using this
  have hsz : ((w.alloc (.cells zset 28)).alloc (.cells zset 28)).heap.size = w.heap.size + 2 := by simp
  have hz256 : zset.size = 256 := by simp [zset]
  have HTC := Lib.hid (fun w' (k : Keep [] w w') => tally_c w' v b (hb.keep k (by simp)) hl)
  have HR := Lib.hid (fun w' g c (hc : c < 256) (h : Blk w' g (TA (cnB 0 b)) 61) => ranked_c w' g (c * 256) (cnB 0 b c) (fun x hx => h.cell (c * 256 + x) _ (TA_at (cnB 0 b) c x hc hx)))
  have HBB := Lib.hid (fun w' v' c R (hg : Gs ESl w' v' R) (hr : Rk (cnB 0 b c) R) => best1_c w' v' (cnB 0 b c) R hg hr (am_bound b c R hr hl))
  generalize zset = Z at hz KA h2 h3 hsz hz256
  clear hb
  go_enter Try.func8, Try.ntmps8
  go_wp2_with fail
  generalize (w.alloc (.cells Z 28)).alloc (.cells Z 28) = w1 at KA h2 h3 hsz ⊢
  refine (HTC.out w1 KA).mono ?_; rintro e w3 ⟨g, rfl, hgl, hT, k3⟩
  have HH2 := Lib.hid (h2.keep k3 (by simp))
  have HH3 := Lib.hid (h3.keep k3)
  have HKK := Lib.hid (KA.trans k3 (by simp))
  have HGT := Lib.hid hT
  have hsz3 : w.heap.size + 2 ≤ w3.heap.size := by have := k3.size; omega
  have HSZ := Lib.hid hsz3
  have HGL : Hid (w.heap.size + 2 ≤ g) := by unfold Hid; omega
  clear KA h2 h3 hT k3 HTC hgl hsz hsz3
  obtain ⟨q2, hq2⟩ : ∃ q, w.heap.size = q := ⟨_, rfl⟩
  obtain ⟨q3, hq3⟩ : ∃ q, q2 + 1 = q := ⟨_, rfl⟩
  rw [hq2] at HH2 HH3 HSZ HGL ⊢
  rw [hq3] at HH3 ⊢
  have HQ : Hid (w.heap.size = q2 ∧ q2 + 1 = q3) := ⟨hq2, hq3⟩
  clear hq2 hq3
  go_wp2_with fail
  go_loopw [8] (fun i wr => ∃ (k : Nat), k ≤ 256 ∧ i = .int .i64 k ∧ Hid (SQ wr q3 (q2 + 2) (fun c => if c < k then one12 b c else [])) ∧ Hid (Blk wr q2 Z 28) ∧ Hid (Blk wr g (TA (cnB 0 b)) 61) ∧ Hid (Keep [] w wr) ∧ Hid (q2 + 2 ≤ wr.heap.size)) (fun i _ => 256 - (intOf i).toNat)
  case atStart => exact ⟨0, by omega, rfl, HH3.out.congr (fun c _ => by rw [if_neg (by omega)]), HH2.out, HGT.out, HKK.out, HSZ.out⟩
  case round =>
    clear HH3 HH2 HGT HKK HSZ
    obtain ⟨k, hk, rfl, HS, H2, HG, HK, HSZ⟩ := hrel
    by_cases hlt : k < 256
    · have z1 : (k : Int) < 256 := by omega
      have hs1 : IntKind.i64.wrap ((k : Int) + 1) = ((k + 1 : Nat) : Int) := by rw [IntKind.wrap_i64]; omega
      go_wp2_with fail
      refine (HR.out wr g k hlt HG.out).mono ?_; rintro e w4 ⟨v4, R, rfl, hg4, hr4, k4⟩
      have HB4 := Lib.hid (HBB.out w4 v4 k R hg4 hr4)
      clear hg4 hr4
      have K4 := Lib.hid k4
      clear k4
      go_wp2_with fail
      refine HB4.out.mono ?_; rintro e w5 ⟨v5, rfl, ho5, k5, hb5⟩
      have hKr : Keep [] wr w5 := K4.out.trans k5 (by simp)
      have HS5 := Lib.hid (HS.out.keep hKr)
      obtain ⟨u, hcell⟩ := HS5.out.cell k hlt
      have hfr := HS5.out.free k
      have hq : q2 + 2 ≤ w5.heap.size := Nat.le_trans HSZ.out hKr.size
      have hb5' : ∀ x, v5.ownBlock = some x → q2 + 2 ≤ x := fun x hx => by
        have h1 := hb5 x hx
        have h2 := K4.out.size
        have h3 := HSZ.out
        omega
      have HS6 : Hid (SQ (w5.setCell ⟨q3, k, none⟩ v5) q3 (q2 + 2) (fun c => if c < k + 1 then one12 b c else [])) := (HS5.out.set (by have := HQ.out.2; omega) k hlt v5 (one12 b k) ho5.bs hb5').congr (fun c _ => by
        by_cases e : c = k
        · subst e; rw [if_pos rfl, if_pos (by omega)]
        · rw [if_neg e]
          by_cases e2 : c < k
          · rw [if_pos e2, if_pos (by omega)]
          · rw [if_neg e2, if_neg (by omega)])
      have hKC : Keep [q3] w5 (w5.setCell ⟨q3, k, none⟩ v5) := (Keep.refl [q3] w5).setCell (by simp) _
      have H26 : Hid (Blk (w5.setCell ⟨q3, k, none⟩ v5) q2 Z 28) := (H2.out.keep hKr (by simp)).keep hKC (by have := HQ.out.2; simp; omega)
      have HG6 : Hid (Blk (w5.setCell ⟨q3, k, none⟩ v5) g (TA (cnB 0 b)) 61) := (HG.out.keep hKr (by simp)).keep hKC (by have := HQ.out.2; have := HGL.out; simp; omega)
      have HK6 : Hid (Keep [] w (w5.setCell ⟨q3, k, none⟩ v5)) := (HK.out.trans hKr (by simp)).setCell (.inr (by have := HQ.out; simp; omega)) _
      have HSZ6 : Hid (q2 + 2 ≤ (w5.setCell ⟨q3, k, none⟩ v5).heap.size) := by unfold Hid; simpa using hq
      obtain ⟨a5, c5, rfl, _⟩ := ho5.bs.shape
      clear HS5 hKr k5 hb5 hb5' ho5 hKC hq HB4 K4 HS H2 HG HK HSZ
      go_wp2_with fail
      go_roundw
      case rel => exact ⟨k + 1, by omega, rfl, HS6, H26, HG6, HK6, HSZ6⟩
      case measure => simp [intOf]; omega
    · obtain rfl : k = 256 := by omega
      obtain ⟨cs, b1, b2, b3⟩ := HS.out
      have HB3 : Hid (∀ c, c < 256 → ∃ v, cs[c]? = some v ∧ Bs wr v (one12 b c) ∧ ∀ x, v.ownBlock = some x → q2 + 2 ≤ x) := fun c hc => by
        obtain ⟨v, h1, h2, h3⟩ := b3 c hc
        simp only [if_pos hc] at h2
        exact ⟨v, h1, h2, h3⟩
      have hone : ∀ v ∈ cs.toList, v.oneCell' = true := by
        intro v hv
        obtain ⟨i, hi, rfl⟩ := List.getElem_of_mem hv
        have hi2 : i < 256 := by simp at hi; omega
        obtain ⟨v, h1, h2, _⟩ := HB3.out i hi2
        obtain ⟨a, cp, rfl, _⟩ := h2.shape
        have : cs.toList[i] = .slice a (one12 b i).length cp := by
          have := Array.getElem?_eq_some_iff.1 h1
          simpa using this.2
        rw [this]; rfl
      have h2b := H2.out
      have hbq := h2b.setRow cs
      have KQ : Keep [q2] wr (wr.setRow q2 cs) := Keep.setRow _
      have HSV : Hid (SV (wr.setRow q2 cs) (.agg cs) (one12 b)) := ⟨cs, rfl, b2, fun c hc => by
        obtain ⟨v, h1, h2, h3⟩ := HB3.out c hc
        exact ⟨v, h1, h2.keep KQ (fun x hx hm => by have := h3 x hx; have : x = q2 := by simpa using hm
                                                    omega)⟩⟩
      have HKF : Hid (Keep [] w (wr.setRow q2 cs)) := HK.out.trans KQ (fun x hx => by simp at hx; subst hx; right; have := HQ.out; omega)
      have hsz256 : (Try.prog.info? 28).map (·.size) = some cs.size := by rw [b2]; exact fsetsSize
      have hall : cs.all (·.oneCell') = true := Array.all_eq_true_iff_forall_mem.2 fun v hv => hone v (by simpa using hv)
      have hoe : Z.size = cs.size := by rw [hz256, b2]
      have HB3b := HB3
      clear b3 HS HB3 hone HR HBB HG hz KQ HSZ
      go_wp2_with (first | refine wpList_load_row rfl 28 _ rfl q3 rfl _ _ _ _ b1 Try.underlying28 rfl hsz256 ?_ | refine wpList_store_row rfl 28 _ _ rfl q2 _ rfl rfl _ _ h2b hsz256 hoe hall ?_)
      refine bodyPost_ret (results_cellA rfl _ rfl hbq _ Try.underlying28 rfl hsz256) rfl ?_
      exact ⟨_, rfl, HSV.out, HKF.out⟩
end Go.Proofs.Ytlnknnmlepgjfaa
