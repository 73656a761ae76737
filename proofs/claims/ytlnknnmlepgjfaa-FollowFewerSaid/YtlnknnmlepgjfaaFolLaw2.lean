/- The walk of FollowFewer. -/
import Derived.Test.YtlnknnmlepgjfaaFolLaw1
import Derived.Test.YtlnknnmlepgjfaaQuietTail
namespace Go.Proofs.Ytlnknnmlepgjfaa
set_option linter.unusedVariables false
set_option linter.unusedSimpArgs false
set_option maxRecDepth 100000
open Go.ChangeShapes Go.WideShapes Go.ChangeAt Go.RowKit

theorem folSize : (Try.prog.info? 28).map (·.size) = some 256 := by kernel_rfl
/-- two writers and sets in a block, all of them of the call's own -/
def TW (W w : World) (g : Nat) (cs : Array Value) (r1 r2 : Nat) (bs1 bs2 : List Bool) (v1 v2 : Value) : Prop :=
  Wr w r1 v1 bs1 ∧ Wr w r2 v2 bs2 ∧ Blk w g cs 28 ∧ Keep [] W w ∧ (W.heap.size ≤ g ∧ W.heap.size ≤ r1 ∧ W.heap.size ≤ r2 ∧ g ≠ r1 ∧ g ≠ r2 ∧ r1 ≠ r2) ∧ (g < w.heap.size ∧ r1 < w.heap.size ∧ r2 < w.heap.size) ∧
  (∀ x, v1.ownBlock = some x → W.heap.size ≤ x ∧ x ≠ g ∧ x ≠ r2 ∧ v2.ownBlock ≠ some x ∧ x < w.heap.size) ∧ (∀ x, v2.ownBlock = some x → W.heap.size ≤ x ∧ x ≠ g ∧ x ≠ r1 ∧ x < w.heap.size)
theorem TW.keep {W w w' : World} {g : Nat} {cs : Array Value} {r1 r2 : Nat} {bs1 bs2 : List Bool} {v1 v2 : Value} (h : TW W w g cs r1 r2 bs1 bs2 v1 v2) (k : Keep [] w w') : TW W w' g cs r1 r2 bs1 bs2 v1 v2 := by
  obtain ⟨a, b, c, d, e, f, g1, g2⟩ := h
  have := k.size
  exact ⟨a.keep k (by simp) (by simp), b.keep k (by simp) (by simp), c.keep k (by simp), d.trans k (by simp), e, by omega, fun x hx => by have := g1 x hx; exact ⟨this.1, this.2.1, this.2.2.1, this.2.2.2.1, by omega⟩, fun x hx => by have := g2 x hx; exact ⟨this.1, this.2.1, this.2.2.1, by omega⟩⟩
theorem TW.one {W w w' : World} {g : Nat} {cs : Array Value} {r1 r2 : Nat} {bs1 bs2 bs' : List Bool} {v1 v2 v' : Value} (h : TW W w g cs r1 r2 bs1 bs2 v1 v2) (hw : Wr w' r1 v' bs') (k : Keep (r1 :: v1.ownBlock.toList) w w') (hb : ∀ b, v'.ownBlock = some b → v1.ownBlock = some b ∨ w.heap.size ≤ b) (hlt : ∀ b, v'.ownBlock = some b → b < w'.heap.size) : TW W w' g cs r1 r2 bs' bs2 v' v2 := by
  obtain ⟨a, b, c, d, e, f, g1, g2⟩ := h
  have hs := k.size
  have hd := d.size
  have nin : ∀ z, z ≠ r1 → (v1.ownBlock ≠ some z) → z ∉ r1 :: v1.ownBlock.toList := by
    intro z h1 h2 hm
    rcases List.mem_cons.1 hm with h | h
    · exact h1 h
    · exact h2 (by simpa using h)
  refine ⟨hw, b.keep k (nin r2 (Ne.symm e.2.2.2.2.2) (fun h => (g1 r2 h).2.2.1 rfl)) (fun x hx => nin x (g2 x hx).2.2.1 (fun h => (g1 x h).2.2.2.1 hx)), c.keep k (nin g e.2.2.2.1 (fun h => (g1 g h).2.1 rfl)), ?_, e, by omega, fun x hx => ?_, fun x hx => by have := g2 x hx; exact ⟨this.1, this.2.1, this.2.2.1, by omega⟩⟩
  · exact d.trans k (fun z hz => .inr (by
      rcases List.mem_cons.1 hz with h | h
      · rw [h]; exact e.2.1
      · exact (g1 z (by simpa using h)).1))
  · rcases hb x hx with h | h
    · have := g1 x h; exact ⟨this.1, this.2.1, this.2.2.1, this.2.2.2.1, by omega⟩
    · exact ⟨by omega, by omega, by omega, fun h2 => by have := (g2 x h2).2.2.2; omega, hlt x hx⟩
theorem TW.two {W w w' : World} {g : Nat} {cs : Array Value} {r1 r2 : Nat} {bs1 bs2 bs' : List Bool} {v1 v2 v' : Value} (h : TW W w g cs r1 r2 bs1 bs2 v1 v2) (hw : Wr w' r2 v' bs') (k : Keep (r2 :: v2.ownBlock.toList) w w') (hb : ∀ b, v'.ownBlock = some b → v2.ownBlock = some b ∨ w.heap.size ≤ b) (hlt : ∀ b, v'.ownBlock = some b → b < w'.heap.size) : TW W w' g cs r1 r2 bs1 bs' v1 v' := by
  obtain ⟨a, b, c, d, e, f, g1, g2⟩ := h
  have hs := k.size
  have hd := d.size
  have nin : ∀ z, z ≠ r2 → (v2.ownBlock ≠ some z) → z ∉ r2 :: v2.ownBlock.toList := by
    intro z h1 h2 hm
    rcases List.mem_cons.1 hm with h | h
    · exact h1 h
    · exact h2 (by simpa using h)
  refine ⟨a.keep k (nin r1 e.2.2.2.2.2 (fun h => (g2 r1 h).2.2.1 rfl)) (fun x hx => nin x (g1 x hx).2.2.1 (g1 x hx).2.2.2.1), hw, c.keep k (nin g e.2.2.2.2.1 (fun h => (g2 g h).2.1 rfl)), ?_, e, by omega, fun x hx => ?_, fun x hx => ?_⟩
  · exact d.trans k (fun z hz => .inr (by
      rcases List.mem_cons.1 hz with h | h
      · rw [h]; exact e.2.2.1
      · exact (g2 z (by simpa using h)).1))
  · have := g1 x hx
    refine ⟨this.1, this.2.1, this.2.2.1, fun h2 => ?_, by omega⟩
    rcases hb x h2 with h | h
    · exact this.2.2.2.1 h
    · omega
  · rcases hb x hx with h | h
    · have := g2 x h; exact ⟨this.1, this.2.1, this.2.2.1, by omega⟩
    · exact ⟨by omega, by omega, by omega, hlt x hx⟩
theorem Wr.lt {w : World} {r : Nat} {v : Value} {bs : List Bool} (h : Wr w r v bs) : ∀ b, v.ownBlock = some b → b < w.heap.size := by
  obtain ⟨l, x, k, h1, _⟩ := h
  exact h1.2.1.lt
theorem TW.off1 {W w : World} {g : Nat} {cs : Array Value} {r1 r2 : Nat} {bs1 bs2 : List Bool} {v1 v2 : Value} (h : TW W w g cs r1 r2 bs1 bs2 v1 v2) {V : Value} {s : Nat → List UInt8} (hV : SV W V s) : SVo w V s (r1 :: v1.ownBlock.toList) :=
  hV.off w h.2.2.2.1 (fun x hx => by
    rcases List.mem_cons.1 hx with e | e
    · rw [e]; exact h.2.2.2.2.1.2.1
    · exact (h.2.2.2.2.2.2.1 x (by simpa using e)).1)
theorem TW.off2 {W w : World} {g : Nat} {cs : Array Value} {r1 r2 : Nat} {bs1 bs2 : List Bool} {v1 v2 : Value} (h : TW W w g cs r1 r2 bs1 bs2 v1 v2) {V : Value} {s : Nat → List UInt8} (hV : SV W V s) : SVo w V s (r2 :: v2.ownBlock.toList) :=
  hV.off w h.2.2.2.1 (fun x hx => by
    rcases List.mem_cons.1 hx with e | e
    · rw [e]; exact h.2.2.2.2.1.2.2.1
    · exact (h.2.2.2.2.2.2.2 x (by simpa using e)).1)
theorem tw_sets1 {W w : World} {g : Nat} {cs : Array Value} {r1 r2 : Nat} {bs1 bs2 : List Bool} {v1 v2 : Value} (h : TW W w g cs r1 r2 bs1 bs2 v1 v2) {V : Value} {s : Nat → List UInt8} (hV : SV W V s) (hl : bs1.length ≤ 1000000) :
    Calls Try.prog 12 #[.pointer (some ⟨r1, 0, none⟩), V] w fun e w' => e = .returned (.tuple #[]) ∧ ∃ v', TW W w' g cs r1 r2 (bs1 ++ fss s 256) bs2 v' v2 := by
  refine (fol_putsets w r1 v1 bs1 V s h.1 (h.off1 hV) (by omega)).mono ?_
  rintro e w' ⟨v', he, hw, hk, hb⟩
  exact ⟨he, v', h.one hw hk hb hw.lt⟩
theorem tw_sets2 {W w : World} {g : Nat} {cs : Array Value} {r1 r2 : Nat} {bs1 bs2 : List Bool} {v1 v2 : Value} (h : TW W w g cs r1 r2 bs1 bs2 v1 v2) {V : Value} {s : Nat → List UInt8} (hV : SV W V s) (hl : bs2.length ≤ 1000000) :
    Calls Try.prog 12 #[.pointer (some ⟨r2, 0, none⟩), V] w fun e w' => e = .returned (.tuple #[]) ∧ ∃ v', TW W w' g cs r1 r2 bs1 (bs2 ++ fss s 256) v1 v' := by
  refine (fol_putsets w r2 v2 bs2 V s h.2.1 (h.off2 hV) (by omega)).mono ?_
  rintro e w' ⟨v', he, hw, hk, hb⟩
  exact ⟨he, v', h.two hw hk hb hw.lt⟩
theorem tw_put1 {W w : World} {g : Nat} {cs : Array Value} {r1 r2 : Nat} {bs1 bs2 : List Bool} {v1 v2 : Value} (h : TW W w g cs r1 r2 bs1 bs2 v1 v2) {V : Value} {s : Nat → List UInt8} (hV : SV W V s) (p c : UInt8) (hl : bs1.length ≤ 1000000) :
    Calls Try.prog 13 #[.pointer (some ⟨r1, 0, none⟩), V, .int .u8 p.toNat, .int .u8 c.toNat] w fun e w' => e = .returned (.tuple #[]) ∧ ∃ v', TW W w' g cs r1 r2 (bs1 ++ fput (s p.toNat) c) bs2 v' v2 := by
  refine (fol_put w r1 v1 bs1 V s p c h.1 (h.off1 hV) (by omega)).mono ?_
  rintro e w' ⟨v', he, hw, hk, hb⟩
  exact ⟨he, v', h.one hw hk hb hw.lt⟩
theorem tw_put2 {W w : World} {g : Nat} {cs : Array Value} {r1 r2 : Nat} {bs1 bs2 : List Bool} {v1 v2 : Value} (h : TW W w g cs r1 r2 bs1 bs2 v1 v2) {V : Value} {s : Nat → List UInt8} (hV : SV W V s) (p c : UInt8) (hl : bs2.length ≤ 1000000) :
    Calls Try.prog 13 #[.pointer (some ⟨r2, 0, none⟩), V, .int .u8 p.toNat, .int .u8 c.toNat] w fun e w' => e = .returned (.tuple #[]) ∧ ∃ v', TW W w' g cs r1 r2 bs1 (bs2 ++ fput (s p.toNat) c) v1 v' := by
  refine (fol_put w r2 v2 bs2 V s p c h.2.1 (h.off2 hV) (by omega)).mono ?_
  rintro e w' ⟨v', he, hw, hk, hb⟩
  exact ⟨he, v', h.two hw hk hb hw.lt⟩
set_option maxHeartbeats 4000000 in
theorem folfewer_w (W0 : World) (v0 : Value) (l0 : List UInt8) (h0 : Bs W0 v0 l0) : Calls Try.prog 4 #[v0] W0 fun e w' => e = .returned (.bool true) ∧ Keep [] W0 w' := by
  have hz := (zero_of_info (P := Try.prog) folInfo).1
  have HZV := Lib.hid (fun w => SV.zero w)
  have hzs : zset.size = 256 := by simp [zset]
  generalize zset = Z at hz HZV hzs
  go_enter Try.func4, Try.ntmps4
  go_wp2_with fail
  refine (cut_c W0 v0 l0 300 (by decide) h0).mono ?_; rintro e w1 ⟨v1, rfl, h1, -, rfl⟩
  have hlen : (l0.take 300).length ≤ 300 := by rw [List.length_take]; omega
  generalize l0.take 300 = b at h1 hlen
  clear h0
  have hle := best_fewer b
  have hfl := fss_len (one12 b) 256 (one12_len b)
  have hfz := fss_len (fun _ => []) 256 (fun _ => by simp)
  rw [sm_eq _ (fun _ => 0) 256 (fun i _ => by simp), sm_zero] at hfz
  obtain ⟨F1, hF1⟩ : ∃ F, fss (fun _ => []) 256 = F := ⟨_, rfl⟩
  obtain ⟨F2, hF2⟩ : ∃ F, fss (one12 b) 256 = F := ⟨_, rfl⟩
  rw [hF1] at hfz
  rw [hF2] at hfl
  have HF1 := Lib.hid hF1; have HF2 := Lib.hid hF2
  clear hF1 hF2
  obtain ⟨S8, hS8⟩ : ∃ S8, sm (fun c => 8 * (one12 b c).length) 256 = S8 := ⟨_, rfl⟩
  rw [hS8] at hle hfl
  obtain ⟨a1, c1, rfl, _⟩ := h1.shape
  have HLE := Lib.hid hle; have HFL := Lib.hid hfl; have HFZ := Lib.hid hfz
  clear hle hfl hfz hS8
  go_wp2_with fail
  refine (fol_best W0 _ b h1 (by omega)).mono ?_; rintro e W ⟨V, rfl, hV, kW⟩
  have h2 := h1.keep kW (by simp)
  obtain ⟨cs, rfl, hcs⟩ := hV
  have HV := Lib.hid (⟨cs, rfl, hcs⟩ : SV W (.agg cs) (one12 b))
  have hcs1 : cs.all (·.oneCell') = true := Array.all_eq_true_iff_forall_mem.2 fun v hv => hcs.one v (by simpa using hv)
  have hcss : cs.size = 256 := hcs.1
  have hgz := Blk.new W Z 28
  have KG1 : Keep [] W (W.alloc (.cells Z 28)) := (Keep.refl [] W).alloc _
  have hg := hgz.setRow cs
  have KG : Keep [] W ((W.alloc (.cells Z 28)).setRow W.heap.size cs) := KG1.trans (Keep.setRow _) (by simp)
  clear hcs
  go_wp2_with (refine wpList_store_row rfl 28 _ _ rfl W.heap.size cs rfl rfl _ _ hgz (by rw [hcss]; exact folSize) (by rw [hzs, hcss]) hcs1 ?_)
  obtain ⟨g, hgg⟩ : ∃ g, W.heap.size = g := ⟨_, rfl⟩
  have HG := Lib.hid hgg
  rw [hgg] at hg KG ⊢
  clear hgz KG1 hgg
  generalize (W.alloc (.cells Z 28)).setRow g cs = w3 at hg KG ⊢
  refine (new_c w3).mono ?_; rintro e w4 ⟨r1, rfl, hw1, k4, hr1⟩
  go_wp2_with fail
  refine (new_c w4).mono ?_; rintro e w5 ⟨r2, rfl, hw2, k5, hr2⟩
  have T0 : TW W w5 g cs r1 r2 [] [] (.slice none 0 0) (.slice none 0 0) := by
    have s3 := KG.size
    have s4 := k4.size
    have hr1l := hw1
    have hr2l := hw2
    obtain ⟨l1, x1, y1, ww1, _⟩ := hw1
    obtain ⟨l2, x2, y2, ww2, _⟩ := hw2
    have b1 := ww1.1.lt
    have b2 := ww2.1.lt
    have bg := hg.lt
    exact ⟨hr1l.keep k5 (by simp) (by simp), hr2l, (hg.keep k4 (by simp)).keep k5 (by simp), (KG.trans k4 (by simp)).trans k5 (by simp), ⟨by have := HG.out; omega, by omega, by omega, by omega, by omega, by omega⟩, ⟨by have := k5.size; omega, by have := k5.size; omega, b2⟩, by simp [Value.ownBlock], by simp [Value.ownBlock]⟩
  have h5 := ((h2.keep KG (by simp)).keep k4 (by simp)).keep k5 (by simp)
  clear hg KG hw1 hw2 k4 k5 hr1 hr2
  have ht1 := tw_sets1 T0 (HZV.out W) (by simp)
  rw [HF1.out, List.nil_append] at ht1
  have HT1 := Lib.hid ht1; clear ht1
  go_wp2_with fail
  refine HT1.out.mono ?_; rintro e w6 ⟨rfl, v6, T6⟩
  have ht2 := tw_sets2 T6 HV.out (by simp)
  rw [HF2.out, List.nil_append] at ht2
  have HT2 := Lib.hid ht2; clear ht2
  have hgb := T6.2.2.1
  go_wp2_with (refine wpList_load_row rfl 28 _ rfl g rfl _ _ _ _ hgb Try.underlying28 rfl (by rw [hcss]; exact folSize) ?_)
  refine HT2.out.mono ?_; rintro e w7 ⟨rfl, v7, T7⟩
  clear T0 T6 hgb HT1 HT2 h5
  have HB := Lib.hid h2
  go_wp2_with fail
  go_loopw [6, 7] (fun pv iv wr => ∃ (k : Nat) (p : UInt8) (bs1 bs2 : List Bool) (u1 u2 : Value), k ≤ b.length ∧ iv = .int .i64 k ∧ pv = .int .u8 p.toNat ∧ TW W wr g cs r1 r2 bs1 bs2 u1 u2 ∧ Hid (bs1.length = 1536 + 8 * k) ∧ Hid (bs2.length + tl (one12 b) p (b.drop k) = 1536 + S8 + tl (one12 b) 0 b)) (fun _ iv _ => b.length - (intOf iv).toNat)
  case atStart => exact ⟨0, 0, _, _, _, _, by omega, rfl, rfl, T7, by unfold Hid; have := HFZ.out; omega, by unfold Hid; have := HFL.out; rw [List.drop_zero]; omega⟩
  case round =>
    obtain ⟨k, p, bs1, bs2, u1, u2, hk, rfl, rfl, T, HL1, HL2⟩ := hrel
    by_cases hx : k < b.length
    · have t1 : decide (k < b.length) = true := by simpa using hx
      have hs : IntKind.i64.wrap ((k : Int) + 1) = ((k + 1 : Nat) : Int) := by rw [IntKind.wrap_i64]; omega
      obtain ⟨b0, o0, c0, e0, cellW⟩ := HB.out.spot k hx
      obtain ⟨rfl, -⟩ : a1 = some ⟨b0, o0, none⟩ ∧ c1 = c0 := by simpa using e0
      clear e0
      have hdrop : b.drop k = b[k] :: b.drop (k + 1) := List.drop_eq_getElem_cons hx
      obtain ⟨y, hy⟩ : ∃ y, b[k] = y := ⟨_, rfl⟩
      rw [hy] at cellW hdrop
      have cell := T.2.2.2.1.cell cellW (by simp)
      have HCE := Lib.hid cellW
      clear cellW
      have hl1 := HL1.out
      have hl2 := HL2.out
      rw [hdrop] at hl2
      simp only [tl] at hl2
      have hle := HLE.out
      have HT1 := Lib.hid (tw_put1 T (HZV.out W) p y (by omega))
      have hq1 : (fput [] y : List Bool).length = 8 := by rw [fput_len _ _ (by simp)]; rfl
      have hq2 : (fput (one12 b p.toNat) y).length = pl (one12 b p.toNat) y.toNat := fput_len _ _ (one12_len b _)
      have hL1 : Hid ((bs1 ++ fput [] y).length = 1536 + 8 * (k + 1)) := by unfold Hid; rw [List.length_append, hq1]; omega
      have hL2 : Hid ((bs2 ++ fput (one12 b p.toNat) y).length + tl (one12 b) y (b.drop (k + 1)) = 1536 + S8 + tl (one12 b) 0 b) := by unfold Hid; rw [List.length_append, hq2]; omega
      have hbl : bs2.length ≤ 1000000 := by omega
      clear hdrop hy hl1 hl2 hq1 hq2 hle
      go_wp2_with fail
      refine HT1.out.mono ?_; rintro e w8 ⟨rfl, v8, T8⟩
      have cell8 := T8.2.2.2.1.cell (p := ⟨b0, o0 + k, none⟩) (v := .int .u8 y.toNat) HCE.out (by simp)
      have HLD := Lib.hid (fun p : Kept w8 => (T8.2.2.1.keep p.h (by simp)).load (P := Try.prog) _ Try.underlying28 rfl (by rw [hcss]; exact folSize))
      go_wp2_with fail
      refine wp_region_kept_tail 7 (by kernel_rfl) (by kernel_rfl) ?_
      simp only [List.take_succ_cons, List.take_zero, List.drop_succ_cons, List.drop_zero]
      quiet_step (fail)
      refine wpQuiet_loadA 28 _ rfl rfl _ rfl _ HLD.out ?_
      have cellq : ∀ q : Kept w8, q.x.cell? ⟨b0, o0 + k, none⟩ = some (.int .u8 y.toNat) := fun q => q.h.cell cell8 (by simp)
      repeat (quiet_step (fail))
      refine wpQuiet_nil ?_
      rintro _ ⟨⟨w9, k9⟩, rfl⟩
      have T9 := T8.keep k9
      have HT2 := Lib.hid (tw_put2 T9 HV.out p y hbl)
      have cell9 := T9.2.2.2.1.cell (p := ⟨b0, o0 + k, none⟩) (v := .int .u8 y.toNat) HCE.out (by simp)
      clear cell cell8 cellq T T8
      go_wp2_with fail
      refine HT2.out.mono ?_; rintro e w10 ⟨rfl, v10, T10⟩
      have cell10 := T10.2.2.2.1.cell (p := ⟨b0, o0 + k, none⟩) (v := .int .u8 y.toNat) HCE.out (by simp)
      go_wp2_with fail
      go_roundw
      case rel => exact ⟨k + 1, y, _, _, v8, v10, by omega, rfl, rfl, T10, hL1, hL2⟩
      case measure => simp [intOf]; omega
    · have t1 : decide (k < b.length) = false := by simpa using hx
      have hl1 := HL1.out
      have hl2 := HL2.out
      have hle := HLE.out
      have hk2 : k = b.length := by omega
      rw [List.drop_of_length_le (by omega)] at hl2
      simp only [tl, Nat.add_zero] at hl2
      have HN1 := Lib.hid (fun w' (kk : Keep [] wr w') => wlen_c w' r1 u1 bs1 (T.keep kk).1 (by omega))
      have HN2 := Lib.hid (fun w' (kk : Keep [] wr w') => wlen_c w' r2 u2 bs2 (T.keep kk).2.1 (by omega))
      obtain ⟨n1, hn1⟩ : ∃ n1, bs1.length = n1 := ⟨_, rfl⟩
      obtain ⟨n2, hn2⟩ : ∃ n2, bs2.length = n2 := ⟨_, rfl⟩
      rw [hn1] at HN1 hl1
      rw [hn2] at HN2 hl2
      have q1 : decide (n2 ≤ n1) = true := by simp; omega
      have q2 : IntKind.i64.wrap (8 * (b.length : Int)) = 8 * b.length := by rw [IntKind.wrap_i64]; omega
      have q3 : IntKind.i64.wrap (1536 + 8 * (b.length : Int)) = 1536 + 8 * b.length := by rw [IntKind.wrap_i64]; omega
      have q4 : ((n1 : Int) == 1536 + 8 * (b.length : Int)) = true := by simp; omega
      have KK := T.2.2.2.1
      clear hl1 hl2 hle hn1 hn2 hk2 hx T T7
      go_wp2_with fail
      refine (HN2.out wr (Keep.refl _ _)).mono ?_; rintro e w8 ⟨rfl, m8, rfl⟩
      go_wp2_with fail
      refine (HN1.out _ ((Keep.refl _ _).drewN m8)).mono ?_; rintro e w9 ⟨rfl, m9, rfl⟩
      go_wp2_with fail
      refine (HN1.out _ ((Keep.refl _ _).drewN _)).mono ?_; rintro e w10 ⟨rfl, m10, rfl⟩
      have K10 : Keep [] W ((wr.drewN (m8 + m9)).drewN m10) := (KK.drewN _).drewN _
      generalize (wr.drewN (m8 + m9)).drewN m10 = w11 at K10 ⊢
      go_wp2_with fail
      refine (lives12_c w11).mono ?_; rintro e w12 ⟨rfl, k12⟩
      go_wp2_with fail
      go_ret
      exact ⟨rfl, (kW.trans K10 (by simp)).trans k12 (by simp)⟩
end Go.Proofs.Ytlnknnmlepgjfaa
