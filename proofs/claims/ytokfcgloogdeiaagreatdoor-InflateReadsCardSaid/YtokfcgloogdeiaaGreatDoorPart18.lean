/- Texts put together: ConcI ConcN -/
import Derived.Test.YtokfcgloogdeiaaGreatDoorPart12
import Derived.Lib.AppendZeros
namespace Go.Proofs.YtokfcgloogdeiaaGreatDoor
set_option linter.unusedVariables false
set_option linter.unusedSimpArgs false
set_option maxRecDepth 100000
open Go.ChangeShapes Go.WideShapes Go.ChangeAt Go.RowKit

theorem growi_c (w : World) (n : Nat) (h0 : 0 < n) (hn : n ≤ 100000) : Calls Tryz.prog 105 #[.slice none 0 0, .int .i64 n] w fun e w' => ∃ g c, e = .returned (.slice (some ⟨g, 0, none⟩) 0 c) ∧ OwnI w' (.slice (some ⟨g, 0, none⟩) 0 c) [] ∧ Keep [] w w' ∧ w.heap.size ≤ g := by
  obtain ⟨i0, hi, hz0, hz1, hz2⟩ := info_parts info64
  have hge := grownCap_ge w n 0 3
  have hcm := grownCap_le_maxLen w n 0 3 (by unfold maxLen; omega)
  have hr := fun ty => Lib.run_append_nil_zeros (P := Tryz.prog) w 38 3 ty 3 i0 (.int .i64 0) .i64 .i64 Tryz.underlying38 Tryz.underlying3 hi hz0 n h0 (by omega) (by omega) (by rw [hz2]; omega)
  obtain ⟨C, hC⟩ : ∃ C, grownCap w n 0 3 = C := ⟨_, rfl⟩
  rw [hC] at hr hge hcm
  have hO : OwnI (w.drew.alloc (.cells (Builtin.zeroCells (Value.cells (.int .i64 0)) n ++ Builtin.zeroCells (Value.cells (.int .i64 0)) (C - n)) 3)) (.slice (some ⟨w.heap.size, 0, none⟩) 0 C) [] := by
    refine ⟨⟨by simp [ints64], .inr ⟨w.heap.size, C, _, rfl, Nat.zero_le _, heap_alloc_new w.drew _, Nat.zero_le _, hcm, ?_, by simp [ints64]⟩⟩, by simp⟩
    rw [Array.size_append, size_zeroCells, size_zeroCells]
    show n * 1 + (C - n) * 1 = C * 1
    omega
  have HO := Lib.hid hO
  have HK : Hid (Keep [] w (w.drew.alloc (.cells (Builtin.zeroCells (Value.cells (.int .i64 0)) n ++ Builtin.zeroCells (Value.cells (.int .i64 0)) (C - n)) 3))) := (Keep.refl [] w).drew.alloc _
  have HR := Lib.hid hr
  have hb1 : decide ((n : Int) < 0) = false := by simp
  have hb2 : decide ((n : Int) > 0) = true := by simp; omega
  have hb3 : (0 : Int) < (n : Int) := by omega
  clear hO hr hi hz0 hz1 hz2 hC
  go_enter Tryz.func105, Tryz.ntmps105
  go_wp2_with (at_builtin; refine Lib.wpList_append_run _ rfl (.tmp 20) (.tmp 21) _ _ rfl _ _ rfl rfl _ _ (HR.out _) ?_)
  go_ret
  exact ⟨w.heap.size, C, rfl, HO.out, HK.out, Nat.le_refl _⟩
def cat2 (l1 l2 : List Int) : Nat → List Int
  | 0 => []
  | 1 => l1
  | _ => l1 ++ l2
def siz2 (l1 l2 : List Int) : Nat → Nat
  | 0 => 0
  | 1 => l1.length
  | _ => l1.length + l2.length
set_option maxHeartbeats 4000000 in
theorem concat_c (w : World) (g : Nat) (v1 v2 : Value) (l1 l2 : List Int) (hg : Blk w g #[v1, v2] 38) (h1 : Is .i64 w v1 l1) (h2 : Is .i64 w v2 l2) (hl1 : l1.length ≤ 1000) (hl2 : l2.length ≤ 1000) (h0 : 0 < l1.length) :
    Calls Tryz.prog 88 #[.slice (some ⟨g, 0, none⟩) 2 2] w fun e w' => ∃ v', e = .returned v' ∧ OwnI w' v' (l1 ++ l2) ∧ Keep [] w w' ∧ ∀ b, v'.ownBlock = some b → w.heap.size ≤ b := by
  have HG := Lib.hid hg
  have HI1 := Lib.hid (fun w' (k : Keep [] w w') => h1.keep k (by simp))
  have HI2 := Lib.hid (fun w' (k : Keep [] w w') => h2.keep k (by simp))
  obtain ⟨a1, c1, rfl, _⟩ := h1.sh
  obtain ⟨a2, c2, rfl, _⟩ := h2.sh
  have HGR := Lib.hid (fun w' => growi_c w' (l1.length + l2.length) (by omega) (by omega))
  have e0 := hg.cell 0 _ rfl
  have e1 := hg.cell 1 _ rfl
  clear h1 h2 hg
  go_enter Tryz.func88, Tryz.ntmps88
  go_wp2_with fail
  go_loopw [3, 11] (fun sv iv wr => ∃ k : Nat, k ≤ 2 ∧ iv = .int .i64 k ∧ sv = .int .i64 (siz2 l1 l2 k) ∧ wr = w) (fun _ iv _ => 2 - (intOf iv).toNat)
  case atStart => exact ⟨0, by omega, rfl, rfl, rfl⟩
  case round =>
    obtain ⟨k, hk, rfl, rfl, hw⟩ := hrel
    subst hw
    have hc : k = 0 ∨ k = 1 ∨ k = 2 := by omega
    rcases hc with rfl | rfl | rfl
    · have hs : IntKind.i64.wrap (0 + (l1.length : Int)) = (l1.length : Int) := by rw [IntKind.wrap_i64]; omega
      simp only [siz2]
      go_wp2_with fail
      exact ⟨⟨1, by omega, rfl, rfl, trivial⟩, by simp [intOf]⟩
    · have hs : IntKind.i64.wrap ((l1.length : Int) + (l2.length : Int)) = ((l1.length + l2.length : Nat) : Int) := by rw [IntKind.wrap_i64]; omega
      simp only [siz2]
      go_wp2_with fail
      exact ⟨⟨2, by omega, rfl, rfl, trivial⟩, by simp [intOf]⟩
    · simp only [siz2]
      obtain ⟨n, hn⟩ : ∃ n, l1.length + l2.length = n := ⟨_, rfl⟩
      rw [hn] at HGR ⊢
      have hnn : ¬ (n : Int) < 0 := by omega
      have HNN : Hid (l1.length + l2.length = n) := hn
      clear hn
      go_wp2_with fail
      refine (HGR.out wr).mono ?_; rintro e w2 ⟨g2, c3, rfl, hO, k2, hg2⟩
      have HO := Lib.hid hO
      have HK := Lib.hid k2
      have HG2 : Hid (∀ b, (Value.slice (some (⟨g2, 0, none⟩ : Addr)) 0 c3).ownBlock = some b → wr.heap.size ≤ b) := fun b hb => by simp [Value.ownBlock] at hb; omega
      clear hO k2 hg2 HGR e0 e1
      go_wp2_with fail
      go_loopw [6, 27] (fun rv iv wx => ∃ (k : Nat) (a : Option Addr) (c : Nat), k ≤ 2 ∧ iv = .int .i64 k ∧ rv = .slice a (siz2 l1 l2 k) c ∧ Hid (OwnI wx (.slice a (siz2 l1 l2 k) c) (cat2 l1 l2 k)) ∧ Hid (Keep [] wr wx) ∧ Hid (∀ b, (Value.slice a (siz2 l1 l2 k) c).ownBlock = some b → wr.heap.size ≤ b)) (fun _ iv _ => 2 - (intOf iv).toNat)
      case atStart => exact ⟨0, some ⟨g2, 0, none⟩, c3, by omega, rfl, rfl, HO, HK, HG2⟩
      case round =>
        clear HO HK HG2
        obtain ⟨k, a, c, hk, rfl, rfl, HO, HK, HF⟩ := hrel
        have hc : k = 0 ∨ k = 1 ∨ k = 2 := by omega
        have hgx := HG.out.keep HK.out (by simp)
        have e0 := hgx.cell 0 _ rfl
        have e1 := hgx.cell 1 _ rfl
        clear hgx
        rcases hc with rfl | rfl | rfl
        · simp only [siz2, cat2] at HO HF ⊢
          have HX := Lib.hid (HI1.out _ HK.out)
          go_wp2_with (at_builtin; (refine wpList_appendI (.tmp 31) (.tmp 32) rfl rfl (.slice a 0 c) [] rfl HO.out _ l1 rfl HX.out (by first | omega | (simp; omega)) ?_); (intro v4 w4 ho4 hk4 hb4 hz4); (obtain ⟨a5, c5, hv5, -⟩ := ho4.is.sh); (subst hv5))
          refine ⟨⟨1, a5, c5, by omega, rfl, by simp [siz2], ?_, HK.out.trans hk4 (fun x hx => .inr (HF.out x (by simpa using hx))), fun b hb => ?_⟩, by simp [intOf]⟩
          · have h := ho4; simp only [List.nil_append] at h; exact h
          · rcases hb4 b (by simpa [siz2] using hb) with h | h
            · exact HF.out b h
            · rw [h]; exact HK.out.size
        · simp only [siz2, cat2] at HO HF ⊢
          have HX := Lib.hid (HI2.out _ HK.out)
          go_wp2_with (at_builtin; (refine wpList_appendI (.tmp 31) (.tmp 32) rfl rfl (.slice a l1.length c) l1 rfl HO.out _ l2 rfl HX.out (by first | omega | (simp; omega)) ?_); (intro v4 w4 ho4 hk4 hb4 hz4); (obtain ⟨a5, c5, hv5, -⟩ := ho4.is.sh); (subst hv5))
          refine ⟨⟨2, a5, c5, by omega, rfl, by simp [siz2], ?_, HK.out.trans hk4 (fun x hx => .inr (HF.out x (by simpa using hx))), fun b hb => ?_⟩, by simp [intOf]⟩
          · have h := ho4; simp only [List.length_append] at h; exact h
          · rcases hb4 b (by simpa [siz2] using hb) with h | h
            · exact HF.out b h
            · rw [h]; exact HK.out.size
        · simp only [siz2, cat2] at HO HF ⊢
          go_wp2_with fail
          go_ret
          exact ⟨_, rfl, HO.out, HK.out, HF.out⟩
end Go.Proofs.YtokfcgloogdeiaaGreatDoor
namespace Go.Proofs.YtokfcgloogdeiaaGreatDoor
set_option linter.unusedVariables false
set_option linter.unusedSimpArgs false
set_option maxRecDepth 100000
open Go.ChangeShapes Go.WideShapes Go.ChangeAt Go.RowKit

/-- the first k rows, one behind the other -/
def catN (ls : List (List Int)) (k : Nat) : List Int := (ls.take k).flatten
theorem catN_succ (ls : List (List Int)) (k : Nat) (x : List Int) (h : ls[k]? = some x) : catN ls (k + 1) = catN ls k ++ x := by
  unfold catN
  obtain ⟨hk, rfl⟩ := List.getElem?_eq_some_iff.1 h
  rw [List.take_succ_eq_append_getElem hk, List.flatten_append]
  simp
theorem catN_le (ls : List (List Int)) (k : Nat) (h : ∀ x ∈ ls, x.length ≤ 1000) (hk : k ≤ 4) : (catN ls k).length ≤ 1000 * k := by
  induction k with
  | zero => simp [catN]
  | succ k ih =>
    have ih := ih (by omega)
    by_cases hx : k < ls.length
    · rw [catN_succ ls k ls[k] (List.getElem?_eq_getElem hx), List.length_append]
      have := h ls[k] (List.getElem_mem hx)
      omega
    · have : catN ls (k + 1) = catN ls k := by unfold catN; rw [List.take_of_length_le (by omega), List.take_of_length_le (by omega)]
      rw [this]; omega
set_option maxHeartbeats 4000000 in
theorem concat4_c (w : World) (g : Nat) (vs : List Value) (ls : List (List Int)) (hv : vs.length = 4) (hls : ls.length = 4) (hg : Blk w g vs.toArray 38) (h : ∀ k, k < 4 → ∃ v l, vs[k]? = some v ∧ ls[k]? = some l ∧ Is .i64 w v l) (hl : ∀ x ∈ ls, x.length ≤ 1000) (h0 : 0 < (catN ls 4).length) :
    Calls Tryz.prog 88 #[.slice (some ⟨g, 0, none⟩) 4 4] w fun e w' => ∃ v', e = .returned v' ∧ OwnI w' v' (catN ls 4) ∧ Keep [] w w' ∧ ∀ b, v'.ownBlock = some b → w.heap.size ≤ b := by
  have hb4 := catN_le ls 4 hl (by decide)
  have HLE := Lib.hid (fun k hk => catN_le ls k hl hk)
  have HC : Hid (∀ k, k < 4 → ∃ (a : Option Addr) (c : Nat) (l : List Int), l.length ≤ 1000 ∧ catN ls (k + 1) = catN ls k ++ l ∧ (∀ w', Keep [] w w' → w'.cell? ⟨g, k, none⟩ = some (.slice a l.length c)) ∧ (∀ w', Keep [] w w' → Is .i64 w' (.slice a l.length c) l)) := by
    intro k hk
    obtain ⟨v, l, h1, h2, h3⟩ := h k hk
    obtain ⟨a, c, rfl, _⟩ := h3.sh
    refine ⟨a, c, l, hl l (List.mem_of_getElem? h2), catN_succ ls k l h2, fun w' k' => ?_, fun w' k' => h3.keep k' (by simp)⟩
    exact (hg.keep k' (by simp)).cell k _ (by simpa using h1)
  have HGR := Lib.hid (fun w' => growi_c w' (catN ls 4).length h0 (by omega))
  obtain ⟨N, hN⟩ : ∃ N, catN ls 4 = N := ⟨_, rfl⟩
  have HN := Lib.hid hN
  rw [hN] at HGR hb4 h0 ⊢
  clear h hg hl hN
  go_enter Tryz.func88, Tryz.ntmps88
  go_wp2_with fail
  go_loopw [3, 11] (fun sv iv wr => ∃ k s : Nat, k ≤ 4 ∧ iv = .int .i64 k ∧ sv = .int .i64 s ∧ Hid (s = (catN ls k).length) ∧ wr = w) (fun _ iv _ => 4 - (intOf iv).toNat)
  case atStart => exact ⟨0, 0, by omega, rfl, rfl, by first | rfl | simp [catN, Hid], rfl⟩
  case round =>
    obtain ⟨k, s, hk, rfl, rfl, HS, hw⟩ := hrel
    subst hw
    by_cases hlt : k < 4
    · obtain ⟨a, c, l, hl1, hl2, hcell, -⟩ := HC.out k hlt
      have e0 := hcell wr (Keep.refl [] wr)
      have hs4 : s ≤ 4000 := by have := HLE.out k hk; rw [← HS.out] at this; omega
      have HS2 : Hid (s + l.length = (catN ls (k + 1)).length) := by rw [hl2, List.length_append, ← HS.out]; rfl
      obtain ⟨s2, hs2⟩ : ∃ s2, s + l.length = s2 := ⟨_, rfl⟩
      rw [hs2] at HS2
      have hw1 : IntKind.i64.wrap ((s : Int) + (l.length : Int)) = (s2 : Int) := by rw [IntKind.wrap_i64]; omega
      have hk1 : IntKind.i64.wrap ((k : Int) + 1) = ((k + 1 : Nat) : Int) := by rw [IntKind.wrap_i64]; omega
      have hkz : (k : Int) < 4 := by omega
      have hneg : decide ((s2 : Int) < 0) = false := by simp
      clear hl2 hcell hs2 hs4 HS
      go_wp2_with fail
      exact ⟨⟨k + 1, s2, by omega, by first | rfl | simp, rfl, HS2, trivial⟩, by simp [intOf]; omega⟩
    · obtain rfl : k = 4 := by omega
      have hs : s = N.length := by rw [HS.out, HN.out]
      subst hs
      have hnn : ¬ (N.length : Int) < 0 := by omega
      clear HS hlt hk
      go_wp2_with fail
      refine (HGR.out wr).mono ?_; rintro e w2 ⟨g2, c3, rfl, hO, k2, hg2⟩
      have HO := Lib.hid hO
      have HK := Lib.hid k2
      have HG2 : Hid (∀ b, (Value.slice (some (⟨g2, 0, none⟩ : Addr)) 0 c3).ownBlock = some b → wr.heap.size ≤ b) := fun b hb => by simp [Value.ownBlock] at hb; omega
      clear hO k2 hg2 HGR
      go_wp2_with fail
      go_loopw [6, 27] (fun rv iv wx => ∃ (k : Nat) (a : Option Addr) (s c : Nat), k ≤ 4 ∧ iv = .int .i64 k ∧ rv = .slice a s c ∧ Hid (OwnI wx (.slice a s c) (catN ls k)) ∧ Hid (Keep [] wr wx) ∧ Hid (∀ b, (Value.slice a s c).ownBlock = some b → wr.heap.size ≤ b)) (fun _ iv _ => 4 - (intOf iv).toNat)
      case atStart => exact ⟨0, some ⟨g2, 0, none⟩, 0, c3, by omega, rfl, rfl, HO, HK, HG2⟩
      case round =>
        clear HO HK HG2
        obtain ⟨k, a, s, c, hk, rfl, rfl, HO, HK, HF⟩ := hrel
        by_cases hlt : k < 4
        · obtain ⟨a1, c1, l, hl1, hl2, hcell, his⟩ := HC.out k hlt
          have e0 := hcell _ HK.out
          have HX := Lib.hid (his _ HK.out)
          have HL2 := Lib.hid hl2
          have hkz : (k : Int) < 4 := by omega
          have hk1 : IntKind.i64.wrap ((k : Int) + 1) = ((k + 1 : Nat) : Int) := by rw [IntKind.wrap_i64]; omega
          have hle := HLE.out k hk
          clear hl2 hcell his
          go_wp2_with (at_builtin; (refine wpList_appendI (.tmp 31) (.tmp 32) rfl rfl (.slice a s c) (catN ls k) rfl HO.out _ l rfl HX.out (by first | omega | (simp; omega)) ?_); (intro v4 w4 ho4 hk4 hb4 hz4); (obtain ⟨a5, c5, hv5, -⟩ := ho4.is.sh); (subst hv5))
          refine ⟨⟨k + 1, a5, _, c5, by omega, by first | rfl | simp, rfl, ?_, HK.out.trans hk4 (fun x hx => .inr (HF.out x (by simpa using hx))), fun b hb => ?_⟩, by simp [intOf]; omega⟩
          · have h := ho4; rw [List.length_append, ← HL2.out] at h; exact h
          · rcases hb4 b (by simpa using hb) with h | h
            · exact HF.out b h
            · rw [h]; exact HK.out.size
        · obtain rfl : k = 4 := by omega
          have ho := HO.out
          rw [HN.out] at ho
          have HO2 := Lib.hid ho
          clear HO ho hlt hk
          go_wp2_with fail
          go_ret
          exact ⟨_, rfl, HO2.out, HK.out, HF.out⟩
end Go.Proofs.YtokfcgloogdeiaaGreatDoor
