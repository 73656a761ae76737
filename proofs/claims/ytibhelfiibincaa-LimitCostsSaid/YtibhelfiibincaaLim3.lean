/- Contracts of limit's own weights and pairs. -/
import Derived.Test.YtibhelfiibincaaLim2
import Derived.BigRegion
namespace Go.Proofs.Ytibhelfiibincaa
set_option linter.unusedVariables false
set_option linter.unusedSimpArgs false
open Go.ChangeShapes Go.WideShapes Go.ChangeAt Go.RowKit

theorem zn_rep (n i : Nat) : zn (List.replicate n 0) i = 0 := by
  unfold zn
  rw [List.getD_eq_getElem?_getD, List.getElem?_replicate]
  split <;> rfl
set_option maxRecDepth 100000 in
set_option maxHeartbeats 1000000 in
theorem weights_c (w : World) (fv ov : Value) (zs os : List Int) (hlo : os.length ≤ 4096) (h : Is .i64 w fv zs) (h' : Is .i64 w ov os) (hm : ∀ i, i < os.length → 0 ≤ zn os i ∧ zn os i < zs.length) :
    Calls Try.prog 25 #[fv, ov] w fun e w' => ∃ g ws, e = .returned (.slice (some ⟨g, 0, none⟩) os.length os.length) ∧ OwnI w' (.slice (some ⟨g, 0, none⟩) os.length os.length) ws ∧ Keep [] w w' ∧ w.heap.size ≤ g ∧ ∀ i, i < os.length → zn ws i = zn zs (zn os i).toNat := by
  have HI := Lib.hid (fun w' (k : Keep [] w w') i hi => (h.keep k (by simp)).at i hi)
  have HI' := Lib.hid (fun w' (k : Keep [] w w') i hi => (h'.keep k (by simp)).at i hi)
  have HMM := Lib.hid hm
  have hwf : Hid (∀ z ∈ zs, (Lit.int .i64 z).wf = true) := by obtain ⟨_, _, _, _, _, _, _, h6⟩ := h; exact h6
  obtain ⟨a, cap, rfl, hl⟩ := h.sh
  obtain ⟨a', cap', rfl, hl'⟩ := h'.sh
  have hmk := fun w' => run_make_intsC w' os.length os.length (Nat.le_refl _) (by omega)
  clear h h' hm
  go_enter Try.func25, Try.ntmps25
  go_wp2_with fail
  clear hmk
  have K0 : Keep [] w (w.alloc (.cells (madeCells #[.int .i64 0] os.length) 3)) := (Keep.refl [] w).alloc _
  have hO := OwnI.made w os.length (by omega)
  generalize w.alloc (.cells (madeCells #[.int .i64 0] os.length) 3) = w1 at K0 hO ⊢
  obtain ⟨g, hg⟩ : ∃ x, w.heap.size = x := ⟨_, rfl⟩
  rw [hg] at hO ⊢
  have HG := Lib.hid hg
  clear hg
  go_loopw [13] (fun i wr => ∃ (k : Nat) (ws : List Int), k ≤ os.length ∧ i = .int .i64 k ∧ OwnI wr (.slice (some ⟨g, 0, none⟩) os.length os.length) ws ∧ Keep [] w wr ∧ Hid (∀ i, i < k → zn ws i = zn zs (zn os i).toNat)) (fun i _ => os.length - (intOf i).toNat)
  case atStart => exact ⟨0, _, by omega, rfl, hO, K0, fun i hi => by omega⟩
  case round =>
    clear hO K0
    obtain ⟨k, ws, hk, rfl, hO, K, HE⟩ := hrel
    by_cases hlt : k < os.length
    · obtain ⟨b', off', cap1', hv, e1⟩ := HI'.out wr K k hlt
      simp only [Value.slice.injEq] at hv
      obtain ⟨rfl, h2, rfl⟩ := hv
      clear h2
      obtain ⟨m1, m2⟩ := HMM.out k hlt
      rw [← zn_get os k hlt] at e1
      obtain ⟨s, hs⟩ := Int.eq_ofNat_of_zero_le m1
      rw [hs] at e1
      have hsz : s < zs.length := by omega
      obtain ⟨b, off, cap1, hv, e2⟩ := HI.out wr K s hsz
      simp only [Value.slice.injEq] at hv
      obtain ⟨rfl, h2, rfl⟩ := hv
      clear h2
      rw [← zn_get zs s hsz] at e2
      have hln := hO.sl
      have f1 := hO.cell k (by omega)
      have f2 := hO.free k
      have hO2 := hO.store k (zn zs s) (by rw [zn_get zs s hsz]; exact hwf.out _ (List.getElem_mem hsz))
      have hwl : ws.length = os.length := by omega
      have HE2 : Hid (∀ i, i < k + 1 → zn (ws.set k (zn zs s)) i = zn zs (zn os i).toNat) := fun i hi => by
        rw [zn_set _ _ _ _ (by omega)]
        by_cases e : i = k
        · rw [if_pos e, e, hs]; simp
        · rw [if_neg e]; exact HE.out i (by omega)
      have K2 : Keep [] w (wr.setCell ⟨g, k, none⟩ (.int .i64 (zn zs s))) := K.setCell (.inr (by have := HG.out; simp; omega)) _
      have hsz2 : (s : Int) < (zs.length : Int) := by omega
      have hkz : (k : Int) < (os.length : Int) := by omega
      generalize zn zs s = z at e2 hO2 HE2 K2
      generalize zn ws k = y at f1
      generalize ws.set k z = ws2 at hO2 HE2
      clear hO K HE m1 m2 hs hln hwl
      go_wp2_with fail
      go_roundw
      case rel => exact ⟨k + 1, ws2, by omega, by go_num, hO2, K2, HE2⟩
      case measure => simp [intOf]; omega
    · obtain rfl : k = os.length := by omega
      go_wp2_with fail
      go_ret
      exact ⟨g, ws, rfl, hO, K, by rw [HG.out]; exact Nat.le_refl _, HE.out⟩
set_option maxRecDepth 100000 in
set_option maxHeartbeats 2000000 in
theorem pairs_c (w : World) (rv : Value) (rs : List Int) (hlr : rs.length ≤ 100000) (h : Is .i64 w rv rs) (hb : ∀ i, 0 ≤ zn rs i ∧ zn rs i ≤ 72057594037927936) :
    Calls Try.prog 32 #[rv] w fun e w' => ∃ g ps, e = .returned (.slice (some ⟨g, 0, none⟩) (rs.length / 2) (rs.length / 2)) ∧ OwnI w' (.slice (some ⟨g, 0, none⟩) (rs.length / 2) (rs.length / 2)) ps ∧ Keep [] w w' ∧ w.heap.size ≤ g ∧ ∀ i, i < rs.length / 2 → zn ps i = zn rs (2 * i) + zn rs (2 * i + 1) := by
  have HI := Lib.hid (fun w' (k : Keep [] w w') i hi => (h.keep k (by simp)).at i hi)
  have HBB := Lib.hid hb
  obtain ⟨a, cap, rfl, hl⟩ := h.sh
  obtain ⟨n, hn⟩ : ∃ n, n = rs.length / 2 := ⟨_, rfl⟩
  rw [← hn]
  have hmk := fun w' => run_make_intsC w' n n (Nat.le_refl _) (by omega)
  have hn1 : (rs.length : Int).tdiv 2 = (n : Int) := by rw [Int.tdiv_eq_ediv_of_nonneg (by omega)]; omega
  have hn2 : (rs.length : Int) / 2 = (n : Int) := by omega
  have hn3 : 2 * n ≤ rs.length := by omega
  have hn4 : n ≤ 100000 := by omega
  clear h hb hn
  go_enter Try.func32, Try.ntmps32
  go_wp2_with fail
  clear hmk hn1 hn2
  have K0 : Keep [] w (w.alloc (.cells (madeCells #[.int .i64 0] n) 3)) := (Keep.refl [] w).alloc _
  have hO := OwnI.made w n (by omega)
  generalize w.alloc (.cells (madeCells #[.int .i64 0] n) 3) = w1 at K0 hO ⊢
  obtain ⟨g, hg⟩ : ∃ x, w.heap.size = x := ⟨_, rfl⟩
  rw [hg] at hO ⊢
  have HG := Lib.hid hg
  clear hg
  go_loopw [11] (fun i wr => ∃ (k : Nat) (ps : List Int), k ≤ n ∧ i = .int .i64 k ∧ OwnI wr (.slice (some ⟨g, 0, none⟩) n n) ps ∧ Keep [] w wr ∧ Hid (∀ i, i < k → zn ps i = zn rs (2 * i) + zn rs (2 * i + 1))) (fun i _ => n - (intOf i).toNat)
  case atStart => exact ⟨0, _, by omega, rfl, hO, K0, fun i hi => by omega⟩
  case round =>
    clear hO K0
    obtain ⟨k, ps, hk, rfl, hO, K, HE⟩ := hrel
    by_cases hlt : k < n
    · obtain ⟨d, hd⟩ : ∃ d, d = 2 * k := ⟨_, rfl⟩
      have hd1 : d + 1 < rs.length := by omega
      obtain ⟨b, off, cap1, hv, e1⟩ := HI.out wr K d (by omega)
      simp only [Value.slice.injEq] at hv
      obtain ⟨rfl, h2, rfl⟩ := hv
      clear h2
      obtain ⟨b2, off2, cap2, hv, e2⟩ := HI.out wr K (d + 1) hd1
      simp only [Value.slice.injEq] at hv
      obtain ⟨h1, h2, rfl⟩ := hv
      injection h1 with h1
      injection h1 with h1 h3 _
      subst h1 h3
      clear h2
      rw [← zn_get rs d (by omega)] at e1
      rw [← zn_get rs (d + 1) hd1] at e2
      have B1 := HBB.out d
      have B2 := HBB.out (d + 1)
      have hln := hO.sl
      have f1 := hO.cell k (by omega)
      have f2 := hO.free k
      have hO2 := (hO.store k (zn rs d + zn rs (d + 1)) (by simp [Lit.wf, IntKind.min, IntKind.max, IntKind.bits, IntKind.signed]; omega)).keep ((Keep.refl [] _).drew) (by simp)
      have hwl : ps.length = n := by omega
      have HE2 : Hid (∀ i, i < k + 1 → zn (ps.set k (zn rs d + zn rs (d + 1))) i = zn rs (2 * i) + zn rs (2 * i + 1)) := fun i hi => by
        rw [zn_set _ _ _ _ (by omega)]
        by_cases e : i = k
        · rw [if_pos e, e, hd]
        · rw [if_neg e]; exact HE.out i (by omega)
      have K2 : Keep [] w (wr.setCell ⟨g, k, none⟩ (.int .i64 (zn rs d + zn rs (d + 1)))).drew := (K.setCell (.inr (by have := HG.out; simp; omega)) _).drew
      have hkz : (k : Int) < (n : Int) := by omega
      have r1 : 2 * (k : Int) = (d : Int) := by omega
      have r2 : (d : Int) + 1 < (rs.length : Int) := by omega
      have r3 : (d : Int) < (rs.length : Int) := by omega
      have r4 : IntKind.i64.wrap (zn rs d + zn rs (d + 1)) = zn rs d + zn rs (d + 1) := by rw [IntKind.wrap_i64]; omega
      clear hO K HE hln hwl hd B1 B2
      generalize zn rs d = x at e1 hO2 HE2 K2 r4
      generalize zn rs (d + 1) = y at e2 hO2 HE2 K2 r4
      generalize zn ps k = y at f1
      generalize ps.set k (x + y) = ps2 at hO2 HE2
      go_wp2_with fail
      go_region
      go_wp2_with fail
      go_roundw
      case rel => exact ⟨k + 1, _, by omega, by go_num, hO2, K2, HE2⟩
      case measure => simp [intOf]; omega
    · obtain rfl : k = n := by omega
      go_wp2_with fail
      go_ret
      exact ⟨g, ps, rfl, hO, K, by rw [HG.out]; exact Nat.le_refl _, HE.out⟩
end Go.Proofs.Ytibhelfiibincaa
