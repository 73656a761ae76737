/- Contract of limit's own rows: the rows of package-merge. -/
import Derived.Test.YtibhelfiibincaaLim4
namespace Go.Proofs.Ytibhelfiibincaa
set_option linter.unusedVariables false
set_option linter.unusedSimpArgs false
open Go.ChangeShapes Go.WideShapes Go.ChangeAt Go.RowKit

/-- how long the row of level j is -/
def lvT (n : Nat) : Nat → Nat
  | 0 => 0
  | j + 1 => n + lvT n j / 2
def prs (T : Nat) (W : Nat → Nat) (t : Nat) : Nat := if t < T / 2 then W (2 * t) + W (2 * t + 1) else 0
theorem prs_le (T : Nat) (W : Nat → Nat) (t : Nat) : prs T W t ≤ W (2 * t) + W (2 * t + 1) := by
  unfold prs; split <;> omega
def lvW (a : Nat → Nat) (n : Nat) : Nat → Nat → Nat
  | 0 => fun _ => 0
  | j + 1 => mw a n (prs (lvT n j) (lvW a n j)) (lvT n j / 2)
def lvC (a : Nat → Nat) (n : Nat) : Nat → Nat → Nat
  | 0 => fun _ => 0
  | j + 1 => mc a n (prs (lvT n j) (lvW a n j)) (lvT n j / 2)
theorem lvT_le (n j : Nat) : lvT n j ≤ 2 * n := by
  induction j with
  | zero => simp [lvT]
  | succ j ih => rw [lvT]; omega
theorem lvW_le (a : Nat → Nat) (n : Nat) (ha : ∀ i, a i ≤ 1099511627776) (j k : Nat) : lvW a n j k ≤ 1099511627776 * 2 ^ j := by
  induction j generalizing k with
  | zero => simp [lvW]
  | succ j ih =>
    have e : 1099511627776 * 2 ^ (j + 1) = 1099511627776 * 2 ^ j + 1099511627776 * 2 ^ j := by rw [Nat.pow_succ]; omega
    have e1 : 1099511627776 * 1 ≤ 1099511627776 * 2 ^ j := Nat.mul_le_mul_left _ (Nat.pow_pos (by decide))
    show mw a n (prs (lvT n j) (lvW a n j)) (lvT n j / 2) k ≤ _
    unfold mw
    split
    · exact Nat.le_trans (ha _) (by omega)
    · have h1 := ih (2 * (k - mc a n (prs (lvT n j) (lvW a n j)) (lvT n j / 2) k))
      have h2 := ih (2 * (k - mc a n (prs (lvT n j) (lvW a n j)) (lvT n j / 2) k) + 1)
      exact Nat.le_trans (prs_le _ _ _) (by omega)
theorem Mrg.congr {a a' P P' W c : Nat → Nat} {n np tot : Nat} (h : Mrg a n P np W c tot) (ha : ∀ i, i < n → a i = a' i) (hP : ∀ t, t < np → P t = P' t) : Mrg a' n P' np W c tot := by
  refine ⟨h.zero, fun k hk => ?_⟩
  rcases h.step k hk with ⟨h1, h2, h3, h4⟩ | ⟨h1, h2, h3, h4⟩
  · left
    refine ⟨h1, h2, by rw [h3, ha _ h2], fun hlt => ?_⟩
    rw [← ha _ h2, ← hP _ hlt]; exact h4 hlt
  · right
    refine ⟨h1, h2, by rw [h3, hP _ h2], fun hlt => ?_⟩
    rw [← hP _ h2, ← ha _ hlt]; exact h4 hlt
theorem lvs_made (a a' : Nat → Nat) (n L : Nat) (he : ∀ i, i < n → a i = a' i) (hA : Asc a' n) (hp : ∀ r, r < n → 0 < a' r) : Lvs a' n L (lvW a n) (lvC a n) (lvT n) := by
  refine ⟨hA, hp, rfl, fun j hj => rfl, fun j hj => ?_⟩
  refine (mc_mrg a n (prs (lvT n j) (lvW a n j)) (lvT n j / 2)).congr he (fun t ht => ?_)
  unfold prs; rw [if_pos ht]
theorem infoS16 : (Try.prog.info? 49).map (fun i => (i.zero, i.size, i.bytes)) = some (some (.slice none 0 0), 1, 24) := by kernel_rfl
theorem run_make_s16 (w : World) (n : Nat) (hn : n ≤ 1000000) : (Instr.makeSlice 40 (.int .i64 (n : Int)) (.int .i64 (n : Int))).run Try.prog w = .ok (.slice (some ⟨w.heap.size, 0, none⟩) n n) (w.alloc (.cells (madeCells #[.slice none 0 0] n) 49)) := by
  obtain ⟨i, hi, hz0, hz1, hz2⟩ := info_parts infoS16
  have := run_make (P := Try.prog) (w := w) 40 49 i (.slice none 0 0) Try.underlying40 hi hz0 .i64 .i64 n n (by omega) (by omega) (by rw [hz2]; omega) (by omega)
  rw [this, hz1]
  simp [Value.cells]
/-- the row j of counts lies in block gj -/
def Cnt (w : World) (v : Value) (T : Nat) (c : Nat → Nat) (gc : Nat) : Prop := ∃ gj, v = .slice (some ⟨gj, 0, none⟩) (T + 1) (T + 1) ∧ gj ≠ gc ∧ ∀ m, m ≤ T → w.cell? ⟨gj, m, none⟩ = some (.int .i16 (c m))
theorem Cnt.keep {w w' : World} {v : Value} {T : Nat} {c : Nat → Nat} {gc : Nat} (h : Cnt w v T c gc) (k : Keep [gc] w w') : Cnt w' v T c gc := by
  obtain ⟨gj, h1, h2, h3⟩ := h
  exact ⟨gj, h1, h2, fun m hm => k.cell (h3 m hm) (by simpa using h2)⟩
/-- block gc has the first k rows of counts -/
structure Cts (w : World) (gc L k : Nat) (T : Nat → Nat) (c : Nat → Nat → Nat) : Prop where
  blk : ∃ arr, Blk w gc arr 49 ∧ arr.size = L ∧ ∀ j, j < k → ∃ v, arr[j]? = some v ∧ Cnt w v (T (j + 1)) (c (j + 1)) gc
theorem Cts.keep {w w' : World} {gc L k : Nat} {T : Nat → Nat} {c : Nat → Nat → Nat} (h : Cts w gc L k T c) (K : Keep [] w w') : Cts w' gc L k T c := by
  obtain ⟨arr, h1, h2, h3⟩ := h.blk
  exact ⟨arr, h1.keep K (by simp), h2, fun j hj => by obtain ⟨v, h4, h5⟩ := h3 j hj; exact ⟨v, h4, h5.keep K.nil⟩⟩
theorem Cts.at {w : World} {gc L k : Nat} {T : Nat → Nat} {c : Nat → Nat → Nat} (h : Cts w gc L k T c) (hk : k < L) : (∃ x, w.cell? ⟨gc, k, none⟩ = some x) ∧ w.frozen? ⟨gc, k, none⟩ = false := by
  obtain ⟨arr, h1, h2, h3⟩ := h.blk
  exact ⟨⟨_, h1.cell k _ (Array.getElem?_eq_getElem (by omega))⟩, h1.free k⟩
theorem Cts.step {w : World} {gc L k : Nat} {T : Nat → Nat} {c : Nat → Nat → Nat} (h : Cts w gc L k T c) (hk : k < L) (v : Value) (hv : Cnt w v (T (k + 1)) (c (k + 1)) gc) : Cts (w.setCell ⟨gc, k, none⟩ v) gc L (k + 1) T c := by
  obtain ⟨arr, h1, h2, h3⟩ := h.blk
  have K : Keep [gc] w (w.setCell ⟨gc, k, none⟩ v) := (Keep.refl _ _).setCell (.inl (by simp)) _
  refine ⟨_, h1.set k v, by simpa using h2, fun j hj => ?_⟩
  rw [Array.getElem?_setIfInBounds]
  by_cases e : k = j
  · subst e; rw [if_pos rfl, if_pos (by omega)]; exact ⟨v, rfl, hv.keep K⟩
  · rw [if_neg e]
    obtain ⟨v', h4, h5⟩ := h3 j (by omega)
    exact ⟨v', h4, h5.keep K⟩
theorem fn_of_zn (rs : List Int) (i x : Nat) (h : zn rs i = (x : Int)) : fn rs i = x := by
  unfold fn; unfold zn at h; omega
theorem fn_pairs (rs ps : List Int) (T : Nat) (W : Nat → Nat) (hT : rs.length = T) (hW : ∀ i, i < T → fn rs i = W i) (hpl : ps.length = T / 2) (hp : ∀ i, i < T / 2 → zn ps i = zn rs (2 * i) + zn rs (2 * i + 1)) (hn : ∀ i, 0 ≤ zn rs i) : fn ps = prs T W := by
  funext t
  unfold prs
  by_cases h : t < T / 2
  · rw [if_pos h, ← hW (2 * t) (by omega), ← hW (2 * t + 1) (by omega)]
    have h1 := hp t h
    have h2 := hn (2 * t)
    have h3 := hn (2 * t + 1)
    unfold fn; unfold zn at *; omega
  · rw [if_neg h]
    unfold fn
    rw [List.getD_eq_getElem?_getD, List.getElem?_eq_none (by omega)]; rfl
set_option maxRecDepth 100000 in
set_option maxHeartbeats 4000000 in
theorem rows_c (w : World) (sv : Value) (ss : List Int) (L : Nat) (hL : L ≤ 16) (hls : ss.length ≤ 4096) (h : Is .i64 w sv ss) (hsn : ∀ i, 0 ≤ zn ss i ∧ zn ss i ≤ 1099511627776) :
    Calls Try.prog 24 #[sv, .int .i64 L] w fun e w' => ∃ gc, e = .returned (.slice (some ⟨gc, 0, none⟩) L L) ∧ Cts w' gc L L (lvT ss.length) (lvC (fn ss) ss.length) ∧ Keep [] w w' ∧ w.heap.size ≤ gc := by
  have HS := Lib.hid (fun w' (k : Keep [] w w') => h.keep k (by simp))
  have HN := Lib.hid hsn
  have HA : Hid (∀ i, fn ss i ≤ 1099511627776) := fun i => by have := hsn i; unfold fn; unfold zn at this; omega
  have HTL := Lib.hid (lvT_le ss.length)
  have hmk := fun w' => run_make_s16 w' L (by omega)
  clear h hsn
  go_enter Try.func24, Try.ntmps24
  go_wp2_with fail
  clear hmk
  have K0 : Keep [] w (w.alloc (.cells (madeCells #[.slice none 0 0] L) 49)) := (Keep.refl [] w).alloc _
  have HC : Hid (Cts (w.alloc (.cells (madeCells #[.slice none 0 0] L) 49)) w.heap.size L 0 (lvT ss.length) (lvC (fn ss) ss.length)) := ⟨_, Blk.new w _ _, size_madeCells _ _, fun j hj => by omega⟩
  generalize w.alloc (.cells (madeCells #[.slice none 0 0] L) 49) = w1 at K0 HC ⊢
  obtain ⟨gc, hg⟩ : ∃ x, w.heap.size = x := ⟨_, rfl⟩
  rw [hg] at HC ⊢
  have HG := Lib.hid hg
  clear hg
  go_loopw [6, 12] (fun rv i wr => ∃ (k : Nat) (rs : List Int), k ≤ L ∧ i = .int .i64 k ∧ Hid (Is .i64 wr rv rs) ∧ Hid (rs.length = lvT ss.length k ∧ ∀ i, i < lvT ss.length k → zn rs i = (lvW (fn ss) ss.length k i : Int)) ∧ Hid (Cts wr gc L k (lvT ss.length) (lvC (fn ss) ss.length)) ∧ Hid (Keep [] w wr)) (fun _ i _ => L - (intOf i).toNat)
  case atStart => exact ⟨0, [], by omega, rfl, ⟨none, 0, rfl, by simp, by simp, fun _ => rfl, (fun x hx => nomatch hx), by simp⟩, ⟨rfl, fun i hi => by simp [lvT] at hi⟩, HC.out, K0⟩
  case round =>
    clear HC K0
    obtain ⟨k, rs, hk, rfl, HR, HE, HC, HK⟩ := hrel
    by_cases hlt : k < L
    · have hltz : (k : Int) < (L : Int) := by omega
      have hTk := HTL.out k
      have HRn : Hid (∀ i, 0 ≤ zn rs i ∧ zn rs i ≤ 72057594037927936) := fun i => by
        by_cases hi : i < lvT ss.length k
        · rw [HE.out.2 i hi]
          have h1 := lvW_le (fn ss) ss.length HA.out k i
          have h2 : 1099511627776 * 2 ^ k ≤ 1099511627776 * 2 ^ 16 := Nat.mul_le_mul_left _ (Nat.pow_le_pow_right (by decide) (by omega))
          omega
        · rw [zn_out rs i (by have := HE.out.1; omega)]; omega
      have HP := Lib.hid (pairs_c wr _ rs (by have := HE.out.1; omega) HR.out HRn.out)
      have hgc : gc < wr.heap.size := by obtain ⟨arr, h1, _⟩ := HC.out.blk; exact h1.lt
      have HGC := Lib.hid hgc
      clear hgc
      go_wp2_with fail
      refine HP.out.mono ?_; rintro e w2 ⟨gp, ps, rfl, O2, K2, hgp, E2⟩
      have hpl : ps.length = lvT ss.length k / 2 := by have h1 := O2.sl.1; have h2 := HE.out.1; omega
      have HF : Hid (fn ps = prs (lvT ss.length k) (lvW (fn ss) ss.length k)) := fn_pairs rs ps _ _ HE.out.1 (fun i hi => fn_of_zn _ _ _ (HE.out.2 i hi)) hpl (fun i hi => E2 i (by have := HE.out.1; omega)) (fun i => (HRn.out i).1)
      have HPn : Hid (∀ i, 0 ≤ zn ps i) := fun i => by
        by_cases hi : i < ps.length
        · rw [E2 i (by have h1 := O2.sl.1; omega)]
          have h1 := HRn.out (2 * i)
          have h2 := HRn.out (2 * i + 1)
          omega
        · rw [zn_out ps i (by omega)]; omega
      have HK2 : Hid (Keep [] w w2) := HK.out.trans K2 (by simp)
      have HC2 := Lib.hid (HC.out.keep K2)
      have HM := Lib.hid (merge_c w2 sv _ ss ps (by omega) (by omega) (HS.out w2 HK2.out) O2.is (fun i => (HN.out i).1) HPn.out)
      rw [hpl, HF.out] at HM
      have HG2 : Hid (gc < w2.heap.size) := Nat.lt_of_lt_of_le HGC.out K2.size
      clear O2 K2 E2 HP HRn HPn HK HC HR hgp HGC
      go_wp2_with fail
      refine HM.out.mono ?_; rintro e w3 ⟨g1, g2, rfl, M3, hg1, hg2⟩
      have HK3 : Hid (Keep [] w w3) := HK2.out.trans M3.keep (by simp)
      have HC3 := Lib.hid (HC2.out.keep M3.keep)
      obtain ⟨⟨x1, c1⟩, f1⟩ := HC3.out.at hlt
      obtain ⟨⟨rs1, O3, E3⟩, ⟨arr, B3, s3, a3⟩, _⟩ := M3
      have hn1 : g1 ≠ gc := by have := HG2.out; omega
      have hn2 : g2 ≠ gc := by have := HG2.out; omega
      have HST := Lib.hid (HC3.out.step hlt (.slice (some ⟨g2, 0, none⟩) (ss.length + lvT ss.length k / 2 + 1) (ss.length + lvT ss.length k / 2 + 1)) ⟨g2, rfl, hn2, fun m hm => B3.cell m _ (a3 m hm)⟩)
      have HR4 : Hid (Is .i64 (w3.setCell ⟨gc, k, none⟩ (.slice (some ⟨g2, 0, none⟩) (ss.length + lvT ss.length k / 2 + 1) (ss.length + lvT ss.length k / 2 + 1))) (.slice (some ⟨g1, 0, none⟩) (ss.length + lvT ss.length k / 2) (ss.length + lvT ss.length k / 2)) rs1) := O3.is.keep ((Keep.refl [gc] _).setCell (.inl (by simp)) _) (by simp [Value.ownBlock]; exact hn1)
      have HE4 : Hid (rs1.length = lvT ss.length (k + 1) ∧ ∀ i, i < lvT ss.length (k + 1) → zn rs1 i = (lvW (fn ss) ss.length (k + 1) i : Int)) := ⟨O3.sl.1.symm, fun i hi => E3 i hi⟩
      have HK4 : Hid (Keep [] w (w3.setCell ⟨gc, k, none⟩ (.slice (some ⟨g2, 0, none⟩) (ss.length + lvT ss.length k / 2 + 1) (ss.length + lvT ss.length k / 2 + 1)))) := HK3.out.setCell (.inr (by have := HG.out; simp; omega)) _
      clear O3 E3 B3 s3 a3 HM HK2 HK3 HC2 HC3 hn1 hn2 hg1 hg2 HF hpl hTk
      generalize lvT ss.length k / 2 = tp at HST HR4 HK4 ⊢
      go_wp2_with fail
      go_roundw
      case rel => exact ⟨k + 1, rs1, by omega, by go_num, HR4, HE4, HST, HK4⟩
      case measure => simp [intOf]; omega
    · obtain rfl : k = L := by omega
      go_wp2_with fail
      go_ret
      exact ⟨gc, rfl, HC.out, HK.out, by rw [HG.out]; exact Nat.le_refl _⟩
end Go.Proofs.Ytibhelfiibincaa
