/- Layer 12: bytes in the order of how often they come are the document's best followers. No condition beyond each theorem's own premises. -/
import Derived.Test.YtlnknnmlepgjfaaFolMath
import Derived.Test.YtlnknnmlepgjfaaSrg3
namespace Go.Proofs.Ytlnknnmlepgjfaa
open Sg
set_option linter.unusedVariables false
set_option linter.unusedSimpArgs false
open Go.ChangeShapes Go.WideShapes Go.ChangeAt Go.RowKit

/-- the bytes below m that come, and how often -/
def sn (n : Nat → Nat) : Nat → List SEl
  | 0 => []
  | m + 1 => if 0 < n m then sn n m ++ [(UInt8.ofNat m, n m)] else sn n m
theorem sn_len (n : Nat → Nat) (m : Nat) : (sn n m).length ≤ m := by
  induction m with
  | zero => exact Nat.le_refl _
  | succ m ih =>
    simp only [sn]
    split
    · rw [List.length_append]; simp; omega
    · omega
theorem sn_mem (n : Nat → Nat) (m : Nat) (hm : m ≤ 256) (x : SEl) : x ∈ sn n m ↔ x.1.toNat < m ∧ 0 < x.2 ∧ x.2 = n x.1.toNat := by
  induction m with
  | zero => simp [sn]
  | succ m ih =>
    have hT : (UInt8.ofNat m).toNat = m := by rw [UInt8.toNat_ofNat']; exact Nat.mod_eq_of_lt (by omega)
    simp only [sn]
    split
    · next h =>
      rw [List.mem_append, ih (by omega), List.mem_singleton]
      constructor
      · rintro (⟨a, b, c⟩ | rfl)
        · exact ⟨by omega, b, c⟩
        · exact ⟨by rw [hT]; omega, h, by rw [hT]⟩
      · rintro ⟨a, b, c⟩
        by_cases e : x.1.toNat = m
        · right
          obtain ⟨x1, x2⟩ := x
          simp only at e c
          rw [e] at c
          rw [Prod.mk.injEq]
          exact ⟨UInt8.toNat_inj.1 (by rw [hT]; exact e), c⟩
        · left; exact ⟨by omega, b, c⟩
    · next h =>
      rw [ih (by omega)]
      constructor
      · rintro ⟨a, b, c⟩; exact ⟨by omega, b, c⟩
      · rintro ⟨a, b, c⟩
        by_cases e : x.1.toNat = m
        · rw [e] at c; omega
        · exact ⟨by omega, b, c⟩
theorem sn_up (n : Nat → Nat) (m : Nat) (hm : m ≤ 256) : (sn n m).Pairwise fun x y => x.1.toNat < y.1.toNat := by
  induction m with
  | zero => simp [sn]
  | succ m ih =>
    simp only [sn]
    split
    · rw [List.pairwise_append]
      refine ⟨ih (by omega), by simp, fun x hx y hy => ?_⟩
      rw [List.mem_singleton] at hy
      subst hy
      have := ((sn_mem n m (by omega) x).1 hx).1
      show _ < (UInt8.ofNat m).toNat
      rw [UInt8.toNat_ofNat', Nat.mod_eq_of_lt (by omega)]; exact this
    · exact ih (by omega)
theorem sn_nodup (n : Nat → Nat) : (sn n 256).Nodup := (sn_up n 256 (Nat.le_refl _)).imp fun h e => by rw [e] at h; omega
/-- those that come more often are less -/
def kcF (x : SEl) : Int := -(x.2 : Int)
/-- of equally many the lesser byte is less -/
def keyF (x : SEl) : Int := (x.1.toNat : Int) - 256 * x.2
theorem kcF_key (x y : SEl) (h : kcF x < kcF y) : keyF x < keyF y := by
  unfold kcF at h; unfold keyF
  have := x.1.toNat_lt
  omega
theorem sn_sta (n : Nat → Nat) (N : Nat) (hN : N = (sn n 256).length) : Sta kcF keyF (sn n 256) N := by
  subst hN
  intro p q h1 h2 h3
  have hu := List.pairwise_iff_getElem.1 (sn_up n 256 (Nat.le_refl _)) p q (by omega) h2 h1
  rw [gn_eq _ _ h2, gn_eq _ _ (show p < (sn n 256).length by omega)] at h3 ⊢
  unfold keyF at h3; unfold kcF
  omega
/-- R is the bytes that come, in order -/
structure Rk (n : Nat → Nat) (R : List SEl) : Prop where
  mem : ∀ x, x ∈ R ↔ 0 < x.2 ∧ x.2 = n x.1.toNat
  up : R.Pairwise fun x y => keyF x < keyF y
theorem keyF_inj (x y : SEl) (h : keyF x = keyF y) : x = y := by
  unfold keyF at h
  have h1 := x.1.toNat_lt
  have h2 := y.1.toNat_lt
  obtain ⟨x1, x2⟩ := x
  obtain ⟨y1, y2⟩ := y
  simp only at h h1 h2
  rw [Prod.mk.injEq]
  exact ⟨UInt8.toNat_inj.1 (by omega), by omega⟩
theorem Rk.of {n : Nat → Nat} {R : List SEl} (hp : R.Perm (sn n 256)) (hs : Srt keyF R 0 R.length) : Rk n R := by
  refine ⟨fun x => ?_, ?_⟩
  · rw [hp.mem_iff, sn_mem n 256 (Nat.le_refl _)]
    have := x.1.toNat_lt
    constructor
    · rintro ⟨_, h⟩; exact h
    · intro h; exact ⟨by omega, h⟩
  · have hn : R.Nodup := hp.nodup_iff.2 (sn_nodup n)
    rw [List.pairwise_iff_getElem]
    intro i j hi hj hij
    have h1 := hs i j (by omega) (by omega) hj
    rw [gn_eq _ _ hi, gn_eq _ _ hj] at h1
    have h2 := List.pairwise_iff_getElem.1 hn i j hi hj hij
    have h3 : keyF R[i] ≠ keyF R[j] := fun e => h2 (keyF_inj _ _ e)
    omega
section
variable {n : Nat → Nat} {R : List SEl}
theorem bk_in (n : Nat → Nat) (l : List UInt8) (m : Nat) (h : 0 ≤ bk n l m) : 0 < n (bk n l m).toNat ∧ inL l (bk n l m).toNat = false ∧ (bk n l m).toNat < m := by
  induction m with
  | zero => simp [bk] at h
  | succ m ih =>
    simp only [bk] at h ⊢
    split
    · next c => exact ⟨by simpa using c.1, by simpa using c.2.1, by simp⟩
    · next c =>
      rw [if_neg c] at h
      have := ih h
      exact ⟨this.1, this.2.1, by omega⟩
theorem bk_is (n : Nat → Nat) (l : List UInt8) (m k : Nat) (hk : k < m) (h0 : 0 < n k) (hl : inL l k = false) (hm : ∀ x, x < m → 0 < n x → inL l x = false → n x < n k ∨ (n x = n k ∧ k ≤ x)) : bk n l m = k := by
  induction m with
  | zero => omega
  | succ m ih =>
    simp only [bk]
    by_cases e : k = m
    · subst e
      rw [if_pos]
      refine ⟨h0, hl, ?_⟩
      by_cases hb : bk n l k < 0
      · exact .inl hb
      · right
        obtain ⟨a, b, c⟩ := bk_in n l k (by omega)
        have := hm _ (by omega) a b
        omega
    · rw [ih (by omega) fun x hx => hm x (by omega), if_neg]
      rintro ⟨a, b, c⟩
      have := hm m (by omega) a b
      simp only [Int.toNat_natCast] at c
      omega
theorem bk_no (n : Nat → Nat) (l : List UInt8) (m : Nat) (h : ∀ x, x < m → 0 < n x → inL l x = true) : bk n l m = -1 := by
  induction m with
  | zero => rfl
  | succ m ih =>
    simp only [bk]
    rw [ih fun x hx => h x (by omega), if_neg]
    rintro ⟨a, b, _⟩
    rw [h m (by omega) a] at b
    cases b
theorem inL_iff (l : List UInt8) (c : Nat) : inL l c = true ↔ ∃ x ∈ l, x.toNat = c := by
  unfold inL; simp
theorem Rk.top (h : Rk n R) (i : Nat) : topF n i = (R.take i).map (·.1) := by
  induction i with
  | zero => simp [topF]
  | succ i ih =>
    simp only [topF, ih]
    by_cases hi : i < R.length
    · have hR := (h.mem R[i]).1 (List.getElem_mem hi)
      have hb : bk n ((R.take i).map (·.1)) 256 = (R[i].1.toNat : Nat) := by
        refine bk_is _ _ _ _ (by have := R[i].1.toNat_lt; omega) (by rw [← hR.2]; exact hR.1) ?_ ?_
        · rw [Bool.eq_false_iff, ne_eq, inL_iff]
          rintro ⟨c, hc, he⟩
          obtain ⟨y, hy, rfl⟩ := List.mem_map.1 hc
          obtain ⟨j, hj, rfl⟩ := List.getElem_of_mem hy
          rw [List.getElem_take] at he
          rw [List.length_take] at hj
          have hlt := List.pairwise_iff_getElem.1 h.up j i (by omega) hi (by omega)
          have h2 := ((h.mem R[j]).1 (List.getElem_mem _)).2
          have h3 := hR.2
          unfold keyF at hlt
          rw [h2, h3, he] at hlt
          omega
        · intro x hx h0 hl
          have hT : (UInt8.ofNat x).toNat = x := by rw [UInt8.toNat_ofNat']; exact Nat.mod_eq_of_lt (by omega)
          have hm : (UInt8.ofNat x, n x) ∈ R := (h.mem _).2 ⟨h0, by rw [hT]⟩
          obtain ⟨q, hq, he⟩ := List.getElem_of_mem hm
          have hqi : i ≤ q := by
            apply Decidable.byContradiction
            intro hlt
            have : inL ((R.take i).map (·.1)) x = true := by
              rw [inL_iff]
              refine ⟨UInt8.ofNat x, List.mem_map.2 ⟨R[q], ?_, by rw [he]⟩, hT⟩
              rw [List.mem_iff_getElem]
              exact ⟨q, by rw [List.length_take]; omega, by rw [List.getElem_take]⟩
            rw [this] at hl; cases hl
          have hkey : keyF R[i] ≤ keyF R[q] := by
            by_cases e : i = q
            · subst e; exact Int.le_refl _
            · exact Int.le_of_lt (List.pairwise_iff_getElem.1 h.up i q hi hq (by omega))
          rw [he] at hkey
          unfold keyF at hkey
          simp only [hT] at hkey
          have := hR.2
          have := R[i].1.toNat_lt
          rw [← hR.2]
          omega
      rw [hb, if_pos (by omega), List.take_succ_eq_append_getElem hi, List.map_append]
      simp
    · have e1 : R.take i = R := List.take_of_length_le (by omega)
      have e2 : R.take (i + 1) = R := List.take_of_length_le (by omega)
      rw [e1, e2, bk_no _ _ _ fun x hx h0 => ?_, if_neg (by decide)]
      have hT : (UInt8.ofNat x).toNat = x := by rw [UInt8.toNat_ofNat']; exact Nat.mod_eq_of_lt (by omega)
      rw [inL_iff]
      exact ⟨UInt8.ofNat x, List.mem_map.2 ⟨(UInt8.ofNat x, n x), (h.mem _).2 ⟨h0, by rw [hT]⟩, rfl⟩, hT⟩
/-- how often the first j come -/
def am (R : List SEl) (j : Nat) : Nat := ((R.take j).map (·.2)).sum
theorem am_zero (R : List SEl) : am R 0 = 0 := by simp [am]
theorem am_succ (R : List SEl) (j : Nat) (h : j < R.length) : am R (j + 1) = am R j + (gn R j).2 := by
  unfold am
  rw [List.take_succ_eq_append_getElem h, List.map_append, List.sum_append, gn_eq _ _ h]; simp
theorem sm_in (n : Nat → Nat) (l : List UInt8) (hl : l.Nodup) : sm (fun x => if inL l x = true then n x else 0) 256 = (l.map fun c => n c.toNat).sum := by
  induction l with
  | nil => rw [sm_eq _ (fun _ => 0) 256 (fun x _ => by simp [inL]), sm_zero]; rfl
  | cons a t ih =>
    rw [List.nodup_cons] at hl
    rw [sm_eq _ (fun x => (if x = a.toNat then n x else 0) + if inL t x = true then n x else 0) 256 (fun x _ => ?_), sm_add, ih hl.2, sm_one _ a.toNat 256 (by have := a.toNat_lt; omega) (fun i hi => if_neg hi), if_pos rfl]
    · simp
    · by_cases e : x = a.toNat
      · subst e
        have h1 : inL (a :: t) a.toNat = true := (inL_iff _ _).2 ⟨a, by simp, rfl⟩
        have h2 : inL t a.toNat = false := by rw [inL_mem]; simpa using hl.1
        simp only [h1, h2]; simp
      · have h1 : inL (a :: t) x = inL t x := by
          unfold inL
          rw [List.any_cons, show (a.toNat == x) = false from by simpa using fun h => e h.symm, Bool.false_or]
        simp only [h1, if_neg e]; omega
theorem Rk.fst_nodup (h : Rk n R) (j : Nat) : ((R.take j).map (·.1)).Nodup := by
  have hu : (R.take j).Pairwise fun x y => keyF x < keyF y := h.up.sublist (List.take_sublist _ _)
  rw [List.Nodup, List.pairwise_map]
  refine List.Pairwise.imp_of_mem ?_ hu
  intro x y hx hy hlt he
  have h1 := ((h.mem x).1 (List.mem_of_mem_take hx)).2
  have h2 := ((h.mem y).1 (List.mem_of_mem_take hy)).2
  unfold keyF at hlt
  rw [h1, h2, he] at hlt
  omega
theorem Rk.am (h : Rk n R) (j : Nat) : sm (fun x => if inL ((R.take j).map (·.1)) x = true then n x else 0) 256 = Ytlnknnmlepgjfaa.am R j := by
  rw [sm_in n _ (h.fst_nodup j), List.map_map]
  unfold Ytlnknnmlepgjfaa.am
  congr 1
  refine List.map_congr_left fun x hx => ?_
  exact ((h.mem x).1 (List.mem_of_mem_take hx)).2.symm
theorem Rk.all (h : Rk n R) : sm n 256 = Ytlnknnmlepgjfaa.am R R.length := by
  rw [← h.am]
  refine sm_eq _ _ _ fun x hx => ?_
  rw [List.take_of_length_le (Nat.le_refl _)]
  by_cases h0 : 0 < n x
  · have hT : (UInt8.ofNat x).toNat = x := by rw [UInt8.toNat_ofNat']; exact Nat.mod_eq_of_lt (by omega)
    rw [if_pos]
    rw [inL_iff]
    exact ⟨UInt8.ofNat x, List.mem_map.2 ⟨(UInt8.ofNat x, n x), (h.mem _).2 ⟨h0, by rw [hT]⟩, rfl⟩, hT⟩
  · split <;> omega
theorem Rk.am_le (h : Rk n R) (j : Nat) : Ytlnknnmlepgjfaa.am R j ≤ Ytlnknnmlepgjfaa.am R R.length := by
  rw [← h.all, ← h.am]
  refine sm_le _ _ _ fun x _ => ?_
  split <;> omega
theorem Rk.cost0 (h : Rk n R) : cst n [] 256 = 8 * Ytlnknnmlepgjfaa.am R R.length := by
  rw [cst_sm, ← h.all, sm_eq _ (fun x => 8 * n x) 256 (fun x _ => by unfold pl; simp; omega)]
  have : ∀ m, sm (fun x => 8 * n x) m = 8 * sm n m := by
    intro m
    induction m with
    | zero => rfl
    | succ m ih => simp only [sm, ih]; omega
  rw [this]; simp
theorem Rk.cost (h : Rk n R) (j : Nat) (hj : 0 < j) (hl : j ≤ R.length) :
    cst n ((R.take j).map (·.1)) 256 = 8 * j + Ytlnknnmlepgjfaa.am R R.length + Ytlnknnmlepgjfaa.am R j * widthN j + (Ytlnknnmlepgjfaa.am R R.length - Ytlnknnmlepgjfaa.am R j) * 8 := by
  have hlen : ((R.take j).map (·.1)).length = j := by rw [List.length_map, List.length_take]; omega
  rw [cst_sm, hlen]
  have hA := h.am j
  have hB := h.all
  have hC := h.am_le j
  generalize (R.take j).map (·.1) = l at hlen hA ⊢
  have key : ∀ m, sm (fun x => n x * pl l x) m + 8 * sm (fun x => if inL l x = true then n x else 0) m = 9 * sm n m + widthN j * sm (fun x => if inL l x = true then n x else 0) m := by
    intro m
    induction m with
    | zero => simp [sm]
    | succ m ih =>
      simp only [sm]
      have : n m * pl l m + 8 * (if inL l m = true then n m else 0) = 9 * n m + widthN j * (if inL l m = true then n m else 0) := by
        unfold pl
        rw [if_neg (by omega), hlen]
        split
        · rw [Nat.mul_add, Nat.mul_comm (widthN j)]; omega
        · omega
      rw [Nat.mul_add, Nat.mul_add, Nat.mul_add]
      omega
  have hk := key 256
  rw [hA, hB] at hk
  rw [Nat.mul_comm (Ytlnknnmlepgjfaa.am R j)]
  omega
/-- the best of the first 32 -/
def bestR (n : Nat → Nat) (R : List SEl) (i : Nat) : Nat := bl n (topF n 32) i
theorem Rk.take (h : Rk n R) (j : Nat) (hj : j ≤ 32) : (topF n 32).take j = (R.take j).map (·.1) := by
  rw [h.top, ← List.map_take, List.take_take, Nat.min_eq_left hj]
theorem Rk.topLen (h : Rk n R) : (topF n 32).length = min 32 R.length := by rw [h.top, List.length_map, List.length_take]
theorem Rk.one (h : Rk n R) : oneN n = (R.take (bestR n R (min 32 R.length))).map (·.1) := by
  unfold oneN bestR
  rw [h.topLen]
  exact h.take _ (Nat.le_trans (bl_le n _ _) (Nat.min_le_left _ _))
end
end Go.Proofs.Ytlnknnmlepgjfaa
