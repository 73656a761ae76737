/- The document's own answers of layer 4: what lengths are, their words, the longest. -/
import Derived.Test.YtblogjpoijfpbaaCanMath
import Derived.Test.YtblogjpoijfpbaaRefBit
import Derived.Test.YtblogjpoijfpbaaOpen
import Derived.Test.YtblogjpoijfpbaaArr
namespace Go.Proofs.Ytblogjpoijfpbaa
set_option linter.unusedVariables false
set_option linter.unusedSimpArgs false
open Go.ChangeShapes Go.WideShapes Go.ChangeAt Go.RowKit

theorem Is.shape {k : IntKind} {w : World} {v : Value} {zs : List Int} (h : Is k w v zs) : ∃ a cap, v = .slice a zs.length cap ∧ zs.length ≤ cap ∧ cap ≤ maxLen := by
  obtain ⟨a, cap, rfl, h1, h2, _⟩ := h
  exact ⟨a, cap, rfl, h1, h2⟩
theorem Is.len {k : IntKind} {w : World} {v : Value} {zs : List Int} (h : Is k w v zs) : zs.length ≤ 9223372036854775807 := by
  obtain ⟨a, cap, _, h1, h2⟩ := h.shape
  unfold maxLen at h2; omega
theorem Is.drewN {k : IntKind} {w : World} {v : Value} {zs : List Int} (h : Is k w v zs) (n : Nat) : Is k (w.drewN n) v zs := h.keep ((Keep.refl [] w).drewN _) (by simp)
/-- lengths as numbers -/
def Ln (zs : List Int) : List Nat := zs.map Int.toNat
theorem Ln_length (zs : List Int) : (Ln zs).length = zs.length := by simp [Ln]
theorem Ln_take (zs : List Int) (i : Nat) : Ln (zs.take i) = (Ln zs).take i := by simp [Ln, List.map_take]
def mayB (zs : List Int) : Bool := decide (zs.length ≤ 4096) && zs.all fun z => decide (0 ≤ z) && decide (z ≤ 16)
theorem may_iff (zs : List Int) : mayB zs = true ↔ zs.length ≤ 4096 ∧ ∀ z ∈ zs, 0 ≤ z ∧ z ≤ 16 := by simp [mayB]
theorem may_Ln {zs : List Int} (h : mayB zs = true) : ∀ x ∈ Ln zs, x ≤ 16 := by
  intro x hx
  simp only [Ln, List.mem_map] at hx
  obtain ⟨z, hz, rfl⟩ := hx
  have := ((may_iff zs).1 h).2 z hz
  omega
theorem may_get {zs : List Int} (h : mayB zs = true) (i : Nat) (hi : i < zs.length) : zs[i] = ((len (Ln zs) i : Nat) : Int) ∧ len (Ln zs) i ≤ 16 := by
  have h1 := ((may_iff zs).1 h).2 zs[i] (List.getElem_mem hi)
  have h2 : len (Ln zs) i = zs[i].toNat := by rw [len_get _ _ (by rw [Ln_length]; exact hi)]; simp [Ln]
  omega
def chk (zs : List Int) : Nat := if mayB zs = false then 5 else if wt (Ln zs) = 0 then 4 else if 65536 < wt (Ln zs) then 2 else if wt (Ln zs) < 65536 then 3 else 1
theorem chk_bad {zs : List Int} (h : mayB zs = false) : chk zs = 5 := by simp [chk, h]
theorem bad_at {zs : List Int} (i : Nat) (hi : i < zs.length) (h : zs[i] < 0 ∨ 16 < zs[i]) : mayB zs = false := by
  rw [Bool.eq_false_iff]
  intro hm
  have := ((may_iff zs).1 hm).2 zs[i] (List.getElem_mem hi)
  omega
theorem half_step (k z : Nat) (h : k < z) (hz : z ≤ 16) : 2 ^ (16 - k) / 2 = 2 ^ (16 - (k + 1)) := by
  rw [show 16 - k = (16 - (k + 1)) + 1 by omega, Nat.pow_succ]; simp
theorem wt_take (zs : List Int) (i : Nat) (hi : i < zs.length) : wt (Ln (zs.take (i + 1))) = wt (Ln (zs.take i)) + wt1 zs[i].toNat := by
  rw [List.take_succ_eq_append_getElem hi, Ln, List.map_append, wt, List.map_append, List.sum_append]
  simp [wt, Ln]
theorem wt_le (zs : List Int) (n : Nat) (h : zs.length ≤ n) : wt (Ln zs) ≤ n * 32768 := by
  induction zs generalizing n with
  | nil => simp [wt, Ln]
  | cons z zs ih =>
    obtain ⟨m, rfl⟩ : ∃ m, n = m + 1 := ⟨n - 1, by simp at h; omega⟩
    have := ih m (by simpa using h)
    have h1 : wt1 z.toNat ≤ 32768 := by
      unfold wt1; split
      · omega
      · exact Nat.le_trans (Nat.pow_le_pow_right (by decide) (show 16 - z.toNat ≤ 15 by omega)) (by decide)
    simp only [Ln, wt, List.map_cons, List.sum_cons] at *
    omega
/-- v is the row of the words of L -/
def Cds (w : World) (v : Value) (L : List Nat) : Prop := Sts w v L.length 2 fun i j => if j = 0 then .int .u32 (code L i) else .int .i64 (len L i)
def werr (zs : List Int) : Nat := if chk zs = 5 then 2 else if chk zs = 2 then 6 else 0
theorem werr_ok {zs : List Int} (h : werr zs = 0) : mayB zs = true ∧ wt (Ln zs) ≤ 65536 := by
  unfold werr at h
  by_cases h5 : chk zs = 5
  · rw [if_pos h5] at h; omega
  by_cases h2 : chk zs = 2
  · rw [if_neg h5, if_pos h2] at h; omega
  unfold chk at h5 h2
  cases hm : mayB zs with
  | false => rw [hm] at h5; simp at h5
  | true =>
    rw [hm] at h5 h2
    refine ⟨rfl, ?_⟩
    by_cases h0 : wt (Ln zs) = 0
    · omega
    · rw [if_neg (by simp), if_neg h0] at h2
      by_cases h3 : 65536 < wt (Ln zs)
      · rw [if_pos h3] at h2; simp at h2
      · omega
/-- how much of the row is given out ahead of symbol i of n bits -/
def upTo (L : List Nat) (n i : Nat) : Nat := acc L (n - 1) + (L.take i).count n * 2 ^ (16 - n)
theorem upTo_lo (L : List Nat) (n i : Nat) (h : len L i = n) : upTo L n i = lo L i := by subst h; rfl
theorem upTo_le (L : List Nat) (n i : Nat) (h1 : 0 < n) (h : n ≤ 16) (hL : ∀ x ∈ L, x ≤ 16) : upTo L n i ≤ wt L := by
  obtain ⟨m, rfl⟩ : ∃ m, n = m + 1 := ⟨n - 1, by omega⟩
  have h2 := acc_mono L (m + 1) 16 h
  rw [acc16 L hL, acc] at h2
  have h3 : (L.take i).count (m + 1) ≤ L.count (m + 1) := List.Sublist.count_le _ (List.take_sublist _ _)
  have := Nat.mul_le_mul_right (2 ^ (16 - (m + 1))) h3
  unfold upTo
  rw [Nat.add_sub_cancel]
  omega
theorem upTo_skip (L : List Nat) (n i : Nat) (hi : i < L.length) (h : len L i ≠ n) : upTo L n (i + 1) = upTo L n i := by
  unfold upTo
  rw [List.take_succ_eq_append_getElem hi, List.count_append, ← len_get L i hi]
  simp [List.count_cons, h]
theorem upTo_take (L : List Nat) (n i : Nat) (hi : i < L.length) (h : len L i = n) : upTo L n (i + 1) = upTo L n i + 2 ^ (16 - n) := by
  unfold upTo
  rw [List.take_succ_eq_append_getElem hi, List.count_append, ← len_get L i hi, h]
  simp [Nat.add_mul]; omega
theorem upTo_next (L : List Nat) (n : Nat) (h : 0 < n) : upTo L n L.length = upTo L (n + 1) 0 := by
  obtain ⟨m, rfl⟩ : ∃ m, n = m + 1 := ⟨n - 1, by omega⟩
  unfold upTo
  simp [acc]
/-- has the word of symbol j been given out? -/
def dn (L : List Nat) (n i j : Nat) : Bool := decide (0 < len L j) && (decide (len L j < n) || (decide (len L j = n) && decide (j < i)))
/-- the row's cells -/
def CsAt (cs : Array Value) (L : List Nat) (n i : Nat) : Prop := ∀ j, j < L.length → cs[j * 2]? = some (.int .u32 (if dn L n i j then (code L j : Int) else 0)) ∧ cs[j * 2 + 1]? = some (.int .i64 (if dn L n i j then (len L j : Int) else 0))
theorem dn_skip (L : List Nat) (n i j : Nat) (h : len L i ≠ n) : dn L n (i + 1) j = dn L n i j := by
  unfold dn
  by_cases e : j = i
  · subst e; simp [h]
  · rw [show decide (j < i + 1) = decide (j < i) by simp; omega]
theorem dn_take (L : List Nat) (n i j : Nat) (h : len L i = n) (h0 : 0 < n) : dn L n (i + 1) j = if j = i then true else dn L n i j := by
  unfold dn
  by_cases e : j = i
  · subst e; simp [h, h0]
  · rw [if_neg e, show decide (j < i + 1) = decide (j < i) by simp; omega]
theorem dn_next (L : List Nat) (n j : Nat) (hj : j < L.length) : dn L n L.length j = dn L (n + 1) 0 j := by
  unfold dn
  rw [show decide (j < L.length) = true by simpa using hj, Bool.and_true, show decide (j < 0) = false by simp, Bool.and_false, Bool.or_false]
  congr 1
  by_cases e : len L j = n
  · simp [e]
  · rw [show decide (len L j = n) = false by simpa using e, Bool.or_false]
    by_cases e2 : len L j < n
    · simp [e2]; omega
    · simp [e2]; omega
theorem dn_all (L : List Nat) (j : Nat) (hL : ∀ x ∈ L, x ≤ 16) : dn L 17 0 j = decide (0 < len L j) := by
  have : len L j < 17 := by have := longest_ge L j; have := longest_le L 16 hL; omega
  simp [dn, this]
theorem CsAt.skip {cs : Array Value} {L : List Nat} {n i : Nat} (h : CsAt cs L n i) (hn : len L i ≠ n) : CsAt cs L n (i + 1) := by
  intro j hj; rw [dn_skip L n i j hn]; exact h j hj
theorem CsAt.next {cs : Array Value} {L : List Nat} {n : Nat} (h : CsAt cs L n L.length) : CsAt cs L (n + 1) 0 := by
  intro j hj; rw [← dn_next L n j hj]; exact h j hj
theorem CsAt.take {cs : Array Value} {L : List Nat} {n i : Nat} (h : CsAt cs L n i) (hs : cs.size = L.length * 2) (hi : i < L.length) (hn : len L i = n) (h0 : 0 < n) :
    CsAt ((cs.setIfInBounds (i * 2) (.int .u32 (code L i))).setIfInBounds (i * 2 + 1) (.int .i64 n)) L n (i + 1) := by
  intro j hj
  rw [dn_take L n i j hn h0]
  simp only [Array.getElem?_setIfInBounds, Array.size_setIfInBounds]
  by_cases e : j = i
  · subst e
    simp [hn, hs]
    omega
  · have a1 : ¬ i * 2 + 1 = j * 2 := by omega
    have a2 : ¬ i * 2 = j * 2 := by omega
    have a3 : ¬ i * 2 + 1 = j * 2 + 1 := by omega
    have a4 : ¬ i * 2 = j * 2 + 1 := by omega
    simp only [if_neg e, if_neg a1, if_neg a2, if_neg a3, if_neg a4]
    exact h j hj
theorem CsAt.cds {w : World} {b : Nat} {cs : Array Value} {L : List Nat} (hb : Blk w b cs 61) (h : CsAt cs L 17 0) (hL : ∀ x ∈ L, x ≤ 16) (hm : L.length ≤ maxLen) : Cds w (.slice (some ⟨b, 0, none⟩) L.length L.length) L := by
  refine ⟨_, _, rfl, Nat.le_refl _, hm, by simp, ?_⟩
  intro x hx i hi j hj
  obtain rfl : _ = x := Option.some.inj hx
  have h1 := h i hi
  rw [dn_all L i hL] at h1
  have e : ∀ m, ((⟨b, 0, none⟩ : Addr).add m) = ⟨b, m, none⟩ := fun m => by cases m <;> simp [Addr.add]
  rw [e]
  obtain rfl | rfl : j = 0 ∨ j = 1 := by omega
  · have h2 := hb.cell (i * 2) _ h1.1
    rw [Nat.add_zero, h2]
    by_cases h0 : 0 < len L i
    · simp [h0]
    · have : len L i = 0 := by omega
      simp [this, code, tr]
  · have h2 := hb.cell (i * 2 + 1) _ h1.2
    rw [h2]
    by_cases h0 : 0 < len L i
    · simp [h0]
    · have : len L i = 0 := by omega
      simp [this]
theorem infoCode : (Try.prog.info? 61).map (fun i => (i.zero.map (·.cells), i.size, i.bytes)) = some (some #[.int .u32 0, .int .i64 0], 2, 16) := by kernel_rfl
theorem run_make_codes (w : World) (n : Nat) (hn : n ≤ 4096) : (Instr.makeSlice 24 (.int .i64 (n : Int)) (.int .i64 (n : Int))).run Try.prog w = .ok (.slice (some ⟨w.heap.size, 0, none⟩) n n) (w.alloc (.cells (madeCells #[.int .u32 0, .int .i64 0] (n * 2)) 61)) := by
  obtain ⟨i, hi, hzz⟩ := Option.map_eq_some_iff.1 infoCode
  simp only [Prod.mk.injEq] at hzz
  obtain ⟨hz, hs, hb⟩ := hzz
  obtain ⟨z, hz, hzc⟩ := Option.map_eq_some_iff.1 hz
  have := run_make (P := Try.prog) (w := w) 24 61 i z Try.underlying24 hi hz .i64 .i64 n n (by omega) (by omega) (by rw [hb]; omega) (by omega)
  rw [this, hzc, hs]
  simp
theorem CsAt.made (L : List Nat) : CsAt (madeCells #[.int .u32 0, .int .i64 0] (L.length * 2)) L 1 0 := by
  intro j hj
  have hd : dn L 1 0 j = false := by simp [dn]; omega
  rw [hd]
  unfold madeCells
  have e1 : j * 2 % 2 = 0 := by omega
  have e2 : (j * 2 + 1) % 2 = 1 := by omega
  constructor
  · rw [Array.getElem?_map, Array.getElem?_range, if_pos (by omega)]; simp
  · rw [Array.getElem?_map, Array.getElem?_range, if_pos (by omega)]; simp [e2]
end Go.Proofs.Ytblogjpoijfpbaa
