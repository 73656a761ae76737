/- Texts put together: DynMath6 -/
import Derived.Test.YtibkepjbblfkoaaGreatDoorPart12
import Derived.Test.YtibkepjbblfkoaaGreatDoorPart17
namespace Go.Proofs.YtibkepjbblfkoaaGreatDoor
set_option linter.unusedVariables false
set_option linter.unusedSimpArgs false
open Go.ChangeShapes Go.WideShapes Go.ChangeAt Go.RowKit

theorem isNew17 (w : World) (l : List Int) (hl : l.length ≤ 4096) (hz : ∀ z ∈ l, (Lit.int .i64 z).wf = true) : Is .i64 (w.alloc (.cells (ints64 l).toArray 3)) (.slice (some ⟨w.heap.size, 0, none⟩) l.length l.length) l := by
  refine ⟨some ⟨w.heap.size, 0, none⟩, l.length, rfl, Nat.le_refl _, by unfold maxLen; omega, (fun h => nomatch h), fun x hx i hi => ?_, hz⟩
  obtain rfl : (⟨w.heap.size, 0, none⟩ : Addr) = x := by simpa using hx
  have e : (⟨w.heap.size, 0, none⟩ : Addr).add i = ⟨w.heap.size, i, none⟩ := by unfold Addr.add; split <;> simp_all
  rw [e]
  exact (Blk.new w _ _).cell i _ (by simp [ints64, hi])
/-- what Lengths answers is best -/
theorem limL_best (zs : List Int) (M : Nat) (h : mayF zs M = true) : BestL zs (limL zs M) M := by
  obtain ⟨m1, m2, m3, hok, m5⟩ := (mayF_iff zs M).1 h
  have hz : ∀ z ∈ zs, (Lit.int .i64 z).wf = true := fun z hz => by
    have := (okF_iff zs).1 hok z hz
    simp [Lit.wf, IntKind.min, IntKind.max, IntKind.bits, IntKind.signed]; omega
  obtain ⟨e, w', fr, ⟨v', ls, er, _, _, _, _, hg⟩, _⟩ := lim_lengths (World.alloc default (.cells (ints64 zs).toArray 3)) _ zs M (isNew17 default zs m3 hz) (by simp [Lit.wf, IntKind.min, IntKind.max, IntKind.bits, IntKind.signed]; omega) []
  obtain ⟨_, hb, hp⟩ := hg h
  have e := hp.is m3
  rw [Int.toNat_natCast] at e
  rw [← e]; exact hb
theorem may17 (ts : List Lt) (h : ts.length ≤ 1000) : mayF (cnt17 ts) 7 = true := by
  refine (mayF_iff _ _).2 ⟨by decide, by decide, by rw [cnt17_len]; decide, (okF_iff _).2 fun z hz => ?_, ?_⟩
  · obtain ⟨s, hs, rfl⟩ := List.mem_map.1 hz
    have : ts.countP (fun t => t.sym == s) ≤ ts.length := List.countP_le_length
    omega
  · rw [cnt17_len]
    have := ct_le (fun i => decide (fn (cnt17 ts) i ≠ 0)) 19
    show ct (fun i => decide (fn (cnt17 ts) i ≠ 0)) 19 ≤ 128
    omega
theorem getD_toNat (T : List Int) (i : Nat) : (T.map Int.toNat).getD i 0 = (T.getD i 0).toNat := by
  rw [List.getD_eq_getElem?_getD, List.getD_eq_getElem?_getD, List.getElem?_map]
  cases T[i]? <;> rfl
/-- the best lengths of the third code's words are a full code that may be written -/
theorem third_best (ts : List Lt) (T : List Int) (hb : BestL (cnt17 ts) T 7) (h19 : ∀ t ∈ ts, t.sym < 19) (h1 : ∃ t ∈ ts, t.sym < 16) (h2 : ∃ t ∈ ts, ∃ u ∈ ts, t.sym < u.sym) : Third T (thN T 19) ∧ ∀ t ∈ ts, 0 < len (Ln T) t.sym := by
  obtain ⟨hl, hz, hg⟩ := hb
  rw [cnt17_len] at hl hg
  have hF : ∀ s, s < 19 → fn (cnt17 ts) s = ts.countP fun t => t.sym == s := fun s hs => by unfold fn; rw [cnt17_at ts s hs, Int.toNat_natCast]
  have hFp : ∀ t ∈ ts, fn (cnt17 ts) t.sym ≠ 0 := fun t ht => by
    rw [hF _ (h19 t ht)]
    have : 0 < ts.countP fun u => u.sym == t.sym := List.countP_pos_iff.2 ⟨t, ht, by simp⟩
    omega
  have hu : 2 ≤ usedN 19 (fn (cnt17 ts)) := by
    obtain ⟨t, ht, u, hu, hlt⟩ := h2
    exact ct_two _ 19 t.sym u.sym hlt (h19 u hu) (by simpa using hFp t ht) (by simpa using hFp u hu)
  have hT : ∀ i, 0 ≤ T.getD i 0 ∧ T.getD i 0 ≤ 7 ∧ T.getD i 0 = ((fn T i : Nat) : Int) := fun i => by
    by_cases hi : i < 19
    · have h3 := hz _ (List.getElem_mem (by omega : i < T.length))
      have h4 := hg.le i hi
      have h5 : T.getD i 0 = T[i]'(by omega) := by rw [List.getD_eq_getElem?_getD, List.getElem?_eq_getElem (by omega)]; rfl
      unfold fn at h4 ⊢
      rw [h5] at h4 ⊢
      have h6 : (7 : Int).toNat = 7 := rfl
      omega
    · have : T.getD i 0 = 0 := by rw [List.getD_eq_getElem?_getD, List.getElem?_eq_none (by omega)]; rfl
      unfold fn
      rw [this]; decide
  have hlen : ∀ i, len (Ln T) i = fn T i := fun i => getD_toNat T i
  have hpos : ∀ t ∈ ts, 0 < fn T t.sym := fun t ht => by
    have := hg.zero t.sym (h19 t ht)
    have := hFp t ht
    omega
  have hmay : mayB T = true := (may_iff T).2 ⟨by omega, hz⟩
  have hwt : wt (Ln T) = 65536 := by
    have e1 : wt (Ln T) = sm (fun r => wt1 ((Ln T).getD r 0)) (Ln T).length := lsum_getD (Ln T) wt1
    rw [e1, Ln_length, hl, ← hg.full hu]
    unfold wsum
    refine sm_congr _ _ 19 (fun i hi => ?_)
    have e2 : (Ln T).getD i 0 = fn T i := hlen i
    rw [e2]
    unfold wt1
    have := hg.zero i hi
    by_cases c : fn T i = 0
    · rw [if_pos c, if_pos (this.1 c)]
    · rw [if_neg c, if_neg (fun h => c (this.2 h))]
  refine ⟨⟨hl, fun j => ⟨(hT j).1, (hT j).2.1⟩, ?_, ?_, thN_le T 19, fun i h3 h4 => thN_zero T 19 i h3 h4⟩, fun t ht => by rw [hlen]; exact hpos t ht⟩
  · unfold chk
    rw [hmay, hwt]; decide
  · obtain ⟨t, ht, hs⟩ := h1
    obtain ⟨i, hi, he⟩ := ordD_late ⟨t.sym, hs⟩
    have := thN_ge T 19 i.val i.isLt (by
      rw [he, (hT _).2.2]
      have := hpos t ht
      show ((fn T t.sym : Nat) : Int) ≠ 0
      omega)
    omega
/-- the symbols of two lists -/
def ts17 (l d : List Int) : List Lt := few17 (l.length + d.length) (l ++ d) (-1)
/-- the lengths of the third code's words of two lists -/
noncomputable def T17 (l d : List Int) : List Int := limL (cnt17 (ts17 l d)) 7
/-- the bits that Write writes -/
noncomputable def W17 (l d : List Int) : List Bool := wb17 (trim17 l 257).length (trim17 d 1).length (thN (T17 (trim17 l 257) (trim17 d 1)) 19) (T17 (trim17 l 257) (trim17 d 1)) (ts17 (trim17 l 257) (trim17 d 1))
theorem whole_in {l : List Int} {n : Bool} (h : whole17 l n = true) : ∀ z ∈ l, 0 ≤ z ∧ z ≤ 15 := by
  unfold whole17 at h
  rw [Bool.and_eq_true, List.all_eq_true] at h
  intro z hz
  have := h.1 z hz
  simpa using this
theorem right17_in {l d : List Int} {large : Bool} (h : right17 l d large = true) : (∀ z ∈ l, 0 ≤ z ∧ z ≤ 15) ∧ (∀ z ∈ d, 0 ≤ z ∧ z ≤ 15) ∧ 257 ≤ l.length ∧ l.length ≤ 286 ∧ 1 ≤ d.length ∧ d.length ≤ 32 := by
  unfold right17 at h
  simp only [Bool.and_eq_true, decide_eq_true_eq] at h
  obtain ⟨⟨a1, a2, a3, a4⟩, a5, a6, a7⟩ := h
  exact ⟨whole_in a6, whole_in a7, a1, a2, a3, by split at a4 <;> omega⟩
/-- what is known of the symbols of two lists, and of the third code -/
theorem ts17_ok (l d : List Int) (h : right17 l d true = true) : exp17 [] (ts17 l d) = l ++ d ∧ (∀ t ∈ ts17 l d, t.sym < 19 ∧ t.x < 2 ^ ltBits t.sym) ∧ (∀ t, (ts17 l d).head? = some t → t.sym ≠ 16) ∧ (ts17 l d).length ≤ 318 ∧
    BestL (cnt17 (ts17 l d)) (T17 l d) 7 ∧ Third (T17 l d) (thN (T17 l d) 19) ∧ ∀ t ∈ ts17 l d, 0 < len (Ln (T17 l d)) t.sym := by
  obtain ⟨b1, b2, b3, b4, b5, b6⟩ := right17_in h
  obtain ⟨f1, f2, f3⟩ := few_exp (l.length + d.length) (l ++ d) (-1) [] (by simp) (fun z hz => by
    rcases List.mem_append.1 hz with hz | hz
    · exact b1 z hz
    · exact b2 z hz) (fun e => absurd rfl e) (fun _ => rfl)
  have hlen : (ts17 l d).length ≤ 318 := by
    have h1 := exp17_len [] (ts17 l d)
    have h2 := lt_sum (ts17 l d)
    unfold ts17 at h1 h2 ⊢
    rw [f1] at h1
    simp at h1
    omega
  have hb := limL_best (cnt17 (ts17 l d)) 7 (may17 _ (by omega))
  obtain ⟨g1, g2⟩ := few_two l d (ts17 l d) h (by unfold ts17; rw [f1]; rfl) (fun t ht => (f2 t ht).1)
  obtain ⟨k1, k2⟩ := third_best (ts17 l d) _ hb (fun t ht => (f2 t ht).1) g1 g2
  exact ⟨by unfold ts17; rw [f1]; rfl, f2, f3 rfl, hlen, hb, k1, k2⟩
theorem flat_le (LL : List Nat) (ts : List Lt) (hL : ∀ i, len LL i ≤ 7) (n : Nat) (h : ts.length ≤ n) : (ts.flatMap (Lt.bits LL)).length ≤ 14 * n := by
  have h0 : (ts.flatMap (Lt.bits LL)).length ≤ 14 * ts.length := by
    clear h
    induction ts with
    | nil => simp
    | cons t ts ih =>
      rw [List.flatMap_cons, List.length_append, List.length_cons]
      have : (Lt.bits LL t).length ≤ 14 := by
        unfold Lt.bits
        rw [List.length_append, bitsOf_length, bitsOf_length]
        have := hL t.sym
        have : ltBits t.sym ≤ 7 := by unfold ltBits; split <;> (try split) <;> (try split) <;> omega
        omega
      omega
  omega
theorem third_le {T : List Int} {n : Nat} (h : Third T n) (i : Nat) : len (Ln T) i ≤ 7 := by
  have := h.le i
  have e : len (Ln T) i = (T.getD i 0).toNat := getD_toNat T i
  omega
theorem W17_ok (l d : List Int) (h : right17 l d true = true) : ∃ n T ts, Third T n ∧ (∀ t ∈ ts, t.ok (Ln T)) ∧ (∀ t, ts.head? = some t → t.sym ≠ 16) ∧ exp17 [] ts = trim17 l 257 ++ trim17 d 1 ∧ W17 l d = wb17 (trim17 l 257).length (trim17 d 1).length n T ts ∧ (W17 l d).length ≤ 10000 := by
  have hr := right17_trim l d true h
  obtain ⟨a1, a2, a3, a4, a5, a6, a7⟩ := ts17_ok _ _ hr
  refine ⟨_, _, _, a6, fun t ht => ⟨(a2 t ht).1, by rw [Ln_length, a6.len]; exact (a2 t ht).1, a7 t ht, (a2 t ht).2⟩, a3, a1, rfl, ?_⟩
  unfold W17 wb17
  have h1 := flat_le (Ln (T17 (trim17 l 257) (trim17 d 1))) _ (third_le a6) 318 a4
  have h2 := a6.n19
  simp only [List.length_append, bitsOf_length, hd3_length]
  omega
end Go.Proofs.YtibkepjbblfkoaaGreatDoor
