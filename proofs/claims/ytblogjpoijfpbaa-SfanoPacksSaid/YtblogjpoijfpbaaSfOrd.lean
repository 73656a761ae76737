/- Symbols as they stand by falling lengths, of one length by falling symbols; what lies ahead of each; and the marks that loops over functions leave behind. -/
import Derived.Test.YtblogjpoijfpbaaSfMath
import Derived.Test.YtblogjpoijfpbaaRangeO
namespace Go.Proofs.Ytblogjpoijfpbaa
set_option linter.unusedVariables false
set_option linter.unusedSimpArgs false
open Go.ChangeShapes Go.WideShapes Go.ChangeAt Go.RowKit Go.Shelf

def dwn (N : Nat) : List Nat := (List.range N).reverse
theorem dwn_at (N k : Nat) (hk : k < N) : (dwn N)[k]? = some (N - 1 - k) := by
  unfold dwn
  rw [List.getElem?_reverse (by simpa using hk), List.length_range, List.getElem?_range (by omega)]
theorem dwn_len (N : Nat) : (dwn N).length = N := by simp [dwn]
theorem dwn_mem (N t : Nat) : t ∈ dwn N ↔ t < N := by simp [dwn]
theorem dwn_get (N k x : Nat) (h : (dwn N)[k]? = some x) : k < N ∧ x = N - 1 - k := by
  have hk : k < N := by have := (List.getElem?_eq_some_iff.1 h).1; simpa [dwn] using this
  rw [dwn_at N k hk] at h
  exact ⟨hk, by simpa using h.symm⟩
theorem dwn_falls (N : Nat) : (dwn N).Pairwise fun a b => b < a := by
  unfold dwn
  rw [List.pairwise_reverse]
  exact List.pairwise_lt_range
/-- the symbols of one length -/
def ofLen (L : List Nat) (n : Nat) : List Nat := (dwn L.length).filter fun s => len L s == n
/-- the symbols of lengths n and less, the longest first -/
def ordS (L : List Nat) : Nat → List Nat
  | 0 => []
  | n + 1 => ofLen L (n + 1) ++ ordS L n
theorem ofLen_mem (L : List Nat) (n t : Nat) : t ∈ ofLen L n ↔ t < L.length ∧ len L t = n := by simp [ofLen, dwn_mem]
theorem ordS_mem (L : List Nat) (n t : Nat) : t ∈ ordS L n ↔ t < L.length ∧ 1 ≤ len L t ∧ len L t ≤ n := by
  induction n with
  | zero => simp [ordS]; omega
  | succ n ih => rw [ordS, List.mem_append, ofLen_mem, ih]; omega
theorem ordS_falls (L : List Nat) (n : Nat) : (ordS L n).Pairwise fun a b => ahd L b a = true := by
  induction n with
  | zero => exact List.Pairwise.nil
  | succ n ih =>
    rw [ordS, List.pairwise_append]
    refine ⟨?_, ih, fun a ha b hb => ?_⟩
    · refine List.Pairwise.imp_of_mem (fun {a b} ha hb hab => ?_) (List.Pairwise.filter _ (dwn_falls L.length))
      rw [ahd_iff]
      have h1 := ((ofLen_mem L (n + 1) a).1 ha).2
      have h2 := ((ofLen_mem L (n + 1) b).1 hb).2
      omega
    · rw [ahd_iff]
      have h1 := ((ofLen_mem L (n + 1) a).1 ha).2
      have h2 := ((ordS_mem L n b).1 hb).2
      omega
/-- the sum over a row of symbols, none twice, is the sum over all that are in it -/
theorem sum_in (f : Nat → Nat) (N : Nat) : ∀ ys : List Nat, ys.Nodup → (∀ y ∈ ys, y < N) → (ys.map f).sum = sm (fun t => if t ∈ ys then f t else 0) N := by
  intro ys
  induction ys with
  | nil => intro _ _; simp [sm_zero]
  | cons y ys ih =>
    intro hn hy
    rw [List.nodup_cons] at hn
    rw [List.map_cons, List.sum_cons, ih hn.2 (fun z hz => hy z (List.mem_cons_of_mem _ hz))]
    rw [← sm_one N y (f y) (hy y (List.mem_cons_self ..)), ← sm_add]
    refine sm_congr _ _ _ (fun t _ => ?_)
    by_cases e : t = y
    · subst e; rw [if_pos rfl, if_neg hn.1, if_pos (List.mem_cons_self ..)]; omega
    · rw [if_neg e]
      by_cases e2 : t ∈ ys
      · rw [if_pos e2, if_pos (List.mem_cons_of_mem _ e2)]; omega
      · rw [if_neg e2, if_neg (by simp [e, e2])]
theorem ahd_irrefl (L : List Nat) (i : Nat) : ahd L i i = false := by rw [Bool.eq_false_iff, ne_eq, ahd_iff]; omega
theorem ahd_asymm (L : List Nat) (i k : Nat) (h : ahd L i k = true) : ahd L k i = false := by
  rw [ahd_iff] at h; rw [Bool.eq_false_iff, ne_eq, ahd_iff]; omega
/-- what the symbols ahead weigh -/
theorem ord_ahead (L : List Nat) (hL : ∀ t, t < L.length → 1 ≤ len L t ∧ len L t ≤ 16) (k s : Nat) (h : (ordS L 16)[k]? = some s) : (((ordS L 16).take k).map (wd16 L)).sum = ah L s := by
  have hf := ordS_falls L 16
  obtain ⟨hk, hs⟩ := List.getElem?_eq_some_iff.1 h
  have hsplit : ordS L 16 = (ordS L 16).take k ++ s :: (ordS L 16).drop (k + 1) := by
    conv => lhs; rw [← List.take_append_drop k (ordS L 16)]
    rw [List.drop_eq_getElem_cons hk, hs]
  rw [hsplit, List.pairwise_append] at hf
  obtain ⟨f1, f2, f3⟩ := hf
  rw [List.pairwise_cons] at f2
  have hmem : ∀ t, t ∈ (ordS L 16).take k ↔ t < L.length ∧ ahd L s t = true := by
    intro t
    constructor
    · intro ht
      exact ⟨((ordS_mem L 16 t).1 (List.mem_of_mem_take ht)).1, f3 t ht s (List.mem_cons_self ..)⟩
    · rintro ⟨h1, h2⟩
      have hm : t ∈ ordS L 16 := (ordS_mem L 16 t).2 ⟨h1, hL t h1⟩
      rw [hsplit, List.mem_append, List.mem_cons] at hm
      rcases hm with hm | rfl | hm
      · exact hm
      · rw [ahd_irrefl] at h2; cases h2
      · have := ahd_asymm L t s (f2.1 t hm); rw [this] at h2; cases h2
  have hnd : ((ordS L 16).take k).Nodup := by
    refine List.Pairwise.imp (fun {a b} hab => ?_) f1
    rintro rfl
    rw [ahd_irrefl] at hab; cases hab
  rw [sum_in (wd16 L) L.length _ hnd (fun y hy => ((hmem y).1 hy).1)]
  unfold ah
  refine sm_congr _ _ _ (fun t ht => ?_)
  by_cases e : ahd L s t = true
  · rw [if_pos e, if_pos ((hmem t).2 ⟨ht, e⟩)]
  · rw [if_neg e, if_neg (fun h => e ((hmem t).1 h).2)]
/-- the place behind k symbols -/
def upto (L : List Nat) (k : Nat) : Nat := (((ordS L 16).take k).map (wd16 L)).sum
theorem upto_zero (L : List Nat) : upto L 0 = 0 := by simp [upto]
theorem upto_succ (L : List Nat) (k s : Nat) (h : (ordS L 16)[k]? = some s) : upto L (k + 1) = upto L k + wd16 L s := by
  unfold upto
  rw [List.take_add_one, h]
  simp
/-- the marks of loops over functions that a function has come through -/
def marks (Ds : List Nat) : List Deferred := Ds.map fun D => { target := .collected D, args := #[] }
structure Mks (B : Nat) (Ds : List Nat) (W : World) : Prop where
  nodup : Ds.Nodup
  at_ : ∀ D ∈ Ds, B ≤ D ∧ W.heap[D]? = some (.deferred (some []))
theorem leaves_marks {n : Nat} {P : Program} {fn : Func} {tmps : Array Value} {R : Ending → World → Prop} {v : Value} (B : Nat) (J : World → Prop) (hJ : OwnFrom B fun (_ : Unit) W => J W) (hres : ∀ w, (results fn tmps).run P w = .ok v w) (hR : ∀ W, J W → R (.returned v) W) :
    ∀ (Ds : List Nat) (W : World), Mks B Ds W → J W → LeavesInM Fence.wide n P fn tmps R (marks Ds) .returning W := by
  intro Ds
  induction Ds with
  | nil => intro W _ hj; exact ⟨v, hres W, hR W hj⟩
  | cons D Ds ih =>
    intro W hM hj
    obtain ⟨h1, h2⟩ := hM.at_ D (List.mem_cons_self ..)
    have hn := List.nodup_cons.1 hM.nodup
    refine ⟨by simp, .inl ⟨D, _, rfl, run_takeDeferred h2, ih _ ⟨hn.2, fun D' hD' => ?_⟩ (hJ.putObj (s := ()) _ hj h1 h2 rfl)⟩⟩
    obtain ⟨h3, h4⟩ := hM.at_ D' (List.mem_cons_of_mem _ hD')
    refine ⟨h3, (World.putObj_heap_other (fun e => hn.1 ?_)).trans h4⟩
    first | exact e ▸ hD' | exact e.symm ▸ hD'
end Go.Proofs.Ytblogjpoijfpbaa
