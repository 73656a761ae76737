/- Numbers of layer 8: what tokens tell, how many bytes; a text's runs. -/
import Derived.Test.YtmafgamacijdaaaTok
import Derived.Test.YtmafgamacijdaaaHstMath
namespace Go.Proofs.Ytmafgamacijdaaa
set_option linter.unusedVariables false
set_option linter.unusedSimpArgs false

/-- one token told -/
def HS.tk (s : HS) (t : Tk) : Nat × HS := if t.len = 0 then s.lit t.lit else s.copy t.dist t.len
/-- tokens told, one by one, up to the first error -/
def tellT : HS → List Tk → Nat × HS
  | s, [] => (0, s)
  | s, t :: ts => if (s.tk t).1 = 0 then tellT (s.tk t).2 ts else s.tk t
theorem tellT_append (s : HS) (a b : List Tk) : tellT s (a ++ b) = if (tellT s a).1 = 0 then tellT (tellT s a).2 b else tellT s a := by
  induction a generalizing s with
  | nil => simp [tellT]
  | cons t a ih =>
    rw [List.cons_append, tellT, tellT]
    by_cases h : (s.tk t).1 = 0
    · rw [if_pos h, if_pos h, ih]
    · rw [if_neg h, if_neg h, if_neg h]
/-- which windows may not be -/
def winBad (win most : Int) : Prop := win < 1 ∨ 65536 < win ∨ most < 0
instance (win most : Int) : Decidable (winBad win most) := by unfold winBad; infer_instance
/-- the error, and the bytes -/
def expT (ts : List Tk) (win most : Int) (nou : Bool) : Nat × List UInt8 :=
  if winBad win most then (2, []) else if (tellT ⟨win.toNat, most.toNat, nou, []⟩ ts).1 = 0 then (0, (tellT ⟨win.toNat, most.toNat, nou, []⟩ ts).2.b) else ((tellT ⟨win.toNat, most.toNat, nou, []⟩ ts).1, [])
def sz1 (t : Tk) : Nat := if t.len = 0 then 1 else t.len.toNat
def sumT (ts : List Tk) : Nat := (ts.map sz1).sum
def sizeT (ts : List Tk) : Nat := min 4611686018427387904 (sumT ts)
theorem sumT_append (a b : List Tk) : sumT (a ++ b) = sumT a + sumT b := by simp [sumT]
theorem HS.tk_ok {s : HS} {t : Tk} (h : (s.tk t).1 = 0) : (s.tk t).2.b.length = s.b.length + sz1 t ∧ (s.tk t).2.win = s.win ∧ (s.tk t).2.most = s.most ∧ (s.tk t).2.nou = s.nou := by
  unfold HS.tk sz1 at *
  by_cases h0 : t.len = 0
  · rw [if_pos h0] at h ⊢
    rw [if_pos h0]
    unfold HS.lit at *
    by_cases h1 : s.most ≤ s.b.length
    · rw [if_pos h1] at h; simp at h
    · rw [if_neg h1]; simp
  · rw [if_neg h0] at h ⊢
    rw [if_neg h0]
    unfold HS.copy at *
    by_cases h1 : t.dist < 1 ∨ t.len < 0
    · rw [if_pos h1] at h; simp at h
    rw [if_neg h1] at h ⊢
    by_cases h2 : (s.win : Int) < t.dist ∨ ((s.b.length : Int) < t.dist ∧ s.nou = false)
    · rw [if_pos h2] at h; simp at h
    rw [if_neg h2] at h ⊢
    by_cases h3 : (s.most : Int) - s.b.length < t.len
    · rw [if_pos h3] at h; simp at h
    rw [if_neg h3]
    exact ⟨cpy_len _ _ _, rfl, rfl, rfl⟩
theorem tellT_size {s : HS} {ts : List Tk} (h : (tellT s ts).1 = 0) : (tellT s ts).2.b.length = s.b.length + sumT ts := by
  induction ts generalizing s with
  | nil => simp [tellT, sumT]
  | cons t ts ih =>
    rw [tellT] at h ⊢
    by_cases h1 : (s.tk t).1 = 0
    · rw [if_pos h1] at h ⊢
      rw [ih h, (HS.tk_ok h1).1]
      simp [sumT]; omega
    · rw [if_neg h1] at h; exact absurd h h1
/-- with less room: the same, or it is no room -/
theorem HS.tk_less {s : HS} {t : Tk} (h : (s.tk t).1 = 0) (m : Nat) (hm : s.b.length ≤ m) :
    (s.b.length + sz1 t ≤ m → ({ s with most := m } : HS).tk t = (0, { (s.tk t).2 with most := m })) ∧ (m < s.b.length + sz1 t → (({ s with most := m } : HS).tk t).1 = 9) := by
  unfold HS.tk sz1 at *
  by_cases h0 : t.len = 0
  · rw [if_pos h0] at h ⊢
    rw [if_pos h0, if_pos h0]
    unfold HS.lit at *
    by_cases h1 : s.most ≤ s.b.length
    · rw [if_pos h1] at h; simp at h
    · rw [if_neg h1]
      refine ⟨fun h2 => ?_, fun h2 => ?_⟩
      · rw [if_neg (by dsimp only; omega)]
      · rw [if_pos (by dsimp only; omega)]
  · rw [if_neg h0] at h ⊢
    rw [if_neg h0, if_neg h0]
    unfold HS.copy at *
    by_cases h1 : t.dist < 1 ∨ t.len < 0
    · rw [if_pos h1] at h; simp at h
    rw [if_neg h1] at h ⊢
    by_cases h2 : (s.win : Int) < t.dist ∨ ((s.b.length : Int) < t.dist ∧ s.nou = false)
    · rw [if_pos h2] at h; simp at h
    rw [if_neg h2] at h ⊢
    by_cases h3 : (s.most : Int) - s.b.length < t.len
    · rw [if_pos h3] at h; simp at h
    rw [if_neg h3]
    refine ⟨fun h4 => ?_, fun h4 => ?_⟩
    · rw [if_neg h1, if_neg h2, if_neg (by dsimp only; omega)]
    · first | rw [if_neg h1, if_neg h2, if_pos (by dsimp only; omega)] | rw [if_pos (by dsimp only; omega)]
theorem tellT_less {s : HS} {ts : List Tk} (h : (tellT s ts).1 = 0) (m : Nat) (hm : s.b.length ≤ m) (hlt : m < s.b.length + sumT ts) : (tellT { s with most := m } ts).1 = 9 := by
  induction ts generalizing s with
  | nil => simp [sumT] at hlt; omega
  | cons t ts ih =>
    rw [tellT] at h ⊢
    by_cases h1 : (s.tk t).1 = 0
    · rw [if_pos h1] at h
      obtain ⟨g1, g2⟩ := HS.tk_less h1 m hm
      have hs : sumT (t :: ts) = sz1 t + sumT ts := by simp [sumT]
      by_cases h2 : s.b.length + sz1 t ≤ m
      · rw [g1 h2, if_pos rfl]
        have hk := (HS.tk_ok h1).1
        exact ih h (by omega) (by omega)
      · have h9 := g2 (by omega)
        rw [if_neg (by omega)]; exact h9
    · rw [if_neg h1] at h; exact absurd h h1
/-- the tokens that the first k bytes' runs are -/
def rn (b : List UInt8) : Nat → List Tk
  | 0 => []
  | k + 1 => if k = 0 ∨ b.getD k 0 ≠ b.getD (k - 1) 0 then rn b k ++ [⟨b.getD k 0, 0, 0⟩]
    else if ((rn b k).getLast?.getD default).len = 0 ∨ ((rn b k).getLast?.getD default).len = 258 then rn b k ++ [⟨0, 1, 1⟩]
    else (rn b k).set ((rn b k).length - 1) { (rn b k).getLast?.getD default with len := ((rn b k).getLast?.getD default).len + 1 }
def runs (b : List UInt8) : List Tk := rn b b.length
theorem set_last (l : List Tk) (t x : Tk) : (l ++ [t]).set ((l ++ [t]).length - 1) x = l ++ [x] := by
  rw [List.length_append, List.set_append_right _ _ (by simp)]; simp
theorem take_snoc (b : List UInt8) (k : Nat) (hk : k < b.length) : b.take (k + 1) = b.take k ++ [b.getD k 0] := by
  rw [List.take_succ_eq_append_getElem hk]; simp [hk]
/-- what is known of the runs of the first k bytes -/
structure Rn (b : List UInt8) (k : Nat) : Prop where
  tell : ∀ n, k ≤ n → tellT ⟨1, n, false, []⟩ (rn b k) = (0, ⟨1, n, false, b.take k⟩)
  sum : sumT (rn b k) = k
  len : (rn b k).length ≤ k
  last : k = 0 ∨ ∃ l t, rn b k = l ++ [t] ∧ (t.len = 0 ∨ (t.dist = 1 ∧ 1 ≤ t.len ∧ t.len ≤ 258))
theorem rn_all (b : List UInt8) (k : Nat) (hk : k ≤ b.length) : Rn b k := by
  induction k with
  | zero => exact ⟨fun n _ => by simp [rn, tellT], rfl, Nat.le_refl _, .inl rfl⟩
  | succ k ih =>
    have h := ih (by omega)
    have hts := take_snoc b k (by omega)
    have hlk : (b.take k).length = k := by rw [List.length_take]; omega
    by_cases h1 : k = 0 ∨ b.getD k 0 ≠ b.getD (k - 1) 0
    · have e : rn b (k + 1) = rn b k ++ [⟨b.getD k 0, 0, 0⟩] := by rw [rn, if_pos h1]
      refine ⟨fun n hn => ?_, ?_, ?_, .inr ⟨rn b k, _, e, .inl rfl⟩⟩
      · rw [e, tellT_append, h.tell n (by omega)]
        simp only [if_true]
        rw [tellT]
        have : (⟨1, n, false, b.take k⟩ : HS).tk ⟨b.getD k 0, 0, 0⟩ = (0, ⟨1, n, false, b.take (k + 1)⟩) := by
          unfold HS.tk HS.lit
          rw [if_pos rfl, if_neg (by simp only [hlk]; omega), hts]
        rw [this]; simp [tellT]
      · rw [e, sumT_append, h.sum]; rfl
      · rw [e, List.length_append]; have := h.len; simp; omega
    · have hk0 : k ≠ 0 := fun e => h1 (.inl e)
      have hbe : b.getD k 0 = b.getD (k - 1) 0 := Decidable.byContradiction fun e => h1 (.inr e)
      obtain ⟨l, t, hlt, ht⟩ : ∃ l t, rn b k = l ++ [t] ∧ (t.len = 0 ∨ (t.dist = 1 ∧ 1 ≤ t.len ∧ t.len ≤ 258)) := by
        rcases h.last with h2 | h2
        · exact absurd h2 hk0
        · exact h2
      have hlast : (rn b k).getLast?.getD default = t := by rw [hlt]; simp
      have hback : back1 (b.take k) 1 = b.getD k 0 := by
        unfold back1
        rw [if_pos (by omega), hlk, hbe]
        simp only [List.getD_eq_getElem?_getD]
        rw [List.getElem?_take_of_lt (by omega)]
      by_cases h2 : t.len = 0 ∨ t.len = 258
      · have e : rn b (k + 1) = rn b k ++ [⟨0, 1, 1⟩] := by rw [rn, if_neg h1, hlast, if_pos h2]
        refine ⟨fun n hn => ?_, ?_, ?_, .inr ⟨rn b k, _, e, .inr ⟨rfl, by decide, by decide⟩⟩⟩
        · rw [e, tellT_append, h.tell n (by omega)]
          simp only [if_true]
          rw [tellT]
          have : (⟨1, n, false, b.take k⟩ : HS).tk ⟨0, 1, 1⟩ = (0, ⟨1, n, false, b.take (k + 1)⟩) := by
            unfold HS.tk HS.copy
            rw [if_neg (by decide), if_neg (by decide), if_neg (by simp only [hlk]; omega), if_neg (by simp only [hlk]; omega)]
            show (0, (⟨1, n, false, cpy (b.take k) 1 1⟩ : HS)) = _
            rw [cpy, cpy, hback, hts]
          rw [this]; simp [tellT]
        · rw [e, sumT_append, h.sum]; rfl
        · rw [e, List.length_append]; have := h.len; simp; omega
      · have ht2 : t.dist = 1 ∧ 1 ≤ t.len ∧ t.len ≤ 258 := by
          rcases ht with h3 | h3
          · exact absurd (.inl h3) h2
          · exact h3
        have e : rn b (k + 1) = l ++ [{ t with len := t.len + 1 }] := by rw [rn, if_neg h1, hlast, if_neg h2, hlt, set_last]
        refine ⟨fun n hn => ?_, ?_, ?_, .inr ⟨l, _, e, .inr ⟨ht2.1, by show 1 ≤ t.len + 1; omega, by show t.len + 1 ≤ 258; omega⟩⟩⟩
        · have hT := h.tell n (by omega)
          rw [hlt, tellT_append] at hT
          rw [e, tellT_append]
          by_cases h4 : (tellT ⟨1, n, false, []⟩ l).1 = 0
          · rw [if_pos h4] at hT ⊢
            have hz := tellT_size h4
            generalize (tellT ⟨1, n, false, []⟩ l).2 = s1 at hT hz ⊢
            rw [tellT] at hT ⊢
            by_cases h5 : (s1.tk t).1 = 0
            · rw [if_pos h5] at hT
              simp only [tellT, Prod.mk.injEq, true_and] at hT
              have hk5 := HS.tk_ok h5
              rw [hT] at hk5
              obtain ⟨q1, q2, q3, q4⟩ := hk5
              have hs1 : sz1 t = t.len.toNat := by unfold sz1; rw [if_neg (by omega)]
              simp only [hlk] at q1
              have hcp : cpy s1.b 1 t.len.toNat = b.take k := by
                have h6 := hT
                unfold HS.tk HS.copy at h6
                rw [if_neg (by omega), ht2.1] at h6
                unfold HS.tk HS.copy at h5
                rw [if_neg (by omega), ht2.1] at h5
                by_cases g1 : (1 : Int) < 1 ∨ t.len < 0
                · omega
                rw [if_neg g1] at h5 h6
                by_cases g2 : (s1.win : Int) < 1 ∨ ((s1.b.length : Int) < 1 ∧ s1.nou = false)
                · rw [if_pos g2] at h5; simp at h5
                rw [if_neg g2] at h5 h6
                by_cases g3 : (s1.most : Int) - s1.b.length < t.len
                · rw [if_pos g3] at h5; simp at h5
                rw [if_neg g3] at h6
                exact congrArg HS.b h6
              have hnd : ¬ ((s1.b.length : Int) < 1 ∧ s1.nou = false) := by
                intro g
                unfold HS.tk HS.copy at h5
                rw [if_neg (by omega), ht2.1, if_neg (by omega), if_pos (.inr g)] at h5
                simp at h5
              have hfin : s1.tk { t with len := t.len + 1 } = (0, ⟨1, n, false, b.take (k + 1)⟩) := by
                unfold HS.tk HS.copy
                show (if t.len + 1 = 0 then _ else if t.dist < 1 ∨ t.len + 1 < 0 then _ else if (s1.win : Int) < t.dist ∨ _ then _ else if (s1.most : Int) - s1.b.length < t.len + 1 then _ else (0, { s1 with b := cpy s1.b t.dist.toNat (t.len + 1).toNat })) = _
                rw [if_neg (by omega), ht2.1, if_neg (by omega), if_neg (by
                  intro g
                  rcases g with g | g
                  · rw [← q2] at g; simp at g
                  · exact hnd g), if_neg (by rw [← q3]; simp only; omega)]
                rw [show (t.len + 1).toNat = t.len.toNat + 1 by omega, show (1 : Int).toNat = 1 from rfl, cpy, hcp, hback, ← hts]
                cases s1
                simp only at q2 q3 q4
                subst q2 q3 q4
                rfl
              rw [hfin]; simp [tellT]
            · rw [if_neg h5] at hT
              rw [hT] at h5; simp at h5
          · rw [if_neg h4] at hT
            rw [hT] at h4; simp at h4
        · have h5 := h.sum
          rw [hlt, sumT_append] at h5
          rw [e, sumT_append]
          have e1 : sumT [t] = t.len.toNat := by simp [sumT, sz1]; omega
          have e2 : sumT [{ t with len := t.len + 1 }] = (t.len + 1).toNat := by simp [sumT, sz1]; omega
          rw [e1] at h5; rw [e2]; omega
        · have h5 := h.len
          rw [hlt] at h5
          rw [e]; simp at h5 ⊢; omega
theorem runs_exp (b : List UInt8) (hb : b.length ≤ 65536000) : expT (runs b) 1 b.length false = (0, b) := by
  have h := (rn_all b b.length (Nat.le_refl _)).tell b.length (Nat.le_refl _)
  unfold expT runs
  rw [if_neg (by unfold winBad; omega)]
  show (if (tellT ⟨1, b.length, false, []⟩ (rn b b.length)).1 = 0 then _ else _) = _
  rw [if_pos (by rw [h])]
  show (0, (tellT ⟨1, b.length, false, []⟩ (rn b b.length)).2.b) = _
  rw [h, List.take_length]
theorem runs_size (b : List UInt8) (hb : b.length ≤ 65536000) : sizeT (runs b) = b.length := by
  unfold sizeT runs
  rw [(rn_all b b.length (Nat.le_refl _)).sum]; omega
end Go.Proofs.Ytmafgamacijdaaa
