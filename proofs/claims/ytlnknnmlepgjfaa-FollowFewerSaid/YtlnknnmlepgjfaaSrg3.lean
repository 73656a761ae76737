/- The library's symMergeCmpFunc at rows of elements of two cells: what it makes, as numbers. -/
import Derived.Test.YtlnknnmlepgjfaaSrg2
namespace Go.Proofs.Ytlnknnmlepgjfaa.Sg
set_option linter.unusedVariables false
set_option linter.unusedSimpArgs false
open Go.ChangeShapes Go.WideShapes Go.ChangeAt Go.RowKit

/-- zs' is zs with [a, b) sorted -/
structure Mg (key : SEl → Int) (zs zs' : List SEl) (a b : Nat) : Prop where
  srt : Srt key zs' a b
  out : ∀ p, p < a ∨ b ≤ p → gn zs' p = gn zs p
  mem : ∀ p, a ≤ p → p < b → ∃ q, a ≤ q ∧ q < b ∧ gn zs' p = gn zs q
theorem Mg.same {key : SEl → Int} {zs : List SEl} {a b : Nat} (h : Srt key zs a b) : Mg key zs zs a b := ⟨h, fun _ _ => rfl, fun p h1 h2 => ⟨p, h1, h2, rfl⟩⟩
theorem Srt.one (key : SEl → Int) (zs : List SEl) (a b : Nat) (h : b ≤ a + 1) : Srt key zs a b := fun p q h1 h2 h3 => by rw [show p = q by omega]; exact Int.le_refl _
/-- the number at a led up to k -/
def shL (A : Nat → SEl) (a k p : Nat) : SEl := if a ≤ p ∧ p < k then A (p + 1) else if p = k then A a else A p
theorem shL_zero (A : Nat → SEl) (a p : Nat) : A p = shL A a a p := by
  unfold shL; rw [if_neg (by omega)]; split
  · next h => rw [h]
  · rfl
theorem shL_step (l : List SEl) (A : Nat → SEl) (a k : Nat) (hak : a ≤ k) (hk : k + 1 < l.length) (h : ∀ p, gn l p = shL A a k p) (p : Nat) : gn (gxc l k (k + 1)) p = shL A a (k + 1) p := by
  rw [gxc_at l _ _ _ (by omega) (by omega), h, h, h]
  unfold shL
  repeat' split
  all_goals first | omega | (congr 1; omega) | rfl
theorem shL_mg {key : SEl → Int} {zs z2 : List SEl} {a i b : Nat} (hai : a + 1 ≤ i) (hib : i ≤ b) (hs : Srt key zs (a + 1) b) (h1 : ∀ p, a + 1 ≤ p → p < i → key (gn zs p) < key (gn zs a)) (h2 : ∀ p, i ≤ p → p < b → key (gn zs a) ≤ key (gn zs p))
    (h : ∀ p, gn z2 p = shL (gn zs) a (i - 1) p) : Mg key zs z2 a b := by
  refine ⟨fun p q hp hpq hq => ?_, fun p hp => ?_, fun p hp hq => ?_⟩
  · rw [h, h]
    unfold shL
    by_cases p1 : p < i - 1
    · rw [if_pos ⟨hp, p1⟩]
      by_cases q1 : q < i - 1
      · rw [if_pos ⟨by omega, q1⟩]; exact hs _ _ (by omega) (by omega) (by omega)
      · rw [if_neg (by omega)]
        by_cases q2 : q = i - 1
        · rw [if_pos q2]; exact Int.le_of_lt (h1 _ (by omega) (by omega))
        · rw [if_neg q2]; exact hs _ _ (by omega) (by omega) (by omega)
    · rw [if_neg (by omega), if_neg (show ¬ (a ≤ q ∧ q < i - 1) by omega)]
      by_cases p2 : p = i - 1
      · rw [if_pos p2]
        by_cases q2 : q = i - 1
        · rw [if_pos q2]; exact Int.le_refl _
        · rw [if_neg q2]; exact h2 _ (by omega) (by omega)
      · rw [if_neg p2, if_neg (show ¬ q = i - 1 by omega)]; exact hs _ _ (by omega) (by omega) (by omega)
  · rw [h]; unfold shL; rw [if_neg (by omega), if_neg (by omega)]
  · rw [h]; unfold shL
    by_cases p1 : p < i - 1
    · rw [if_pos ⟨hp, p1⟩]; exact ⟨_, by omega, by omega, rfl⟩
    · rw [if_neg (by omega)]
      by_cases p2 : p = i - 1
      · rw [if_pos p2]; exact ⟨a, by omega, by omega, rfl⟩
      · rw [if_neg p2]; exact ⟨p, hp, hq, rfl⟩
/-- the number at m led down to k -/
def shR (A : Nat → SEl) (m k p : Nat) : SEl := if k < p ∧ p ≤ m then A (p - 1) else if p = k then A m else A p
theorem shR_zero (A : Nat → SEl) (m p : Nat) : A p = shR A m m p := by
  unfold shR; rw [if_neg (by omega)]; split
  · next h => rw [h]
  · rfl
theorem shR_step (l : List SEl) (A : Nat → SEl) (m k : Nat) (hk0 : 0 < k) (hkm : k ≤ m) (hk : m < l.length) (h : ∀ p, gn l p = shR A m k p) (p : Nat) : gn (gxc l k (k - 1)) p = shR A m (k - 1) p := by
  rw [gxc_at l _ _ _ (by omega) (by omega), h, h, h]
  unfold shR
  repeat' split
  all_goals first | omega | (congr 1; omega) | rfl
theorem shR_mg {key : SEl → Int} {zs z2 : List SEl} {a i m : Nat} (hai : a ≤ i) (him : i ≤ m) (hs : Srt key zs a m) (h1 : ∀ p, a ≤ p → p < i → key (gn zs p) ≤ key (gn zs m)) (h2 : ∀ p, i ≤ p → p < m → key (gn zs m) < key (gn zs p))
    (h : ∀ p, gn z2 p = shR (gn zs) m i p) : Mg key zs z2 a (m + 1) := by
  refine ⟨fun p q hp hpq hq => ?_, fun p hp => ?_, fun p hp hq => ?_⟩
  · rw [h, h]
    unfold shR
    by_cases p1 : i < p
    · rw [if_pos ⟨p1, by omega⟩, if_pos ⟨by omega, by omega⟩]; exact hs _ _ (by omega) (by omega) (by omega)
    · rw [if_neg (by omega)]
      by_cases p2 : p = i
      · rw [if_pos p2]
        by_cases q2 : q = i
        · rw [if_neg (by omega), if_pos q2]; exact Int.le_refl _
        · rw [if_pos ⟨by omega, by omega⟩]; exact Int.le_of_lt (h2 _ (by omega) (by omega))
      · rw [if_neg p2]
        by_cases q1 : i < q
        · rw [if_pos ⟨q1, by omega⟩]; exact hs _ _ (by omega) (by omega) (by omega)
        · rw [if_neg (by omega)]
          by_cases q2 : q = i
          · rw [if_pos q2]; exact h1 _ hp (by omega)
          · rw [if_neg q2]; exact hs _ _ (by omega) (by omega) (by omega)
  · rw [h]; unfold shR; rw [if_neg (by omega), if_neg (by omega)]
  · rw [h]; unfold shR
    by_cases p1 : i < p
    · rw [if_pos ⟨p1, by omega⟩]; exact ⟨_, by omega, by omega, rfl⟩
    · rw [if_neg (by omega)]
      by_cases p2 : p = i
      · rw [if_pos p2]; exact ⟨m, by omega, by omega, rfl⟩
      · rw [if_neg p2]; exact ⟨p, hp, hq, rfl⟩
/-- behind the turn of [s, m) and [m, e): four sorted rows, none of the first two above any of the last two -/
theorem rot_facts {key : SEl → Int} {zs z1 : List SEl} {a s m mid e b : Nat} (hsm : s ≤ m) (hme : m ≤ e) (has : a ≤ s) (heb : e ≤ b) (hsmid : s ≤ mid) (hN : e + s = mid + m) (hA : Srt key zs a m) (hB : Srt key zs m b)
    (h1 : s = a ∨ e = b ∨ key (gn zs (s - 1)) ≤ key (gn zs e)) (h2 : s = m ∨ e = m ∨ key (gn zs (e - 1)) < key (gn zs s)) (h : ∀ p, gn z1 p = rtR (gn zs) s m e p) :
    Srt key z1 a s ∧ Srt key z1 s mid ∧ Srt key z1 mid e ∧ Srt key z1 e b ∧ ∀ p q, a ≤ p → p < mid → mid ≤ q → q < b → key (gn z1 p) ≤ key (gn z1 q) := by
  have v1 : ∀ p, p < s → gn z1 p = gn zs p := fun p hp => by rw [h]; unfold rtR; rw [if_neg (by omega), if_neg (by omega)]
  have v2 : ∀ p, s ≤ p → p < mid → gn z1 p = gn zs (p + m - s) := fun p hp hq => by rw [h]; unfold rtR; rw [if_pos (by omega)]
  have v3 : ∀ p, mid ≤ p → p < e → gn z1 p = gn zs (p + m - e) := fun p hp hq => by rw [h]; unfold rtR; rw [if_neg (by omega), if_pos (by omega)]
  have v4 : ∀ p, e ≤ p → gn z1 p = gn zs p := fun p hp => by rw [h]; unfold rtR; rw [if_neg (by omega), if_neg (by omega)]
  refine ⟨fun p q hp hpq hq => ?_, fun p q hp hpq hq => ?_, fun p q hp hpq hq => ?_, fun p q hp hpq hq => ?_, fun p q hp hpm hq hqb => ?_⟩
  · rw [v1 p (by omega), v1 q hq]; exact hA _ _ hp hpq (by omega)
  · rw [v2 p hp (by omega), v2 q (by omega) hq]; exact hB _ _ (by omega) (by omega) (by omega)
  · rw [v3 p hp (by omega), v3 q (by omega) hq]; exact hA _ _ (by omega) (by omega) (by omega)
  · rw [v4 p hp, v4 q (by omega)]; exact hB _ _ (by omega) (by omega) (by omega)
  · by_cases p1 : p < s
    · rw [v1 p p1]
      by_cases q1 : q < e
      · rw [v3 q hq q1]; exact hA _ _ hp (by omega) (by omega)
      · rw [v4 q (by omega)]
        rcases h1 with h1 | h1 | h1
        · omega
        · omega
        · have a1 := hA p (s - 1) hp (by omega) (by omega)
          have a2 := hB e q (by omega) (by omega) hqb
          omega
    · rw [v2 p (by omega) hpm]
      by_cases q1 : q < e
      · rw [v3 q hq q1]
        rcases h2 with h2 | h2 | h2
        · omega
        · omega
        · have a1 := hB (p + m - s) (e - 1) (by omega) (by omega) (by omega)
          have a2 := hA s (q + m - e) (by omega) (by omega) (by omega)
          omega
      · rw [v4 q (by omega)]; exact hB _ _ (by omega) (by omega) hqb
theorem mg_both {key : SEl → Int} {zs z1 z2 z3 : List SEl} {a s m mid e b : Nat} (hsm : s ≤ m) (hme : m ≤ e) (has : a ≤ s) (heb : e ≤ b) (hsmid : s ≤ mid) (hmide : mid ≤ e) (hN : e + s = mid + m) (h : ∀ p, gn z1 p = rtR (gn zs) s m e p)
    (hLR : ∀ p q, a ≤ p → p < mid → mid ≤ q → q < b → key (gn z1 p) ≤ key (gn z1 q)) (h2 : Mg key z1 z2 a mid) (h3 : Mg key z2 z3 mid b) : Mg key zs z3 a b := by
  have hz1 : ∀ p, a ≤ p → p < b → ∃ q, a ≤ q ∧ q < b ∧ gn z1 p = gn zs q := fun p hp hq => by
    rw [h]; unfold rtR
    split
    · exact ⟨_, by omega, by omega, rfl⟩
    · split
      · exact ⟨_, by omega, by omega, rfl⟩
      · exact ⟨p, hp, hq, rfl⟩
  have hl : ∀ p, a ≤ p → p < mid → ∃ q, a ≤ q ∧ q < mid ∧ gn z3 p = gn z1 q := fun p hp hq => by
    rw [h3.out p (.inl hq)]; exact h2.mem p hp hq
  have hr : ∀ p, mid ≤ p → p < b → ∃ q, mid ≤ q ∧ q < b ∧ gn z3 p = gn z1 q := fun p hp hq => by
    obtain ⟨q, q1, q2, q3⟩ := h3.mem p hp hq
    exact ⟨q, q1, q2, by rw [q3, h2.out q (.inr q1)]⟩
  refine ⟨fun p q hp hpq hq => ?_, fun p hp => ?_, fun p hp hq => ?_⟩
  · by_cases q1 : q < mid
    · rw [h3.out p (.inl (by omega)), h3.out q (.inl q1)]; exact h2.srt p q hp hpq q1
    · by_cases p1 : p < mid
      · obtain ⟨p', a1, a2, a3⟩ := hl p hp p1
        obtain ⟨q', b1, b2, b3⟩ := hr q (by omega) hq
        rw [a3, b3]; exact hLR p' q' a1 a2 b1 b2
      · exact h3.srt p q (by omega) hpq hq
  · rw [h3.out p (by omega), h2.out p (by omega), h]; unfold rtR; rw [if_neg (by omega), if_neg (by omega)]
  · by_cases p1 : p < mid
    · obtain ⟨p', a1, a2, a3⟩ := hl p hp p1
      obtain ⟨q, b1, b2, b3⟩ := hz1 p' a1 (by omega)
      exact ⟨q, b1, b2, a3.trans b3⟩
    · obtain ⟨p', a1, a2, a3⟩ := hr p (by omega) hq
      obtain ⟨q, b1, b2, b3⟩ := hz1 p' (by omega) a2
      exact ⟨q, b1, b2, a3.trans b3⟩
theorem rtR_none (A : Nat → SEl) (s m e p : Nat) (hsm : s ≤ m) (hme : m ≤ e) (h : s = m ∨ m = e) : A p = rtR A s m e p := by
  unfold rtR
  repeat' split
  all_goals first | omega | (congr 1; omega) | rfl
/-- by the way that an element goes, what the order says stays said -/
theorem Sta.shL {kc key : SEl → Int} {zs z2 : List SEl} {n a i b : Nat} (h : Sta kc key zs n) (hai : a + 1 ≤ i) (hib : i ≤ b) (hb : b ≤ n) (h1 : ∀ p, a + 1 ≤ p → p < i → key (gn zs p) < key (gn zs a)) (he : ∀ p, gn z2 p = Sg.shL (gn zs) a (i - 1) p) : Sta kc key z2 n := by
  refine h.move (fun p => if a ≤ p ∧ p < i - 1 then p + 1 else if p = i - 1 then a else p) (fun p hp => ?_) (fun p hp => ?_) (fun p q hp hq => ?_)
  · repeat' split
    all_goals omega
  · rw [he]; unfold Sg.shL
    repeat' split
    all_goals first | rfl | omega
  · by_cases p1 : a ≤ p ∧ p < i - 1
    · rw [if_pos p1]
      by_cases q1 : q = i - 1
      · rw [if_neg (by omega), if_pos q1]; right; have := h1 (p + 1) (by omega) (by omega); omega
      · left
        repeat' split
        all_goals omega
    · rw [if_neg p1]
      left
      repeat' split
      all_goals omega
theorem Sta.shR {kc key : SEl → Int} {zs z2 : List SEl} {n a i m : Nat} (h : Sta kc key zs n) (hai : a ≤ i) (him : i ≤ m) (hm : m < n) (h2 : ∀ p, i ≤ p → p < m → key (gn zs m) < key (gn zs p)) (he : ∀ p, gn z2 p = Sg.shR (gn zs) m i p) : Sta kc key z2 n := by
  refine h.move (fun p => if i < p ∧ p ≤ m then p - 1 else if p = i then m else p) (fun p hp => ?_) (fun p hp => ?_) (fun p q hp hq => ?_)
  · repeat' split
    all_goals omega
  · rw [he]; unfold Sg.shR
    repeat' split
    all_goals first | rfl | omega
  · by_cases p1 : p = i
    · rw [if_neg (by omega), if_pos p1]
      by_cases q1 : i < q ∧ q ≤ m
      · rw [if_pos q1]; right; have := h2 (q - 1) (by omega) (by omega); omega
      · left
        repeat' split
        all_goals omega
    · left
      repeat' split
      all_goals omega
theorem Sta.rot {kc key : SEl → Int} {zs z1 : List SEl} {n a s m e b : Nat} (h : Sta kc key zs n) (has : a ≤ s) (heb : e ≤ b) (hb : b ≤ n) (hsm : s ≤ m) (hme : m ≤ e) (hA : Srt key zs a m) (hB : Srt key zs m b) (h2 : s = m ∨ e = m ∨ key (gn zs (e - 1)) < key (gn zs s)) (he : ∀ p, gn z1 p = rtR (gn zs) s m e p) : Sta kc key z1 n := by
  refine h.move (fun p => if s ≤ p ∧ p < s + (e - m) then p + m - s else if s + (e - m) ≤ p ∧ p < e then p + m - e else p) (fun p hp => ?_) (fun p hp => ?_) (fun p q hp hq => ?_)
  · repeat' split
    all_goals omega
  · rw [he]; unfold rtR
    repeat' split
    all_goals first | rfl | omega
  · by_cases p1 : s ≤ p ∧ p < s + (e - m)
    · rw [if_pos p1]
      by_cases q1 : s + (e - m) ≤ q ∧ q < e
      · rw [if_neg (by omega), if_pos q1]; right
        rcases h2 with h2 | h2 | h2
        · omega
        · omega
        · have a1 := hB (p + m - s) (e - 1) (by omega) (by omega) (by omega)
          have a2 := hA s (q + m - e) (by omega) (by omega) (by omega)
          omega
      · left
        repeat' split
        all_goals omega
    · rw [if_neg p1]
      left
      repeat' split
      all_goals omega
end Go.Proofs.Ytlnknnmlepgjfaa.Sg
