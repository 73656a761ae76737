/- Numbers of layer 13: copies told amid bytes. -/
import Derived.Test.YtmafgamacijdaaaFinMath2
namespace Go.Proofs.Ytmafgamacijdaaa
set_option linter.unusedVariables false
set_option linter.unusedSimpArgs false

/-- a power of two: how many lengths a byte V tells -/
def low13 (f : Nat) : Nat := 2 ^ (8 - f)
theorem low13_of (f : Nat) (h1 : 1 ≤ f) (h2 : f ≤ 4) : 16 ≤ low13 f ∧ low13 f ≤ 128 ∧ low13 f * 2 ^ f = 256 := by
  have h : f = 1 ∨ f = 2 ∨ f = 3 ∨ f = 4 := by omega
  rcases h with rfl | rfl | rfl | rfl <;> decide
/-- a machine: its factor, what was told, what it waits for, V and the length so far -/
structure MS where
  f : Nat
  o : HS
  st : Nat
  V : Nat
  N : Nat
def MS.full (m : MS) : Bool := decide (m.st = 0) && decide (m.o.b.length = m.o.most)
def MS.feed (m : MS) (c : UInt8) : Nat × MS :=
  if m.full then (9, m)
  else if m.st = 0 then (if c.toNat = 144 then (0, { m with st := 1 }) else ((m.o.lit c).1, { m with o := (m.o.lit c).2 }))
  else if m.st = 1 then
    (if c.toNat = 0 then ((m.o.lit 144).1, { m with o := (m.o.lit 144).2, st := if (m.o.lit 144).1 = 0 then 0 else 1 })
     else (0, { m with V := c.toNat, N := c.toNat % low13 m.f, st := if c.toNat % low13 m.f = low13 m.f - 1 then 2 else 3 }))
  else if m.st = 2 then (0, { m with N := m.N + c.toNat, st := 3 })
  else ((m.o.copy (256 * (m.V / low13 m.f) + c.toNat + 1 : Nat) (m.N + 3 : Nat)).1, { m with o := (m.o.copy (256 * (m.V / low13 m.f) + c.toNat + 1 : Nat) (m.N + 3 : Nat)).2, st := if (m.o.copy (256 * (m.V / low13 m.f) + c.toNat + 1 : Nat) (m.N + 3 : Nat)).1 = 0 then 0 else m.st })
def MS.all : MS → List UInt8 → Nat × MS
  | m, [] => (0, m)
  | m, c :: t => if (m.feed c).1 = 0 then MS.all (m.feed c).2 t else m.feed c
theorem MS.all_append (m : MS) (a t : List UInt8) (h : (m.all a).1 = 0) : m.all (a ++ t) = (m.all a).2.all t := by
  induction a generalizing m with
  | nil => rfl
  | cons c a ih =>
    simp only [List.cons_append, MS.all] at h ⊢
    by_cases e : (m.feed c).1 = 0
    · rw [if_pos e] at h ⊢; rw [if_pos e]; exact ih _ h
    · rw [if_neg e] at h; exact absurd h e
theorem MS.all_step (m : MS) (c : UInt8) (t : List UInt8) (m2 : MS) (h : m.feed c = (0, m2)) : m.all (c :: t) = m2.all t := by
  simp only [MS.all, h]; rfl
/-- where a machine stands that is at rest -/
def at13 (f : Nat) (b : List UInt8) (i V N : Nat) : MS := ⟨f, ⟨65536, b.length, true, b.take i⟩, 0, V, N⟩
/-- bytes as they are told -/
def lits (l : List UInt8) : List UInt8 := l.flatMap fun c => if c.toNat = 144 then [c, 0] else [c]
theorem lits_cons (c : UInt8) (t : List UInt8) : lits (c :: t) = (if c.toNat = 144 then [c, 0] else [c]) ++ lits t := by unfold lits; rw [List.flatMap_cons]
theorem lits_len (l : List UInt8) : (lits l).length ≤ 2 * l.length := by
  induction l with
  | nil => exact Nat.le_refl _
  | cons c t ih =>
    rw [lits_cons, List.length_append, List.length_cons]
    split
    · simp only [List.length_cons, List.length_nil]; omega
    · simp only [List.length_cons, List.length_nil]; omega
theorem feed_0 (f : Nat) (o : HS) (V N : Nat) (c : UInt8) (h : o.b.length ≠ o.most) (hc : c.toNat ≠ 144) : (⟨f, o, 0, V, N⟩ : MS).feed c = ((o.lit c).1, ⟨f, (o.lit c).2, 0, V, N⟩) := by
  simp [MS.feed, MS.full, h, hc]
theorem feed_0m (f : Nat) (o : HS) (V N : Nat) (c : UInt8) (h : o.b.length ≠ o.most) (hc : c.toNat = 144) : (⟨f, o, 0, V, N⟩ : MS).feed c = (0, ⟨f, o, 1, V, N⟩) := by
  simp [MS.feed, MS.full, h, hc]
theorem feed_1z (f : Nat) (o : HS) (V N : Nat) (c : UInt8) (hc : c.toNat = 0) : (⟨f, o, 1, V, N⟩ : MS).feed c = ((o.lit 144).1, ⟨f, (o.lit 144).2, if (o.lit 144).1 = 0 then 0 else 1, V, N⟩) := by
  simp [MS.feed, MS.full, hc]
theorem feed_1 (f : Nat) (o : HS) (V N : Nat) (c : UInt8) (hc : c.toNat ≠ 0) : (⟨f, o, 1, V, N⟩ : MS).feed c = (0, ⟨f, o, if c.toNat % low13 f = low13 f - 1 then 2 else 3, c.toNat, c.toNat % low13 f⟩) := by
  simp [MS.feed, MS.full, hc]
theorem feed_2 (f : Nat) (o : HS) (V N : Nat) (c : UInt8) : (⟨f, o, 2, V, N⟩ : MS).feed c = (0, ⟨f, o, 3, V, N + c.toNat⟩) := by
  simp [MS.feed, MS.full]
theorem feed_3 (f : Nat) (o : HS) (V N : Nat) (c : UInt8) (o2 : HS) (h : o.copy (256 * (V / low13 f) + c.toNat + 1 : Nat) (N + 3 : Nat) = (0, o2)) : (⟨f, o, 3, V, N⟩ : MS).feed c = (0, ⟨f, o2, 0, V, N⟩) := by
  unfold MS.feed
  rw [if_neg (by simp [MS.full]), if_neg (by simp), if_neg (by simp), if_neg (by simp)]
  simp only [h]; rfl
theorem feed_lit (f : Nat) (b : List UInt8) (i V N : Nat) (hi : i < b.length) : (at13 f b i V N).all (if (b.getD i 0).toNat = 144 then [b.getD i 0, 0] else [b.getD i 0]) = (0, at13 f b (i + 1) V N) := by
  have hl : (b.take i).length = i := by rw [List.length_take]; omega
  have hne : (⟨65536, b.length, true, b.take i⟩ : HS).b.length ≠ (⟨65536, b.length, true, b.take i⟩ : HS).most := by
    show (b.take i).length ≠ b.length; omega
  have ht := take_snoc b i hi
  have hlit : ∀ c, (⟨65536, b.length, true, b.take i⟩ : HS).lit c = (0, ⟨65536, b.length, true, b.take i ++ [c]⟩) := by
    intro c
    unfold HS.lit
    rw [if_neg (by simp only [hl]; omega)]
  split
  · next e =>
    unfold at13
    rw [MS.all_step _ _ _ _ (feed_0m f _ V N _ hne e)]
    have e2 := feed_1z f (⟨65536, b.length, true, b.take i⟩ : HS) V N 0 rfl
    rw [hlit] at e2
    rw [MS.all_step _ _ _ _ e2, ht]
    have : b.getD i 0 = 144 := by apply UInt8.toNat_inj.1; simpa using e
    rw [this]; rfl
  · next e =>
    unfold at13
    have e1 := feed_0 f (⟨65536, b.length, true, b.take i⟩ : HS) V N (b.getD i 0) hne e
    rw [hlit] at e1
    rw [MS.all_step _ _ _ _ e1, ht]; rfl
theorem feed_lits (f : Nat) (b : List UInt8) (n i V N : Nat) (hi : i + n ≤ b.length) : (at13 f b i V N).all (lits ((b.drop i).take n)) = (0, at13 f b (i + n) V N) := by
  induction n generalizing i with
  | zero => rw [List.take_zero]; rfl
  | succ n ih =>
    have hd : b.drop i = b.getD i 0 :: b.drop (i + 1) := by
      rw [List.drop_eq_getElem_cons (show i < b.length by omega), List.getD_eq_getElem?_getD, List.getElem?_eq_getElem (by omega)]; rfl
    rw [hd, List.take_succ_cons, lits_cons, MS.all_append _ _ _ (by rw [feed_lit f b i V N (by omega)]), feed_lit f b i V N (by omega)]
    show (at13 f b (i + 1) V N).all (lits ((b.drop (i + 1)).take n)) = _
    rw [ih (i + 1) (by omega), show i + 1 + n = i + (n + 1) by omega]
/-- what a copy's byte V is -/
def v13 (f d n : Nat) : Nat := min (n - 3) (low13 f - 1) + low13 f * ((d - 1) / 256)
/-- the bytes of a copy -/
def em13 (f d n : Nat) : List UInt8 := [144, UInt8.ofNat (v13 f d n)] ++ (if low13 f - 1 ≤ n - 3 then [UInt8.ofNat (n - 3 - (low13 f - 1))] else []) ++ [UInt8.ofNat ((d - 1) % 256)]
theorem v13_lt (f d n : Nat) (h1 : 1 ≤ f) (h2 : f ≤ 4) (hd : 1 ≤ d) (hd2 : d ≤ 256 * 2 ^ f) : v13 f d n < 256 ∧ v13 f d n % low13 f = min (n - 3) (low13 f - 1) ∧ v13 f d n / low13 f = (d - 1) / 256 := by
  obtain ⟨a, b, c⟩ := low13_of f h1 h2
  have hq : (d - 1) / 256 < 2 ^ f := (Nat.div_lt_iff_lt_mul (by decide)).2 (by omega)
  have hm : min (n - 3) (low13 f - 1) < low13 f := by omega
  refine ⟨?_, ?_, ?_⟩
  · unfold v13
    have : low13 f * ((d - 1) / 256 + 1) ≤ low13 f * 2 ^ f := Nat.mul_le_mul_left _ (by omega)
    rw [Nat.mul_add, Nat.mul_one] at this
    omega
  · unfold v13; rw [Nat.add_mul_mod_self_left, Nat.mod_eq_of_lt hm]
  · unfold v13; rw [Nat.add_mul_div_left _ _ (by omega), Nat.div_eq_of_lt hm, Nat.zero_add]
theorem feed_em (f : Nat) (b : List UInt8) (i d n V N : Nat) (h1 : 1 ≤ f) (h2 : f ≤ 4) (hd : 1 ≤ d) (hdi : d ≤ i) (hd2 : d ≤ 256 * 2 ^ f) (hn : 3 ≤ n) (hn2 : n ≤ low13 f + 257) (hin : i + n ≤ b.length)
    (hs : ∀ j, j < n → b.getD (i - d + j) 0 = b.getD (i + j) 0) (hv : v13 f d n ≠ 0) : ∃ V' N', (at13 f b i V N).all (em13 f d n) = (0, at13 f b (i + n) V' N') := by
  obtain ⟨a, bb, c⟩ := low13_of f h1 h2
  obtain ⟨v1, v2, v3⟩ := v13_lt f d n h1 h2 hd hd2
  have hl : (b.take i).length = i := by rw [List.length_take]; omega
  have hne : (⟨65536, b.length, true, b.take i⟩ : HS).b.length ≠ (⟨65536, b.length, true, b.take i⟩ : HS).most := by
    show (b.take i).length ≠ b.length; omega
  have hto : (UInt8.ofNat (v13 f d n)).toNat = v13 f d n := by rw [UInt8.toNat_ofNat']; omega
  have hdm : (UInt8.ofNat ((d - 1) % 256)).toNat = (d - 1) % 256 := by rw [UInt8.toNat_ofNat']; omega
  have hcopy : (⟨65536, b.length, true, b.take i⟩ : HS).copy (256 * ((d - 1) / 256) + (d - 1) % 256 + 1 : Nat) (n - 3 + 3 : Nat) = (0, ⟨65536, b.length, true, b.take (i + n)⟩) := by
    rw [show 256 * ((d - 1) / 256) + (d - 1) % 256 + 1 = d by omega, show n - 3 + 3 = n by omega]
    have hpf : 2 ^ f ≤ 2 ^ 4 := Nat.pow_le_pow_right (by decide) h2
    unfold HS.copy
    rw [if_neg (by omega), if_neg (by
      intro g
      rcases g with g | g
      · simp only at g; omega
      · exact absurd g.2 (by simp)), if_neg (by simp only [hl]; omega)]
    show (0, (⟨65536, b.length, true, cpy (b.take i) (d : Int).toNat (n : Int).toNat⟩ : HS)) = _
    rw [Int.toNat_natCast, Int.toNat_natCast, cpy_same b i d n hd hdi hin hs]
  unfold em13 at13
  rw [List.append_assoc, List.cons_append, List.cons_append, List.nil_append, MS.all_step _ _ _ _ (feed_0m f _ V N 144 hne rfl)]
  have e1 := feed_1 f (⟨65536, b.length, true, b.take i⟩ : HS) V N (UInt8.ofNat (v13 f d n)) (by rw [hto]; exact hv)
  rw [hto, v2] at e1
  rw [MS.all_step _ _ _ _ e1]
  by_cases hbig : low13 f - 1 ≤ n - 3
  · have hm : min (n - 3) (low13 f - 1) = low13 f - 1 := by omega
    have hx : (UInt8.ofNat (n - 3 - (low13 f - 1))).toNat = n - 3 - (low13 f - 1) := by rw [UInt8.toNat_ofNat']; omega
    rw [if_pos hbig, hm, if_pos rfl, List.cons_append, List.nil_append]
    have e2 := feed_2 f (⟨65536, b.length, true, b.take i⟩ : HS) (v13 f d n) (low13 f - 1) (UInt8.ofNat (n - 3 - (low13 f - 1)))
    rw [hx, show low13 f - 1 + (n - 3 - (low13 f - 1)) = n - 3 by omega] at e2
    rw [MS.all_step _ _ _ _ e2]
    have e3 := feed_3 f (⟨65536, b.length, true, b.take i⟩ : HS) (v13 f d n) (n - 3) (UInt8.ofNat ((d - 1) % 256)) _ (by rw [v3, hdm]; exact hcopy)
    rw [MS.all_step _ _ _ _ e3]
    exact ⟨_, _, rfl⟩
  · have hm : min (n - 3) (low13 f - 1) = n - 3 := by omega
    rw [if_neg hbig, hm, if_neg (by omega), List.nil_append]
    have e3 := feed_3 f (⟨65536, b.length, true, b.take i⟩ : HS) (v13 f d n) (n - 3) (UInt8.ofNat ((d - 1) % 256)) _ (by rw [v3, hdm]; exact hcopy)
    rw [MS.all_step _ _ _ _ e3]
    exact ⟨_, _, rfl⟩
end Go.Proofs.Ytmafgamacijdaaa
