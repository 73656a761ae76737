/- Texts put together: BitMath BitWrMath HstMath HstMath2 PmMath DynMath BitBackMath PmBest LimGood -/

/-! Bits of bytes, as numbers: plain lemmas. -/
namespace Go.Proofs.YtokfcgloogdeiaaGreatDoor
set_option linter.unusedVariables false
set_option linter.unusedSimpArgs false

def byteAt (l : List UInt8) (i : Nat) : Nat := (l.getD i 0).toNat
theorem byteAt_lt (l : List UInt8) (i : Nat) : byteAt l i < 256 := (l.getD i 0).toNat_lt
theorem byteAt_ge (l : List UInt8) (i : Nat) (h : l.length ≤ i) : byteAt l i = 0 := by
  unfold byteAt; rw [List.getD_eq_getElem?_getD, List.getElem?_eq_none h]; rfl
def bitAt (l : List UInt8) (i : Nat) : Nat := byteAt l (i / 8) / 2 ^ (i % 8) % 2
theorem bitAt_lt (l : List UInt8) (i : Nat) : bitAt l i < 2 := Nat.mod_lt _ (by decide)
theorem bitAt_ge (l : List UInt8) (i : Nat) (h : 8 * l.length ≤ i) : bitAt l i = 0 := by
  unfold bitAt; rw [byteAt_ge l _ (by omega)]; simp
/-- n bits from a place on, the lowest first -/
def num (l : List UInt8) (p : Nat) : Nat → Nat
  | 0 => 0
  | n + 1 => num l (p + 1) n * 2 + bitAt l p
def dig (l : List UInt8) (i : Nat) : Bool := bitAt l i == 1
theorem num_bit (l : List UInt8) (p n i : Nat) : (num l p n).testBit i = (decide (i < n) && dig l (p + i)) := by
  induction n generalizing p i with
  | zero => simp [num]
  | succ n ih =>
    have hb := bitAt_lt l p
    cases i with
    | zero =>
      have : bitAt l p = 0 ∨ bitAt l p = 1 := by omega
      rw [num, Nat.testBit_zero, show (num l (p + 1) n * 2 + bitAt l p) % 2 = bitAt l p by omega]
      rcases this with h | h <;> simp [dig, h]
    | succ i =>
      rw [num, Nat.testBit_succ, show (num l (p + 1) n * 2 + bitAt l p) / 2 = num l (p + 1) n by omega, ih]
      rw [show p + 1 + i = p + (i + 1) by omega]
      simp
theorem num_lt (l : List UInt8) (p n : Nat) : num l p n < 2 ^ n := by
  induction n generalizing p with
  | zero => simp [num]
  | succ n ih => have := ih (p + 1); have := bitAt_lt l p; rw [num, Nat.pow_succ]; omega
theorem num_add (l : List UInt8) (p a b : Nat) : num l p (a + b) = num l p a + 2 ^ a * num l (p + a) b := by
  induction a generalizing p with
  | zero => simp [num]
  | succ a ih =>
    rw [show a + 1 + b = (a + b) + 1 by omega, num, ih, num, Nat.pow_succ, show p + 1 + a = p + (a + 1) by omega]
    generalize num l (p + (a + 1)) b = q
    rw [Nat.mul_right_comm]; omega
theorem num_end (l : List UInt8) (p n : Nat) (h : 8 * l.length ≤ p) : num l p n = 0 := by
  induction n generalizing p with
  | zero => rfl
  | succ n ih => rw [num, ih (p + 1) (by omega), bitAt_ge l p h]
theorem bits8 (c : Nat) (hc : c < 256) : c = c / 1 % 2 + 2 * (c / 2 % 2) + 4 * (c / 4 % 2) + 8 * (c / 8 % 2) + 16 * (c / 16 % 2) + 32 * (c / 32 % 2) + 64 * (c / 64 % 2) + 128 * (c / 128 % 2) := by omega
theorem bitAt_byte (l : List UInt8) (p k : Nat) (hk : k < 8) : bitAt l (8 * p + k) = byteAt l p / 2 ^ k % 2 := by
  unfold bitAt; rw [show (8 * p + k) / 8 = p by omega, show (8 * p + k) % 8 = k by omega]
theorem num_byte (l : List UInt8) (p : Nat) : num l (8 * p) 8 = byteAt l p := by
  have h := bits8 (byteAt l p) (byteAt_lt l p)
  have h0 := bitAt_byte l p 0 (by omega)
  have h1 := bitAt_byte l p 1 (by omega)
  have h2 := bitAt_byte l p 2 (by omega)
  have h3 := bitAt_byte l p 3 (by omega)
  have h4 := bitAt_byte l p 4 (by omega)
  have h5 := bitAt_byte l p 5 (by omega)
  have h6 := bitAt_byte l p 6 (by omega)
  have h7 := bitAt_byte l p 7 (by omega)
  simp only [num, Nat.add_zero, Nat.add_assoc] at *
  simp only [Nat.reducePow, Nat.reduceAdd] at *
  rw [h0, h1, h2, h3, h4, h5, h6, h7]
  omega
theorem num_bytes (l : List UInt8) (p k : Nat) : num l (8 * p) (8 * (k + 1)) = num l (8 * p) (8 * k) + 2 ^ (8 * k) * byteAt l (p + k) := by
  rw [show 8 * (k + 1) = 8 * k + 8 by omega, num_add, show 8 * p + 8 * k = 8 * (p + k) by omega, num_byte]
/-- what is beyond the end adds nothing -/
theorem num_all (l : List UInt8) (p n m : Nat) (h : 8 * l.length ≤ p + n) (hm : n ≤ m) : num l p m = num l p n := by
  obtain ⟨k, rfl⟩ : ∃ k, m = n + k := ⟨m - n, by omega⟩
  rw [num_add, num_end l (p + n) k h]; simp
theorem num_mod (l : List UInt8) (p a n : Nat) (h : n ≤ a) : num l p a % 2 ^ n = num l p n := by
  obtain ⟨k, rfl⟩ : ∃ k, a = n + k := ⟨a - n, by omega⟩
  rw [num_add, Nat.add_mul_mod_self_left, Nat.mod_eq_of_lt (num_lt l p n)]
theorem num_div (l : List UInt8) (p a n : Nat) (h : n ≤ a) : num l p a / 2 ^ n = num l (p + n) (a - n) := by
  obtain ⟨k, rfl⟩ : ∃ k, a = n + k := ⟨a - n, by omega⟩
  rw [num_add, Nat.add_mul_div_left _ _ (Nat.two_pow_pos n), Nat.div_eq_of_lt (num_lt l p n)]
  simp
theorem num_cut (l : List UInt8) (p a n m : Nat) (h : m + n ≤ a) : num l p a / 2 ^ m % 2 ^ n = num l (p + m) n := by
  rw [num_div l p a m (by omega), num_mod l (p + m) (a - m) n (by omega)]
end Go.Proofs.YtokfcgloogdeiaaGreatDoor
/-! Rows of bits, as lists: plain lemmas. -/
namespace Go.Proofs.YtokfcgloogdeiaaGreatDoor
set_option linter.unusedVariables false
set_option linter.unusedSimpArgs false

/-- the lowest n bits of x, the lowest first -/
def bitsOf (x : Nat) : Nat → List Bool
  | 0 => []
  | n + 1 => (x % 2 == 1) :: bitsOf (x / 2) n
theorem bitsOf_length (x n : Nat) : (bitsOf x n).length = n := by induction n generalizing x <;> simp_all [bitsOf]
theorem bitsOf_add (x a b : Nat) : bitsOf x (a + b) = bitsOf x a ++ bitsOf (x / 2 ^ a) b := by
  induction a generalizing x with
  | zero => simp [bitsOf]
  | succ a ih => rw [show a + 1 + b = (a + b) + 1 by omega, bitsOf, ih, bitsOf, Nat.pow_succ, Nat.mul_comm, ← Nat.div_div_eq_div_mul]; rfl
theorem bitsOf_mod (x a : Nat) : bitsOf (x % 2 ^ a) a = bitsOf x a := by
  induction a generalizing x with
  | zero => rfl
  | succ a ih =>
    rw [bitsOf, bitsOf, Nat.pow_succ, Nat.mul_comm, show x % (2 * 2 ^ a) % 2 = x % 2 by rw [Nat.mod_mul_right_mod], Nat.mod_mul_right_div_self, ih]
theorem bitsOf_shift (a y h m : Nat) (ha : a < 2 ^ h) : bitsOf (a + y * 2 ^ h) (h + m) = bitsOf a h ++ bitsOf y m := by
  rw [bitsOf_add]
  congr 1
  · rw [← bitsOf_mod, Nat.add_mul_mod_self_right, Nat.mod_eq_of_lt ha]
  · rw [Nat.add_mul_div_right _ _ (Nat.two_pow_pos h), Nat.div_eq_of_lt ha, Nat.zero_add]
theorem bitsOf_zero (n : Nat) : bitsOf 0 n = List.replicate n false := by
  induction n with
  | zero => rfl
  | succ n ih => rw [bitsOf, Nat.zero_div, ih]; rfl
theorem bitsOf_pad (x a b : Nat) (h : x < 2 ^ a) : bitsOf x (a + b) = bitsOf x a ++ List.replicate b false := by
  rw [bitsOf_add, Nat.div_eq_of_lt h, bitsOf_zero]
theorem bitsOf_get (x n i : Nat) (h : i < n) : (bitsOf x n)[i]? = some (x.testBit i) := by
  induction n generalizing x i with
  | zero => omega
  | succ n ih =>
    cases i with
    | zero => simp [bitsOf, Nat.testBit_zero]; rcases Nat.mod_two_eq_zero_or_one x with h | h <;> simp [h]
    | succ i => rw [bitsOf, List.getElem?_cons_succ, ih _ _ (by omega), Nat.testBit_succ]
theorem bitsOf_inj (x y n : Nat) (hx : x < 2 ^ n) (hy : y < 2 ^ n) (h : bitsOf x n = bitsOf y n) : x = y := by
  induction n generalizing x y with
  | zero => simp at hx hy; omega
  | succ n ih =>
    simp only [bitsOf, List.cons.injEq] at h
    have h2 := ih (x / 2) (y / 2) (by rw [Nat.pow_succ] at hx; omega) (by rw [Nat.pow_succ] at hy; omega) h.2
    have h1 : x % 2 = y % 2 := by
      have := h.1
      rcases Nat.mod_two_eq_zero_or_one x with h | h <;> rcases Nat.mod_two_eq_zero_or_one y with h' | h' <;> simp_all
    omega

/-- the bits of bytes -/
def toBits : List UInt8 → List Bool
  | [] => []
  | c :: l => bitsOf c.toNat 8 ++ toBits l
theorem toBits_length (l : List UInt8) : (toBits l).length = 8 * l.length := by
  induction l with
  | nil => rfl
  | cons c l ih => simp [toBits, bitsOf_length, ih]; omega
theorem toBits_append (a b : List UInt8) : toBits (a ++ b) = toBits a ++ toBits b := by
  induction a with
  | nil => rfl
  | cons c l ih => simp [toBits, ih]
theorem toBits_inj (a b : List UInt8) (h : toBits a = toBits b) : a = b := by
  have hl : a.length = b.length := by have := congrArg List.length h; rw [toBits_length, toBits_length] at this; omega
  induction a generalizing b with
  | nil => cases b <;> simp_all
  | cons c a ih =>
    cases b with
    | nil => simp at hl
    | cons d b =>
      simp only [toBits] at h
      have := List.append_inj h (by rw [bitsOf_length, bitsOf_length])
      have h1 := bitsOf_inj _ _ 8 c.toNat_lt d.toNat_lt this.1
      rw [UInt8.toNat_inj.1 h1, ih b this.2 (by simpa using hl)]
/-- up to a byte's end -/
def pad8 (bs : List Bool) : List Bool := bs ++ List.replicate ((8 - bs.length % 8) % 8) false
theorem toBits_snoc (l : List UInt8) (r h : Nat) (hr : r < 2 ^ h) (h8 : h < 8) (h0 : 0 < h) : toBits (l ++ [UInt8.ofNat r]) = pad8 (toBits l ++ bitsOf r h) := by
  have e : (UInt8.ofNat r).toNat = r := by
    have : r < 256 := Nat.lt_of_lt_of_le hr (Nat.pow_le_pow_right (n := 2) (j := 8) (by decide) (by omega))
    simp [UInt8.toNat_ofNat']; omega
  have hp := bitsOf_pad r h (8 - h) hr
  rw [show h + (8 - h) = 8 by omega] at hp
  rw [toBits_append, pad8]
  simp only [toBits, e, List.append_nil, List.append_assoc, hp, List.length_append, toBits_length, bitsOf_length]
  rw [show (8 - (8 * l.length + h) % 8) % 8 = 8 - h by omega]
theorem pad8_whole (l : List UInt8) : pad8 (toBits l) = toBits l := by
  unfold pad8; rw [toBits_length, show (8 - 8 * l.length % 8) % 8 = 0 by omega]; simp
/-- m bits from a place on as a number; noughts behind the end -/
def nb (bs : List Bool) (p : Nat) : Nat := if bs.getD p false then 1 else 0
def nv (bs : List Bool) (p : Nat) : Nat → Nat
  | 0 => 0
  | m + 1 => nv bs (p + 1) m * 2 + nb bs p
theorem nb_lt (bs : List Bool) (p : Nat) : nb bs p < 2 := by unfold nb; split <;> omega
theorem nv_lt (bs : List Bool) (p m : Nat) : nv bs p m < 2 ^ m := by
  induction m generalizing p with
  | zero => simp [nv]
  | succ m ih => have := ih (p + 1); have := nb_lt bs p; rw [nv, Nat.pow_succ]; omega
theorem nv_bits (bs : List Bool) (p m : Nat) : bitsOf (nv bs p m) m = (List.range m).map fun i => bs.getD (p + i) false := by
  induction m generalizing p with
  | zero => rfl
  | succ m ih =>
    have h := nb_lt bs p
    rw [nv, bitsOf, show (nv bs (p + 1) m * 2 + nb bs p) % 2 = nb bs p by omega, show (nv bs (p + 1) m * 2 + nb bs p) / 2 = nv bs (p + 1) m by omega, ih, List.range_succ_eq_map]
    simp only [List.map_cons, List.map_map, Nat.add_zero]
    congr 1
    · unfold nb; cases bs.getD p false <;> rfl
    · apply List.map_congr_left
      intro i _
      simp only [Function.comp]
      congr 1; omega
theorem pad8_length (bs : List Bool) : (pad8 bs).length = (bs.length + 7) / 8 * 8 := by simp [pad8]; omega
theorem pad8_get (bs : List Bool) (i : Nat) (h : i < (pad8 bs).length) : (pad8 bs)[i]? = some (bs.getD i false) := by
  rw [pad8_length] at h
  unfold pad8
  by_cases hi : i < bs.length
  · rw [List.getElem?_append_left hi, List.getD_eq_getElem?_getD, List.getElem?_eq_getElem hi]; rfl
  · rw [List.getElem?_append_right (by omega), List.getElem?_replicate, if_pos (by omega), List.getD_eq_getElem?_getD, List.getElem?_eq_none (by omega)]; rfl
theorem pad8_seg (bs : List Bool) (j : Nat) (h : 8 * j < bs.length) : (pad8 bs).take (8 * (j + 1)) = (pad8 bs).take (8 * j) ++ bitsOf (nv bs (8 * j) 8) 8 := by
  have hl := pad8_length bs
  rw [show 8 * (j + 1) = 8 * j + 8 by omega, List.take_add]
  congr 1
  rw [nv_bits]
  apply List.ext_getElem?
  intro i
  by_cases hi : i < 8
  · rw [List.getElem?_take_of_lt hi, List.getElem?_drop, pad8_get _ _ (by omega)]
    simp [hi]
  · rw [List.getElem?_eq_none (by simp; omega), List.getElem?_eq_none (by simp; omega)]
theorem toBits_one (x : Nat) (h : x < 256) : toBits [UInt8.ofNat x] = bitsOf x 8 := by
  simp only [toBits, List.append_nil]
  congr 1
  simp [UInt8.toNat_ofNat']; omega
end Go.Proofs.YtokfcgloogdeiaaGreatDoor
/- Numbers of layer 7: bytes told out of those that were told. -/
namespace Go.Proofs.YtokfcgloogdeiaaGreatDoor
set_option linter.unusedVariables false
set_option linter.unusedSimpArgs false

/-- the byte that stands d back -/
def back1 (b : List UInt8) (d : Nat) : UInt8 := if d ≤ b.length then b.getD (b.length - d) 0 else 0
/-- n bytes more, one by one, each the byte that stands d back then -/
def cpy (b : List UInt8) (d : Nat) : Nat → List UInt8
  | 0 => b
  | n + 1 => cpy b d n ++ [back1 (cpy b d n) d]
theorem cpy_len (b : List UInt8) (d n : Nat) : (cpy b d n).length = b.length + n := by
  induction n with
  | zero => rfl
  | succ n ih => rw [cpy, List.length_append, ih]; rfl
theorem cpy_add (b : List UInt8) (d n m : Nat) : cpy b d (n + m) = cpy (cpy b d n) d m := by
  induction m with
  | zero => rfl
  | succ m ih => rw [← Nat.add_assoc, cpy, ih, cpy]
theorem cpy_pre (b : List UInt8) (d n i : Nat) (h : i < b.length) : (cpy b d n)[i]? = b[i]? := by
  induction n with
  | zero => rfl
  | succ n ih => rw [cpy, List.getElem?_append_left (by rw [cpy_len]; omega), ih]
theorem cpy_take (b : List UInt8) (d n : Nat) : (cpy b d n).take b.length = b := by
  induction n with
  | zero => exact List.take_length
  | succ n ih => rw [cpy, List.take_append_of_le_length (by rw [cpy_len]; omega), ih]
theorem back1_get (b : List UInt8) (d : Nat) (h1 : 1 ≤ d) (h2 : d ≤ b.length) : b[b.length - d]? = some (back1 b d) := by
  unfold back1
  rw [if_pos h2, List.getD_eq_getElem?_getD, List.getElem?_eq_getElem (by omega)]; rfl
/-- a copy is a distance over and over -/
theorem cpy_over (b : List UInt8) (d n i : Nat) (h1 : 1 ≤ d) (h2 : d ≤ b.length) (hi : i < n) : (cpy b d n)[b.length + i]? = b[b.length - d + i % d]? := by
  induction n generalizing i with
  | zero => omega
  | succ n ih =>
    rw [cpy]
    by_cases e : i < n
    · rw [List.getElem?_append_left (by rw [cpy_len]; omega), ih i e]
    · obtain rfl : i = n := by omega
      rw [List.getElem?_append_right (by rw [cpy_len]; omega), cpy_len, Nat.sub_self]
      show some (back1 (cpy b d i) d) = _
      rw [← back1_get (cpy b d i) d h1 (by rw [cpy_len]; omega), cpy_len]
      by_cases hd : d ≤ i
      · rw [show b.length + i - d = b.length + (i - d) by omega, ih (i - d) (by omega)]
        congr 2
        exact (Nat.mod_eq_sub_mod hd).symm
      · rw [Nat.mod_eq_of_lt (by omega), show b.length + i - d = b.length - d + i by omega]
        exact cpy_pre b d i _ (by omega)
/-- an output: its window, how many bytes it may have, whether noughts stand ahead, its bytes -/
structure HS where
  win : Nat
  most : Nat
  nou : Bool
  b : List UInt8
def HS.lit (s : HS) (c : UInt8) : Nat × HS := if s.most ≤ s.b.length then (9, s) else (0, { s with b := s.b ++ [c] })
def HS.copy (s : HS) (d n : Int) : Nat × HS :=
  if d < 1 ∨ n < 0 then (2, s)
  else if (s.win : Int) < d ∨ ((s.b.length : Int) < d ∧ s.nou = false) then (8, s)
  else if (s.most : Int) - s.b.length < n then (9, s)
  else (0, { s with b := cpy s.b d.toNat n.toNat })
theorem HS.lit_len (s : HS) (c : UInt8) (h : s.b.length ≤ s.most) : (s.lit c).2.b.length ≤ s.most ∧ (s.lit c).2.win = s.win ∧ (s.lit c).2.most = s.most ∧ (s.lit c).2.nou = s.nou ∧ (s.lit c).2.b.length ≤ s.b.length + 1 ∧ (s.lit c).2.b.take s.b.length = s.b := by
  unfold HS.lit
  by_cases e : s.most ≤ s.b.length
  · rw [if_pos e]; exact ⟨h, rfl, rfl, rfl, by dsimp only; omega, List.take_length⟩
  · rw [if_neg e]; exact ⟨by simp; omega, rfl, rfl, rfl, by simp, by simp⟩
theorem HS.copy_len (s : HS) (d n : Int) (h : s.b.length ≤ s.most) : (s.copy d n).2.b.length ≤ s.most ∧ (s.copy d n).2.win = s.win ∧ (s.copy d n).2.most = s.most ∧ (s.copy d n).2.nou = s.nou ∧ ((s.copy d n).2.b.length : Int) ≤ s.b.length + max 0 n ∧ (s.copy d n).2.b.take s.b.length = s.b := by
  unfold HS.copy
  by_cases e1 : d < 1 ∨ n < 0
  · rw [if_pos e1]; exact ⟨h, rfl, rfl, rfl, by dsimp only; omega, List.take_length⟩
  rw [if_neg e1]
  by_cases e2 : (s.win : Int) < d ∨ ((s.b.length : Int) < d ∧ s.nou = false)
  · rw [if_pos e2]; exact ⟨h, rfl, rfl, rfl, by dsimp only; omega, List.take_length⟩
  rw [if_neg e2]
  by_cases e3 : (s.most : Int) - s.b.length < n
  · rw [if_pos e3]; exact ⟨h, rfl, rfl, rfl, by dsimp only; omega, List.take_length⟩
  rw [if_neg e3]
  refine ⟨by simp only [cpy_len]; omega, rfl, rfl, rfl, by simp only [cpy_len]; omega, cpy_take _ _ _⟩
end Go.Proofs.YtokfcgloogdeiaaGreatDoor
namespace Go.Proofs.YtokfcgloogdeiaaGreatDoor
set_option linter.unusedVariables false
set_option linter.unusedSimpArgs false

/-- what a copy has told so far, from its place on, is what it tells next -/
theorem cpy_piece (b : List UInt8) (d m j : Nat) (h1 : 1 ≤ d) (h2 : d ≤ b.length) (hm : m % d = 0) (hj : j ≤ m + d) : cpy b d (m + j) = cpy b d m ++ ((cpy b d m).drop (b.length - d)).take j := by
  apply List.ext_getElem?
  intro i
  by_cases hi : i < b.length + m
  · rw [cpy_add, cpy_pre _ _ _ _ (by rw [cpy_len]; exact hi), List.getElem?_append_left (by rw [cpy_len]; exact hi)]
  · by_cases hi2 : i < b.length + m + j
    · obtain ⟨k, rfl⟩ : ∃ k, i = b.length + (m + k) := ⟨i - b.length - m, by omega⟩
      rw [cpy_over b d (m + j) (m + k) h1 h2 (by omega), List.getElem?_append_right (by rw [cpy_len]; omega), cpy_len, show b.length + (m + k) - (b.length + m) = k by omega, List.getElem?_take, if_pos (by omega), List.getElem?_drop]
      have e : (m + k) % d = k % d := by rw [Nat.add_mod, hm, Nat.zero_add, Nat.mod_mod]
      rw [e]
      by_cases hk : k < d
      · rw [Nat.mod_eq_of_lt hk, cpy_pre b d m _ (by omega)]
      · rw [show b.length - d + k = b.length + (k - d) by omega, cpy_over b d m (k - d) h1 h2 (by omega)]
        congr 2
        exact Nat.mod_eq_sub_mod (by omega)
    · rw [List.getElem?_eq_none (by rw [cpy_len]; omega), List.getElem?_eq_none]
      rw [List.length_append, cpy_len, List.length_take, List.length_drop, cpy_len]; omega
theorem cpy_zeros (b : List UInt8) (d n : Nat) (h : b.length + n ≤ d) : cpy b d n = b ++ List.replicate n 0 := by
  induction n with
  | zero => simp [cpy]
  | succ n ih =>
    rw [cpy, ih (by omega)]
    unfold back1
    rw [if_neg (by rw [List.length_append, List.length_replicate]; omega), List.append_assoc, ← List.replicate_succ']
theorem cpy_none (b : List UInt8) (d : Nat) : cpy b d 0 = b := rfl
end Go.Proofs.YtokfcgloogdeiaaGreatDoor
/- Package-merge, as numbers: what the least cost of words of bounded length is, and which lengths have it. -/
namespace Go.Proofs.YtokfcgloogdeiaaGreatDoor
set_option linter.unusedVariables false
set_option linter.unusedSimpArgs false

/-- f 0 + .. + f (n-1) -/
def sm (f : Nat → Nat) : Nat → Nat
  | 0 => 0
  | n + 1 => sm f n + f n
theorem sm_mono (f : Nat → Nat) (a b : Nat) (h : a ≤ b) : sm f a ≤ sm f b := by
  induction b with
  | zero => obtain rfl : a = 0 := by omega
            exact Nat.le_refl _
  | succ b ih =>
    by_cases e : a = b + 1
    · subst e; exact Nat.le_refl _
    · have := ih (by omega); rw [sm]; omega
theorem sm_congr (f g : Nat → Nat) (n : Nat) (h : ∀ t, t < n → f t = g t) : sm f n = sm g n := by
  induction n with
  | zero => rfl
  | succ n ih => rw [sm, sm, ih (fun t ht => h t (by omega)), h n (by omega)]
theorem sm_add (f g : Nat → Nat) (n : Nat) : sm (fun t => f t + g t) n = sm f n + sm g n := by
  induction n with
  | zero => rfl
  | succ n ih => simp only [sm, ih]; omega
theorem sm_le (f g : Nat → Nat) (n : Nat) (h : ∀ t, t < n → f t ≤ g t) : sm f n ≤ sm g n := by
  induction n with
  | zero => exact Nat.le_refl _
  | succ n ih => have := ih (fun t ht => h t (by omega)); have := h n (by omega); simp only [sm]; omega
theorem sm_const (c n : Nat) : sm (fun _ => c) n = c * n := by
  induction n with
  | zero => rfl
  | succ n ih => rw [sm, ih, Nat.mul_succ]
theorem sm_zero (n : Nat) : sm (fun _ => 0) n = 0 := by rw [sm_const]; simp
theorem sm_mul (c : Nat) (f : Nat → Nat) (n : Nat) : sm (fun t => c * f t) n = c * sm f n := by
  induction n with
  | zero => rfl
  | succ n ih => rw [sm, sm, ih, Nat.mul_add]
theorem sm_swap (f : Nat → Nat → Nat) (n m : Nat) : sm (fun i => sm (fun j => f i j) m) n = sm (fun j => sm (fun i => f i j) n) m := by
  induction n with
  | zero => simp only [sm]; rw [sm_zero]
  | succ n ih => simp only [sm]; rw [ih, ← sm_add]
/-- how many t below n have q -/
def ct (q : Nat → Bool) (n : Nat) : Nat := sm (fun t => if q t then 1 else 0) n
theorem ct_succ (q : Nat → Bool) (n : Nat) : ct q (n + 1) = ct q n + if q n then 1 else 0 := rfl
theorem ct_le (q : Nat → Bool) (n : Nat) : ct q n ≤ n := by
  induction n with
  | zero => exact Nat.le_refl _
  | succ n ih => rw [ct_succ]; split <;> omega
/-- ascending -/
def Asc (a : Nat → Nat) (n : Nat) : Prop := ∀ i j, i ≤ j → j < n → a i ≤ a j
/-- any u of them cost at least as much as the u least -/
theorem least_sum (a : Nat → Nat) (n : Nat) (ha : Asc a n) (q : Nat → Bool) : sm a (ct q n) ≤ sm (fun t => if q t then a t else 0) n := by
  induction n with
  | zero => exact Nat.le_refl _
  | succ n ih =>
    have := ih (fun i j h1 h2 => ha i j h1 (by omega))
    rw [ct_succ, sm]
    by_cases h : q n
    · rw [if_pos h, if_pos h, sm]
      have := ha (ct q n) n (ct_le q n) (by omega)
      omega
    · rw [if_neg h, if_neg h]; exact this
/-- W is a and P, merged: c k of its first k are out of a -/
structure Mrg (a : Nat → Nat) (n : Nat) (P : Nat → Nat) (np : Nat) (W c : Nat → Nat) (tot : Nat) : Prop where
  zero : c 0 = 0
  step : ∀ k, k < tot → (c (k + 1) = c k + 1 ∧ c k < n ∧ W k = a (c k) ∧ (k - c k < np → a (c k) ≤ P (k - c k))) ∨
    (c (k + 1) = c k ∧ k - c k < np ∧ W k = P (k - c k) ∧ (c k < n → P (k - c k) ≤ a (c k)))
section
variable {a P W c : Nat → Nat} {n np tot : Nat}
theorem Mrg.bd (h : Mrg a n P np W c tot) (k : Nat) (hk : k ≤ tot) : c k ≤ k ∧ c k ≤ n ∧ k - c k ≤ np := by
  induction k with
  | zero => have := h.zero; omega
  | succ k ih =>
    have h1 := ih (by omega)
    rcases h.step k (by omega) with ⟨e, b, _, _⟩ | ⟨e, b, _, _⟩ <;> omega
/-- what has been taken is no more than what comes next -/
theorem Mrg.ord (h : Mrg a n P np W c tot) (ha : Asc a n) (hP : Asc P np) (k : Nat) (hk : k ≤ tot) :
    (∀ t, t < k - c k → c k < n → P t ≤ a (c k)) ∧ (∀ t, t < c k → k - c k < np → a t ≤ P (k - c k)) := by
  induction k with
  | zero => have := h.zero; exact ⟨fun t ht => by omega, fun t ht => by omega⟩
  | succ k ih =>
    obtain ⟨h1, h2⟩ := ih (by omega)
    have hb := h.bd k (by omega)
    rcases h.step k (by omega) with ⟨e, b, w, o⟩ | ⟨e, b, w, o⟩
    · rw [e, show k + 1 - (c k + 1) = k - c k by omega]
      refine ⟨fun t ht hn => Nat.le_trans (h1 t ht b) (ha _ _ (by omega) hn), fun t ht hn => ?_⟩
      by_cases e2 : t = c k
      · subst e2; exact o hn
      · exact h2 t (by omega) hn
    · rw [e, show k + 1 - c k = k - c k + 1 by omega]
      refine ⟨fun t ht hn => ?_, fun t ht hn => Nat.le_trans (h2 t ht b) (hP _ _ (by omega) hn)⟩
      by_cases e2 : t = k - c k
      · subst e2; exact o hn
      · exact h1 t (by omega) hn
theorem Mrg.asc1 (h : Mrg a n P np W c tot) (ha : Asc a n) (hP : Asc P np) (k : Nat) (hk : k + 1 < tot) : W k ≤ W (k + 1) := by
  have hb := h.bd k (by omega)
  rcases h.step k (by omega) with ⟨e, b, w, o⟩ | ⟨e, b, w, o⟩ <;> rcases h.step (k + 1) hk with ⟨e', b', w', o'⟩ | ⟨e', b', w', o'⟩
  · rw [w, w', e]; exact ha _ _ (by omega) (by omega)
  · rw [w, w', e, show k + 1 - (c k + 1) = k - c k by omega]; rw [e, show k + 1 - (c k + 1) = k - c k by omega] at b'; exact o b'
  · rw [w, w', e]; rw [e] at b'; exact o b'
  · rw [w, w', e]; rw [e] at b'; exact hP _ _ (by omega) b'
theorem asc_of_step (f : Nat → Nat) (m : Nat) (h : ∀ k, k + 1 < m → f k ≤ f (k + 1)) : Asc f m := by
  intro i j hij hj
  induction j with
  | zero => obtain rfl : i = 0 := by omega
            exact Nat.le_refl _
  | succ j ih =>
    by_cases e : i = j + 1
    · subst e; exact Nat.le_refl _
    · exact Nat.le_trans (ih (by omega) (by omega)) (h j hj)
theorem Mrg.asc (h : Mrg a n P np W c tot) (ha : Asc a n) (hP : Asc P np) : Asc W tot := asc_of_step _ _ (h.asc1 ha hP)
theorem Mrg.split (h : Mrg a n P np W c tot) (k : Nat) (hk : k ≤ tot) : sm W k = sm a (c k) + sm P (k - c k) := by
  induction k with
  | zero => rw [h.zero]; rfl
  | succ k ih =>
    have hb := h.bd k (by omega)
    rw [sm, ih (by omega)]
    rcases h.step k (by omega) with ⟨e, b, w, o⟩ | ⟨e, b, w, o⟩
    · rw [e, show k + 1 - (c k + 1) = k - c k by omega, sm, w]; omega
    · rw [e, show k + 1 - c k = k - c k + 1 by omega, sm, w]; omega
theorem sm_run_ge (f : Nat → Nat) (x i : Nat) : ∀ d, (∀ t, i ≤ t → t < i + d → x ≤ f t) → sm f i + x * d ≤ sm f (i + d) := by
  intro d
  induction d with
  | zero => intro _; simp
  | succ d ih =>
    intro h
    have := ih (fun t h1 h2 => h t h1 (by omega))
    have := h (i + d) (by omega) (by omega)
    rw [show i + (d + 1) = (i + d) + 1 by omega, sm, Nat.mul_succ]; omega
theorem sm_run_le (f : Nat → Nat) (x i : Nat) : ∀ d, (∀ t, i ≤ t → t < i + d → f t ≤ x) → sm f (i + d) ≤ sm f i + x * d := by
  intro d
  induction d with
  | zero => intro _; simp
  | succ d ih =>
    intro h
    have := ih (fun t h1 h2 => h t h1 (by omega))
    have := h (i + d) (by omega) (by omega)
    rw [show i + (d + 1) = (i + d) + 1 by omega, sm, Nat.mul_succ]; omega
/-- the first k of the merged row are the least that m of the one and p of the other cost -/
theorem Mrg.least (h : Mrg a n P np W c tot) (ha : Asc a n) (hP : Asc P np) (m p : Nat) (hm : m ≤ n) (hp : p ≤ np) (hk : m + p ≤ tot) : sm W (m + p) ≤ sm a m + sm P p := by
  have hb := h.bd (m + p) hk
  obtain ⟨o1, o2⟩ := h.ord ha hP (m + p) hk
  rw [h.split (m + p) hk]
  rcases Nat.lt_trichotomy m (c (m + p)) with hlt | heq | hgt
  · obtain ⟨d, hd⟩ : ∃ d, c (m + p) = m + d := ⟨c (m + p) - m, by omega⟩
    obtain ⟨e, he⟩ : ∃ e, p = (m + p - c (m + p)) + e := ⟨c (m + p) - m, by omega⟩
    have hde : d = e := by omega
    subst hde
    generalize m + p - c (m + p) = q at *
    generalize c (m + p) = cc at *
    subst hd
    have h1 := sm_run_le a (P q) m d (fun t h1 h2 => o2 t h2 (by omega))
    have h2 := sm_run_ge P (P q) q d (fun t h1 h2 => hP _ _ h1 (by omega))
    rw [← he] at h2
    omega
  · rw [← heq, show m + p - m = p by omega]; exact Nat.le_refl _
  · obtain ⟨d, hd⟩ : ∃ d, m = c (m + p) + d := ⟨m - c (m + p), by omega⟩
    obtain ⟨e, he⟩ : ∃ e, m + p - c (m + p) = p + e := ⟨m - c (m + p), by omega⟩
    have hde : d = e := by omega
    subst hde
    rw [he]
    rw [he] at o1
    generalize c (m + p) = cc at *
    subst hd
    have h1 := sm_run_ge a (a cc) cc d (fun t h1 h2 => ha _ _ h1 (by omega))
    have h2 := sm_run_le P (a cc) p d (fun t h1 h2 => o1 t h2 (by omega))
    omega
end
/-- the rows of L levels, the deepest first: each is a merged with the pairs of the one ahead -/
structure Lvs (a : Nat → Nat) (n L : Nat) (W c : Nat → Nat → Nat) (tot : Nat → Nat) : Prop where
  asc : Asc a n
  pos : ∀ r, r < n → 0 < a r
  tot0 : tot 0 = 0
  tots : ∀ j, j < L → tot (j + 1) = n + tot j / 2
  mrg : ∀ j, j < L → Mrg a n (fun t => W j (2 * t) + W j (2 * t + 1)) (tot j / 2) (W (j + 1)) (c (j + 1)) (tot (j + 1))
theorem sm_pairs (W : Nat → Nat) (p : Nat) : sm (fun t => W (2 * t) + W (2 * t + 1)) p = sm W (2 * p) := by
  induction p with
  | zero => rfl
  | succ p ih => rw [sm, ih, show 2 * (p + 1) = 2 * p + 1 + 1 by omega, sm, sm]; omega
theorem asc_pairs (W : Nat → Nat) (m : Nat) (h : Asc W m) : Asc (fun t => W (2 * t) + W (2 * t + 1)) (m / 2) := by
  intro i j hij hj
  exact Nat.add_le_add (h _ _ (by omega) (by omega)) (h _ _ (by omega) (by omega))
section
variable {a K : Nat → Nat} {n L : Nat} {W c : Nat → Nat → Nat} {tot : Nat → Nat}
theorem Lvs.ascW (h : Lvs a n L W c tot) (j : Nat) (hj : j ≤ L) : Asc (W j) (tot j) := by
  induction j with
  | zero => rw [h.tot0]; intro i j _ h2; omega
  | succ j ih => exact (h.mrg j (by omega)).asc h.asc (asc_pairs _ _ (ih (by omega)))
theorem Lvs.posW (h : Lvs a n L W c tot) (j : Nat) (hj : j ≤ L) : ∀ k, k < tot j → 0 < W j k := by
  induction j with
  | zero => rw [h.tot0]; intro k h2; omega
  | succ j ih =>
    intro k hk
    rcases (h.mrg j (by omega)).step k hk with ⟨_, b, w, _⟩ | ⟨_, b, w, _⟩
    · rw [w]; exact h.pos _ b
    · rw [w]; have := ih (by omega) (2 * (k - c (j + 1) k)) (by omega); omega
theorem Lvs.enough (h : Lvs a n L W c tot) (j : Nat) (hj : j ≤ L) : ∀ r, n ≤ 2 ^ j * r → 2 * n ≤ tot j + 2 * r := by
  induction j with
  | zero => intro r hr; rw [h.tot0]; simp at hr; omega
  | succ j ih =>
    intro r hr
    have := ih (by omega) (2 * r) (by rw [← Nat.mul_assoc, ← Nat.pow_succ]; exact hr)
    rw [h.tots j (by omega)]; omega
/-- how many are taken of each level, where u j leaves are taken of level j -/
def tk (u : Nat → Nat) : Nat → Nat
  | 0 => 0
  | j + 1 => u (j + 1) + tk u j / 2
theorem Lvs.tk_le (h : Lvs a n L W c tot) (u : Nat → Nat) (hu : ∀ j, u j ≤ n) (j : Nat) (hj : j ≤ L) : tk u j ≤ tot j := by
  induction j with
  | zero => exact Nat.zero_le _
  | succ j ih => have := ih (by omega); have := hu (j + 1); rw [tk, h.tots j (by omega)]; omega
theorem Lvs.tk_cost (h : Lvs a n L W c tot) (u : Nat → Nat) (hu : ∀ j, u j ≤ n) (j : Nat) (hj : j ≤ L) : sm (W j) (tk u j) ≤ sm (fun i => sm a (u (i + 1))) j := by
  induction j with
  | zero => exact Nat.le_refl _
  | succ j ih =>
    have h1 := ih (by omega)
    have h2 := h.tk_le u hu j (by omega)
    have h3 := (h.mrg j (by omega)).least h.asc (asc_pairs _ _ (h.ascW j (by omega))) (u (j + 1)) (tk u j / 2) (hu _) (by omega) (by rw [h.tots j (by omega)]; have := hu (j + 1); omega)
    rw [sm_pairs] at h3
    have h4 := sm_mono (W j) (2 * (tk u j / 2)) (tk u j) (by omega)
    rw [tk, sm]; omega
theorem tk_wide (u : Nat → Nat) (j : Nat) : 2 * sm (fun i => u (i + 1) * 2 ^ i) j < 2 ^ j * (tk u j + 1) := by
  induction j with
  | zero => simp [sm]
  | succ j ih =>
    rw [sm, tk, Nat.pow_succ]
    have h1 : 2 ^ j * (tk u j + 1) ≤ 2 ^ j * (2 * (tk u j / 2) + 2) := Nat.mul_le_mul_left _ (by omega)
    have e1 : 2 ^ j * 2 * (u (j + 1) + tk u j / 2 + 1) = 2 * (u (j + 1) * 2 ^ j) + 2 ^ j * (2 * (tk u j / 2) + 2) := by
      rw [show u (j + 1) + tk u j / 2 + 1 = u (j + 1) + (tk u j / 2 + 1) by omega, Nat.mul_add, show 2 * (tk u j / 2) + 2 = 2 * (tk u j / 2 + 1) by omega, Nat.mul_assoc, Nat.mul_assoc, Nat.mul_left_comm (2 ^ j) 2, Nat.mul_comm (2 ^ j) (u (j + 1)), Nat.mul_left_comm (2 ^ j) 2]
    omega
/-- nothing wide enough costs less than the first of the last level -/
theorem Lvs.lower (h : Lvs a n L W c tot) (u : Nat → Nat) (hu : ∀ j, u j ≤ n) (hn : 1 ≤ n) (hw : 2 ^ L * (n - 1) ≤ sm (fun i => u (i + 1) * 2 ^ i) L) : sm (W L) (2 * n - 2) ≤ sm (fun i => sm a (u (i + 1))) L := by
  have h1 := tk_wide u L
  have h2 : 2 ^ L * (2 * n - 2) < 2 ^ L * (tk u L + 1) := by
    have e : 2 ^ L * (2 * n - 2) = 2 * (2 ^ L * (n - 1)) := by rw [show 2 * n - 2 = 2 * (n - 1) by omega, Nat.mul_left_comm]
    omega
  have h3 := Nat.lt_of_mul_lt_mul_left h2
  exact Nat.le_trans (sm_mono _ _ _ (by omega)) (h.tk_cost u hu L (Nat.le_refl _))
/-- what is taken: of the last level 2n - 2, of each level beneath the pairs' halves -/
structure Pck (n L : Nat) (c : Nat → Nat → Nat) (K : Nat → Nat) : Prop where
  top : K L = 2 * n - 2
  down : ∀ j, j < L → K j = 2 * (K (j + 1) - c (j + 1) (K (j + 1)))
theorem Pck.le (p : Pck n L c K) (h : Lvs a n L W c tot) (hn : n ≤ 2 ^ L) : ∀ i j, i + j = L → K j ≤ tot j := by
  intro i
  induction i with
  | zero =>
    intro j hj
    obtain rfl : j = L := by omega
    have := h.enough j (Nat.le_refl _) 1 (by omega)
    rw [p.top]; omega
  | succ i ih =>
    intro j hj
    have h1 := ih (j + 1) (by omega)
    have h2 := (h.mrg j (by omega)).bd (K (j + 1)) h1
    rw [p.down j (by omega)]; omega
theorem Pck.le' (p : Pck n L c K) (h : Lvs a n L W c tot) (hn : n ≤ 2 ^ L) (j : Nat) (hj : j ≤ L) : K j ≤ tot j := p.le h hn (L - j) j (by omega)
theorem Pck.vn (p : Pck n L c K) (h : Lvs a n L W c tot) (hn : n ≤ 2 ^ L) (j : Nat) (hj : j < L) : c (j + 1) (K (j + 1)) ≤ n ∧ c (j + 1) (K (j + 1)) ≤ K (j + 1) := by
  have := (h.mrg j hj).bd (K (j + 1)) (p.le' h hn (j + 1) (by omega)); omega
theorem Pck.cost (p : Pck n L c K) (h : Lvs a n L W c tot) (hn : n ≤ 2 ^ L) (j : Nat) (hj : j ≤ L) : sm (W j) (K j) = sm (fun i => sm a (c (i + 1) (K (i + 1)))) j := by
  induction j with
  | zero =>
    have := p.le' h hn 0 (by omega)
    rw [h.tot0] at this
    rw [show K 0 = 0 by omega]; rfl
  | succ j ih =>
    rw [(h.mrg j (by omega)).split _ (p.le' h hn (j + 1) hj), sm_pairs, ← p.down j (by omega), ih (by omega), sm]
    omega
theorem Pck.wide (p : Pck n L c K) (h : Lvs a n L W c tot) (hn : n ≤ 2 ^ L) (j : Nat) (hj : j ≤ L) : 2 * sm (fun i => c (i + 1) (K (i + 1)) * 2 ^ i) j = 2 ^ j * K j := by
  induction j with
  | zero =>
    have := p.le' h hn 0 (by omega)
    rw [h.tot0] at this
    rw [show K 0 = 0 by omega]; rfl
  | succ j ih =>
    have h1 := (p.vn h hn j (by omega)).2
    have h2 := p.down j (by omega)
    rw [sm, Nat.mul_add, ih (by omega), h2, Nat.pow_succ]
    generalize c (j + 1) (K (j + 1)) = v at *
    obtain ⟨d, hd⟩ : ∃ d, K (j + 1) = v + d := ⟨K (j + 1) - v, by omega⟩
    rw [hd, Nat.add_sub_cancel_left, Nat.mul_add, Nat.mul_assoc, Nat.mul_assoc, Nat.mul_comm v (2 ^ j), Nat.mul_left_comm 2 (2 ^ j) v, Nat.add_comm]
theorem Mrg.last_ge {P W c : Nat → Nat} {np tot : Nat} (h : Mrg a n P np W c tot) (ha : Asc a n) (hP : Asc P np) (k t : Nat) (hk : k + 1 ≤ tot) (ht : t < c (k + 1)) : a t ≤ W k := by
  obtain ⟨o1, o2⟩ := h.ord ha hP k (by omega)
  rcases h.step k (by omega) with ⟨e, b, w, _⟩ | ⟨e, b, w, _⟩
  · rw [w]; exact ha _ _ (by omega) b
  · rw [w]; exact o2 t (by omega) b
/-- a level has no more leaves taken than the one behind it -/
theorem Pck.mono1 (p : Pck n L c K) (h : Lvs a n L W c tot) (hn : n ≤ 2 ^ L) (j : Nat) (hj : j + 1 < L) : c (j + 1) (K (j + 1)) ≤ c (j + 2) (K (j + 2)) := by
  rcases Nat.lt_or_ge (c (j + 2) (K (j + 2))) (c (j + 1) (K (j + 1))) with hlt | hge
  · exfalso
    have m1 := h.mrg j (by omega)
    have m2 : Mrg a n (fun t => W (j + 1) (2 * t) + W (j + 1) (2 * t + 1)) (tot (j + 1) / 2) (W (j + 2)) (c (j + 2)) (tot (j + 2)) := h.mrg (j + 1) hj
    have l1 := p.le' h hn (j + 1) (by omega)
    have l2 := p.le' h hn (j + 2) (by omega)
    have v1 := p.vn h hn j (by omega)
    have d : K (j + 1) = 2 * (K (j + 2) - c (j + 2) (K (j + 2))) := p.down (j + 1) hj
    have b2 := m2.bd _ l2
    have aP := asc_pairs _ _ (h.ascW (j + 1) (by omega))
    have o := (m2.ord h.asc aP (K (j + 2)) l2).1
    generalize c (j + 2) (K (j + 2)) = v at *
    obtain ⟨q, hq⟩ : ∃ q, K (j + 2) - v = q + 1 := ⟨K (j + 2) - v - 1, by omega⟩
    have h3 := o q (by omega) (by omega)
    rw [hq] at d
    have h4 := m1.last_ge h.asc (asc_pairs _ _ (h.ascW j (by omega))) (2 * q + 1) v (by omega) (by rw [show 2 * q + 1 + 1 = K (j + 1) by omega]; exact hlt)
    have h5 := h.posW (j + 1) (by omega) (2 * q) (by omega)
    omega
  · exact hge
theorem Pck.mono (p : Pck n L c K) (h : Lvs a n L W c tot) (hn : n ≤ 2 ^ L) (i j : Nat) (hij : i ≤ j) (hj : j < L) : c (i + 1) (K (i + 1)) ≤ c (j + 1) (K (j + 1)) :=
  asc_of_step (fun j => c (j + 1) (K (j + 1))) L (fun k hk => p.mono1 h hn k hk) i j hij hj
/-- an upper part of the levels, as widths -/
theorem geo (q : Nat → Bool) (L : Nat) (hq : ∀ i j, i ≤ j → j < L → q i = true → q j = true) : sm (fun i => if q i then 2 ^ i else 0) L + 2 ^ (L - ct q L) = 2 ^ L ∧ ct q L ≤ L := by
  refine ⟨?_, ct_le _ _⟩
  induction L with
  | zero => rfl
  | succ L ih =>
    have h1 := ih (fun i j a b => hq i j a (by omega))
    have h2 := ct_le q L
    rw [sm, ct_succ]
    by_cases h : q L = true
    · rw [if_pos h, if_pos h, show L + 1 - (ct q L + 1) = L - ct q L by omega, Nat.pow_succ]; omega
    · have h0 : ∀ i, i < L → q i = false := fun i hi => by
        cases hh : q i with
        | false => rfl
        | true => exact absurd (hq i L (by omega) (by omega) hh) h
      have e1 : sm (fun i => if q i then 2 ^ i else 0) L = 0 := by
        rw [sm_congr _ (fun _ => 0) L (fun t ht => by simp [h0 t ht]), sm_zero]
      have e2 : ct q L = 0 := by
        unfold ct; rw [sm_congr _ (fun _ => 0) L (fun t ht => by simp [h0 t ht]), sm_zero]
      rw [if_neg h, if_neg h, e1, e2]; simp
end
end Go.Proofs.YtokfcgloogdeiaaGreatDoor
namespace Go.Proofs.YtokfcgloogdeiaaGreatDoor
set_option linter.unusedVariables false
set_option linter.unusedSimpArgs false

/-- more bits behind a length's code; its least length, of code 257 + k -/
def lex (c : Nat) : Nat := if c < 265 then 0 else (c - 261) / 4
def lbs : Nat → Nat
  | 0 => 3
  | k + 1 => lbs k + 2 ^ lex (257 + k)
def lenOf (code : Int) (large : Bool) : Nat × Nat × Bool :=
  if code < 257 ∨ 285 < code then (0, 0, false) else if code = 285 then (if large then (3, 16, true) else (258, 0, true)) else (lbs (code.toNat - 257), lex code.toNat, true)
/-- more bits behind a distance's code; its least distance -/
def dex (c : Nat) : Nat := if c < 4 then 0 else c / 2 - 1
def dbs : Nat → Nat
  | 0 => 1
  | k + 1 => dbs k + 2 ^ dex k
def dstOf (code : Int) (large : Bool) : Nat × Nat × Bool :=
  if code < 0 ∨ 31 < code ∨ (29 < code ∧ large = false) then (0, 0, false) else (dbs code.toNat, dex code.toNat, true)
/-- the least code that reaches a length -/
def lcHit (n : Int) (large : Bool) (k : Nat) : Bool := decide (((lenOf (257 + k : Nat) large).1 : Int) ≤ n ∧ n ≤ (if k = 27 then (lenOf (257 + k : Nat) large).1 + 30 else (lenOf (257 + k : Nat) large).1 + 2 ^ (lenOf (257 + k : Nat) large).2.1 - 1 : Nat))
def lcOf (n : Int) (large : Bool) : Nat × Nat × Nat × Bool :=
  if n = 258 ∧ large = false then (285, 0, 0, true)
  else match (List.range 29).find? (lcHit n large) with
    | some k => (257 + k, (lenOf (257 + k : Nat) large).2.1, (n - (lenOf (257 + k : Nat) large).1).toNat, true)
    | none => (0, 0, 0, false)
def dcHit (n : Int) (large : Bool) (c : Nat) : Bool := (dstOf c large).2.2 && decide (((dstOf c large).1 : Int) ≤ n ∧ n ≤ ((dstOf c large).1 + 2 ^ (dstOf c large).2.1 - 1 : Nat))
def dcOf (n : Int) (large : Bool) : Nat × Nat × Nat × Bool :=
  match (List.range 32).find? (dcHit n large) with
    | some c => (c, (dstOf c large).2.1, (n - (dstOf c large).1).toNat, true)
    | none => (0, 0, 0, false)
/-- the least lengths, written out -/
theorem lbs_closed : ∀ k : Fin 28, lbs k.val = if k.val < 8 then 3 + k.val else 3 + 2 ^ ((k.val - 4) / 4) * (4 + (k.val - 4) % 4) := by decide +kernel
theorem lbs_le : ∀ k : Fin 28, lbs k.val ≤ 227 ∧ lex (257 + k.val) ≤ 5 := by decide +kernel
theorem dbs_closed : ∀ k : Fin 32, dbs k.val = if k.val < 4 then 1 + k.val else 1 + 2 ^ (k.val / 2 - 1) * (2 + k.val % 2) := by decide +kernel
theorem dbs_le : ∀ k : Fin 32, dbs k.val ≤ 49153 ∧ dex k.val ≤ 14 := by decide +kernel
/-- each length from 3 to 258 has a code -/
theorem lcOf_all : ∀ n : Fin 256, (lcOf ((n.val + 3 : Nat) : Int) false).2.2.2 = true ∧ (lcOf ((n.val + 3 : Nat) : Int) true).2.2.2 = true := by decide +kernel
theorem step_find (f : Nat → Nat) (m n : Nat) (h0 : f 0 ≤ n) (h : n < f m) : ∃ c, c < m ∧ f c ≤ n ∧ n < f (c + 1) := by
  induction m with
  | zero => omega
  | succ m ih =>
    by_cases h1 : n < f m
    · obtain ⟨c, h2, h3, h4⟩ := ih h1
      exact ⟨c, by omega, h3, h4⟩
    · exact ⟨m, by omega, by omega, h⟩
theorem dbs30 : dbs 30 = 32769 := by decide +kernel
/-- each distance from 1 to 32768 has a code -/
theorem dcOf_all (n : Int) (large : Bool) (h : 1 ≤ n ∧ n ≤ 32768) : (dcOf n large).2.2.2 = true := by
  obtain ⟨m, rfl⟩ : ∃ m : Nat, n = m := ⟨n.toNat, by omega⟩
  obtain ⟨c, hc, h1, h2⟩ := step_find dbs 30 m (by show 1 ≤ m; omega) (by rw [dbs30]; omega)
  have hd : dstOf c large = (dbs c, dex c, true) := by
    unfold dstOf; rw [if_neg (by omega), Int.toNat_natCast]
  have hit : dcHit m large c = true := by
    unfold dcHit; rw [hd]
    have : dbs (c + 1) = dbs c + 2 ^ dex c := rfl
    simp only [Bool.true_and, decide_eq_true_eq]
    omega
  unfold dcOf
  cases hf : (List.range 32).find? (dcHit m large) with
  | some c' => rfl
  | none =>
    have := List.find?_eq_none.1 hf c (by simp; omega)
    exact absurd hit this
/-- the code of a length stands for it -/
theorem lcOf_stand (n : Int) (large : Bool) (h : (lcOf n large).2.2.2 = true) : ∃ b, lenOf (lcOf n large).1 large = (b, (lcOf n large).2.1, true) ∧ (b : Int) + (lcOf n large).2.2.1 = n ∧ (lcOf n large).2.2.1 < 2 ^ (lcOf n large).2.1 := by
  unfold lcOf at h ⊢
  by_cases h0 : n = 258 ∧ large = false
  · rw [if_pos h0]
    obtain ⟨rfl, rfl⟩ := h0
    exact ⟨258, rfl, rfl, by decide⟩
  · rw [if_neg h0] at h ⊢
    cases hf : (List.range 29).find? (lcHit n large) with
    | none => rw [hf] at h; simp at h
    | some k =>
      have hk := List.find?_some hf
      have hm : k < 29 := by simpa using List.mem_of_find?_eq_some hf
      unfold lcHit at hk
      rw [decide_eq_true_eq] at hk
      dsimp only
      have hok : (lenOf ((257 + k : Nat) : Int) large).2.2 = true := by
        unfold lenOf; rw [if_neg (by omega)]; split
        · split <;> rfl
        · rfl
      refine ⟨(lenOf ((257 + k : Nat) : Int) large).1, by rw [← hok], by omega, ?_⟩
      by_cases h27 : k = 27
      · rw [if_pos h27] at hk
        subst h27
        have : lenOf ((257 + 27 : Nat) : Int) large = (227, 5, true) := by cases large <;> decide +kernel
        rw [this] at hk ⊢
        dsimp only at hk ⊢
        omega
      · rw [if_neg h27] at hk
        have := Nat.two_pow_pos (lenOf ((257 + k : Nat) : Int) large).2.1
        omega
theorem dcOf_stand (n : Int) (large : Bool) (h : (dcOf n large).2.2.2 = true) : ∃ b, dstOf (dcOf n large).1 large = (b, (dcOf n large).2.1, true) ∧ (b : Int) + (dcOf n large).2.2.1 = n ∧ (dcOf n large).2.2.1 < 2 ^ (dcOf n large).2.1 := by
  unfold dcOf at h ⊢
  cases hf : (List.range 32).find? (dcHit n large) with
  | none => rw [hf] at h; simp at h
  | some c =>
    have hk := List.find?_some hf
    unfold dcHit at hk
    rw [Bool.and_eq_true, decide_eq_true_eq] at hk
    dsimp only
    have := Nat.two_pow_pos (dstOf c large).2.1
    exact ⟨(dstOf c large).1, by rw [← hk.1], by omega, by omega⟩
end Go.Proofs.YtokfcgloogdeiaaGreatDoor
namespace Go.Proofs.YtokfcgloogdeiaaGreatDoor
set_option linter.unusedVariables false
set_option linter.unusedSimpArgs false
theorem byteAt_zero (c : UInt8) (l : List UInt8) : byteAt (c :: l) 0 = c.toNat := rfl
theorem byteAt_succ (c : UInt8) (l : List UInt8) (i : Nat) : byteAt (c :: l) (i + 1) = byteAt l i := rfl
theorem toBits_get (l : List UInt8) (i : Nat) (h : i < 8 * l.length) : (toBits l)[i]? = some (dig l i) := by
  induction l generalizing i with
  | nil => simp at h
  | cons c l ih =>
    rw [toBits]
    by_cases hi : i < 8
    · rw [List.getElem?_append_left (by rw [bitsOf_length]; exact hi), bitsOf_get _ _ _ hi]
      unfold dig bitAt
      rw [show i / 8 = 0 by omega, show i % 8 = i by omega, byteAt_zero]
      rw [Nat.testBit_eq_decide_div_mod_eq]
      rfl
    · rw [List.getElem?_append_right (by rw [bitsOf_length]; omega), bitsOf_length, ih (i - 8) (by simp at h; omega)]
      unfold dig bitAt
      obtain ⟨j, rfl⟩ : ∃ j, i = j + 8 := ⟨i - 8, by omega⟩
      rw [show (j + 8) / 8 = j / 8 + 1 by omega, show (j + 8) % 8 = j % 8 by omega, byteAt_succ, show j + 8 - 8 = j by omega]
theorem bits_num (l : List UInt8) (p n : Nat) (h : p + n ≤ 8 * l.length) : bitsOf (num l p n) n = ((toBits l).drop p).take n := by
  apply List.ext_getElem?
  intro i
  by_cases hi : i < n
  · rw [bitsOf_get _ _ _ hi, num_bit, List.getElem?_take_of_lt hi, List.getElem?_drop, toBits_get _ _ (by omega)]
    simp [hi]
  · rw [List.getElem?_eq_none (by rw [bitsOf_length]; omega), List.getElem?_eq_none (by simp; omega)]
/-- a segment of bits that were written is read as it was -/
theorem num_seg (l : List UInt8) (pre post : List Bool) (x n : Nat) (h : toBits l = pre ++ bitsOf x n ++ post) : num l pre.length n = x % 2 ^ n := by
  have hl := congrArg List.length h
  simp only [toBits_length, List.length_append, bitsOf_length] at hl
  have := bits_num l pre.length n (by omega)
  rw [h, List.append_assoc, List.drop_left, List.take_left' (bitsOf_length x n)] at this
  exact bitsOf_inj _ _ n (num_lt _ _ _) (Nat.mod_lt _ (Nat.two_pow_pos n)) (by rw [this, bitsOf_mod])
theorem num_false (l : List UInt8) (pre post : List Bool) (n : Nat) (h : toBits l = pre ++ List.replicate n false ++ post) : num l pre.length n = 0 := by
  rw [← bitsOf_zero n] at h
  rw [num_seg l pre post 0 n h]; simp
end Go.Proofs.YtokfcgloogdeiaaGreatDoor
namespace Go.Proofs.YtokfcgloogdeiaaGreatDoor
set_option linter.unusedVariables false
set_option linter.unusedSimpArgs false

theorem sm_pow2 (L : Nat) : sm (fun i => 2 ^ i) L + 1 = 2 ^ L := by
  induction L with
  | zero => rfl
  | succ L ih => rw [sm, Nat.pow_succ]; omega
theorem sm_ind (a : Nat → Nat) (v n : Nat) (h : v ≤ n) : sm (fun r => if decide (r < v) then a r else 0) n = sm a v := by
  induction n with
  | zero => obtain rfl : v = 0 := by omega
            rfl
  | succ n ih =>
    rw [sm]
    by_cases e : v = n + 1
    · subst e
      rw [if_pos (by simp), sm, sm_congr _ a n (fun t ht => by rw [if_pos (by simp; omega)])]
    · rw [ih (by omega), if_neg (by simp; omega)]; rfl
theorem ct_ge (m n : Nat) : ct (fun i => decide (m ≤ i)) n = n - m := by
  induction n with
  | zero => simp [ct, sm]
  | succ n ih => rw [ct_succ, ih]; by_cases h : m ≤ n <;> simp [h] <;> omega
/-- one symbol's part of the width -/
theorem one_wide (o L : Nat) (h : o ≤ L) : sm (fun i => if decide (L ≤ o + i) then 2 ^ i else 0) L + 2 ^ (L - o) = 2 ^ L := by
  have h1 := (geo (fun i => decide (L ≤ o + i)) L (fun i j a b c => by simp at *; omega)).1
  have h2 : ct (fun i => decide (L ≤ o + i)) L = o := by
    have : (fun i => decide (L ≤ o + i)) = fun i => decide (L - o ≤ i) := by
      funext i
      exact decide_eq_decide.2 ⟨fun h => by omega, fun h => by omega⟩
    rw [this, ct_ge]; omega
  rw [h2] at h1; exact h1
theorem one_cost (o L : Nat) (h : o ≤ L) : ct (fun i => decide (L ≤ o + i)) L = o := by
  have : (fun i => decide (L ≤ o + i)) = fun i => decide (L - o ≤ i) := by
    funext i
    exact decide_eq_decide.2 ⟨fun h => by omega, fun h => by omega⟩
  rw [this, ct_ge]; omega
section
variable {a K : Nat → Nat} {n L : Nat} {W c : Nat → Nat → Nat} {tot : Nat → Nat}
/-- how long the word of rank r is: on how many levels it is taken -/
def pmLen (c : Nat → Nat → Nat) (K : Nat → Nat) (L r : Nat) : Nat := ct (fun i => decide (r < c (i + 1) (K (i + 1)))) L
theorem pmLen_le (r : Nat) : pmLen c K L r ≤ L := ct_le _ _
theorem pmLen_anti (r r' : Nat) (h : r ≤ r') : pmLen c K L r' ≤ pmLen c K L r := by
  unfold pmLen ct
  refine sm_le _ _ _ (fun t ht => ?_)
  by_cases h1 : r' < c (t + 1) (K (t + 1))
  · rw [if_pos (by simpa using h1), if_pos (by simp; omega)]; exact Nat.le_refl _
  · rw [if_neg (by simpa using h1)]; exact Nat.zero_le _
theorem Pck.sumV (p : Pck n L c K) (h : Lvs a n L W c tot) (hn : n ≤ 2 ^ L) : sm (fun i => c (i + 1) (K (i + 1)) * 2 ^ i) L = 2 ^ L * (n - 1) := by
  have h1 := p.wide h hn L (Nat.le_refl _)
  rw [p.top, show 2 * n - 2 = 2 * (n - 1) by omega, Nat.mul_left_comm] at h1
  omega
theorem Pck.top_all (p : Pck n L c K) (h : Lvs a n L W c tot) (hn : n ≤ 2 ^ L) (h2 : 2 ≤ n) : 0 < L ∧ c L (K L) = n := by
  have hL : 0 < L := by
    rcases Nat.eq_zero_or_pos L with e | e
    · subst e; simp at hn; omega
    · exact e
  refine ⟨hL, ?_⟩
  obtain ⟨M, rfl⟩ : ∃ M, L = M + 1 := ⟨L - 1, by omega⟩
  have hv := (p.vn h hn M (by omega)).1
  rcases Nat.lt_or_ge (c (M + 1) (K (M + 1))) n with hlt | hge
  · exfalso
    have hs := p.sumV h hn
    have hle : sm (fun i => c (i + 1) (K (i + 1)) * 2 ^ i) (M + 1) ≤ sm (fun i => (n - 1) * 2 ^ i) (M + 1) :=
      sm_le _ _ _ (fun t ht => Nat.mul_le_mul_right _ (by have := p.mono h hn t M (by omega) (by omega); omega))
    have hm2 : sm (fun i => (n - 1) * 2 ^ i) (M + 1) = (n - 1) * sm (fun i => 2 ^ i) (M + 1) := sm_mul _ _ _
    rw [hm2, hs] at hle
    have hp := sm_pow2 (M + 1)
    have : (n - 1) * sm (fun i => 2 ^ i) (M + 1) + (n - 1) = (n - 1) * 2 ^ (M + 1) := by rw [← hp, Nat.mul_add, Nat.mul_one]
    rw [Nat.mul_comm (2 ^ (M + 1))] at hle
    omega
  · omega
theorem Pck.pos (p : Pck n L c K) (h : Lvs a n L W c tot) (hn : n ≤ 2 ^ L) (h2 : 2 ≤ n) (r : Nat) (hr : r < n) : 0 < pmLen c K L r := by
  obtain ⟨hL, hv⟩ := p.top_all h hn h2
  obtain ⟨M, rfl⟩ : ∃ M, L = M + 1 := ⟨L - 1, by omega⟩
  unfold pmLen
  rw [ct_succ, if_pos (by simp; omega)]
  omega
/-- the weight is just 1 -/
theorem Pck.kraft (p : Pck n L c K) (h : Lvs a n L W c tot) (hn : n ≤ 2 ^ L) (h1 : 1 ≤ n) : sm (fun r => 2 ^ (L - pmLen c K L r)) n = 2 ^ L := by
  have e1 : sm (fun r => sm (fun i => if decide (r < c (i + 1) (K (i + 1))) then 2 ^ i else 0) L + 2 ^ (L - pmLen c K L r)) n = 2 ^ L * n := by
    have hg : ∀ r, r < n → sm (fun i => if decide (r < c (i + 1) (K (i + 1))) then 2 ^ i else 0) L + 2 ^ (L - pmLen c K L r) = 2 ^ L := fun r _ =>
      (geo (fun i => decide (r < c (i + 1) (K (i + 1)))) L (fun i j hij hj hq => by
        have := p.mono h hn i j hij hj
        have hq2 : r < c (i + 1) (K (i + 1)) := by simpa using hq
        simp; omega)).1
    rw [sm_congr _ (fun _ => 2 ^ L) n hg, sm_const]
  rw [sm_add, sm_swap] at e1
  have e2 : sm (fun j => sm (fun r => if decide (r < c (j + 1) (K (j + 1))) then 2 ^ j else 0) n) L = 2 ^ L * (n - 1) := by
    rw [← p.sumV h hn]
    refine sm_congr _ _ _ (fun j hj => ?_)
    rw [sm_ind (fun _ => 2 ^ j) _ n (p.vn h hn j hj).1, sm_const, Nat.mul_comm]
  rw [e2] at e1
  have : 2 ^ L * n = 2 ^ L * (n - 1) + 2 ^ L := by
    obtain ⟨m, rfl⟩ : ∃ m, n = m + 1 := ⟨n - 1, by omega⟩
    rw [Nat.add_sub_cancel, Nat.mul_succ]
  omega
theorem Pck.pmCost (p : Pck n L c K) (h : Lvs a n L W c tot) (hn : n ≤ 2 ^ L) : sm (fun r => a r * pmLen c K L r) n = sm (W L) (2 * n - 2) := by
  have e := p.cost h hn L (Nat.le_refl _)
  rw [p.top] at e
  rw [e]
  unfold pmLen ct
  rw [sm_congr _ (fun r => sm (fun i => a r * if decide (r < c (i + 1) (K (i + 1))) then 1 else 0) L) n (fun r _ => (sm_mul _ _ _).symm), sm_swap]
  refine sm_congr _ _ _ (fun j hj => ?_)
  rw [← sm_ind a _ n (p.vn h hn j hj).1]
  refine sm_congr _ _ _ (fun r _ => ?_)
  split <;> simp
/-- no lengths up to L whose weight is 1 or less cost less -/
theorem Lvs.least (h : Lvs a n L W c tot) (h1 : 1 ≤ n) (o : Nat → Nat) (ho : ∀ r, r < n → o r ≤ L) (hk : sm (fun r => 2 ^ (L - o r)) n ≤ 2 ^ L) : sm (W L) (2 * n - 2) ≤ sm (fun r => a r * o r) n := by
  have hlow := h.lower (fun j => ct (fun r => decide (L ≤ o r + (j - 1))) n) (fun j => ct_le _ _) h1 (by
    have e1 : sm (fun r => sm (fun i => if decide (L ≤ o r + i) then 2 ^ i else 0) L + 2 ^ (L - o r)) n = 2 ^ L * n := by
      rw [sm_congr _ (fun _ => 2 ^ L) n (fun r hr => one_wide (o r) L (ho r hr)), sm_const]
    rw [sm_add, sm_swap] at e1
    have e2 : sm (fun i => ct (fun r => decide (L ≤ o r + (i + 1 - 1))) n * 2 ^ i) L = sm (fun j => sm (fun r => if decide (L ≤ o r + j) then 2 ^ j else 0) n) L := by
      refine sm_congr _ _ _ (fun j hj => ?_)
      rw [Nat.mul_comm, ct, ← sm_mul, Nat.add_sub_cancel]
      refine sm_congr _ _ _ (fun r hr => ?_)
      split <;> simp
    rw [e2]
    have : 2 ^ L * n = 2 ^ L * (n - 1) + 2 ^ L := by
      obtain ⟨m, rfl⟩ : ∃ m, n = m + 1 := ⟨n - 1, by omega⟩
      rw [Nat.add_sub_cancel, Nat.mul_succ]
    omega)
  refine Nat.le_trans hlow ?_
  have e3 : sm (fun r => a r * o r) n = sm (fun i => sm (fun r => if decide (L ≤ o r + i) then a r else 0) n) L := by
    rw [sm_swap (fun i r => if decide (L ≤ o r + i) then a r else 0)]
    refine sm_congr _ _ _ (fun r hr => ?_)
    have := one_cost (o r) L (ho r hr)
    conv => lhs; rw [← this, ct, ← sm_mul]
    refine sm_congr _ _ _ (fun i _ => ?_)
    split <;> simp
  rw [e3]
  refine sm_le _ _ _ (fun i hi => ?_)
  rw [Nat.add_sub_cancel]
  exact least_sum a n h.asc _
theorem Pck.best (p : Pck n L c K) (h : Lvs a n L W c tot) (hn : n ≤ 2 ^ L) (h1 : 1 ≤ n) (o : Nat → Nat) (ho : ∀ r, r < n → o r ≤ L) (hk : sm (fun r => 2 ^ (L - o r)) n ≤ 2 ^ L) : sm (fun r => a r * pmLen c K L r) n ≤ sm (fun r => a r * o r) n := by
  rw [p.pmCost h hn]; exact h.least h1 o ho hk
end
/-- 2^(L-l) lies over the line through m and m+1 -/
theorem chord (L m l : Nat) (hm : m + 1 ≤ L) (hl : l ≤ L) : (m + 2) * 2 ^ (L - m - 1) ≤ 2 ^ (L - l) + l * 2 ^ (L - m - 1) ∧ (2 ^ (L - l) + l * 2 ^ (L - m - 1) = (m + 2) * 2 ^ (L - m - 1) → l = m ∨ l = m + 1) := by
  have hD : 0 < 2 ^ (L - m - 1) := Nat.pow_pos (by decide)
  rcases Nat.lt_or_ge l (m + 1) with h | h
  · obtain ⟨k, rfl⟩ : ∃ k, m = l + k := ⟨m - l, by omega⟩
    have e : 2 ^ (L - l) = 2 ^ (k + 1) * 2 ^ (L - (l + k) - 1) := by rw [← Nat.pow_add]; congr 1; omega
    rw [e]
    generalize 2 ^ (L - (l + k) - 1) = D at *
    have hk : k + 2 ≤ 2 ^ (k + 1) ∧ (0 < k → k + 2 < 2 ^ (k + 1)) := by
      clear e hm hl h hD
      induction k with
      | zero => simp
      | succ k ih => rw [Nat.pow_succ]; omega
    rw [show l + k + 2 = (k + 2) + l by omega, Nat.add_mul]
    refine ⟨Nat.add_le_add_right (Nat.mul_le_mul_right _ hk.1) _, fun h0 => ?_⟩
    left
    rcases Nat.eq_zero_or_pos k with e0 | e0
    · omega
    · have := Nat.mul_lt_mul_of_pos_right (hk.2 e0) hD
      omega
  · obtain ⟨k, rfl⟩ : ∃ k, l = m + 1 + k := ⟨l - (m + 1), by omega⟩
    cases k with
    | zero =>
      have e : 2 ^ (L - (m + 1 + 0)) = 2 ^ (L - m - 1) := by congr 1
      rw [e, show m + 2 = 1 + (m + 1) by omega, Nat.add_mul, Nat.one_mul]
      exact ⟨Nat.le_refl _, fun _ => .inr rfl⟩
    | succ k =>
      have hp : 0 < 2 ^ (L - (m + 1 + (k + 1))) := Nat.pow_pos (by decide)
      generalize 2 ^ (L - m - 1) = D at *
      rw [show m + 1 + (k + 1) = (m + 2) + k by omega, Nat.add_mul (m + 2) k]
      rw [show m + 1 + (k + 1) = (m + 2) + k by omega] at hp
      generalize 2 ^ (L - (m + 2 + k)) = q at *
      generalize (m + 2) * D = x
      exact ⟨by omega, fun h0 => by omega⟩
/-- symbols that come equally often: the best lengths are m and m + 1 -/
theorem flat (n L m x : Nat) (l : Nat → Nat) (hx : 0 < x) (hm : m + 1 ≤ L) (h1 : 2 ^ m ≤ n) (h2 : n ≤ 2 ^ (m + 1)) (hl : ∀ r, r < n → l r ≤ L) (hk : sm (fun r => 2 ^ (L - l r)) n = 2 ^ L)
    (hb : ∀ o : Nat → Nat, (∀ r, r < n → o r = m ∨ o r = m + 1) → sm (fun r => 2 ^ (L - o r)) n ≤ 2 ^ L → sm (fun r => x * l r) n ≤ sm (fun r => x * o r) n) : ∀ r, r < n → l r = m ∨ l r = m + 1 := by
  have hD : 0 < 2 ^ (L - m - 1) := Nat.pow_pos (by decide)
  have eL : 2 ^ L = 2 ^ (m + 1) * 2 ^ (L - m - 1) := by rw [← Nat.pow_add]; congr 1; omega
  have eM : 2 ^ (L - m) = 2 * 2 ^ (L - m - 1) := by rw [← Nat.pow_succ']; congr 1; omega
  have eM1 : 2 ^ (L - (m + 1)) = 2 ^ (L - m - 1) := by congr 1
  -- the lengths held against
  have so : ∀ s t, sm (fun r => if decide (r < s) then t else t + 1) n + (if s ≤ n then s else n) = (t + 1) * n := by
    intro s t
    clear hb hk hl h1 h2
    induction n with
    | zero => simp [sm]
    | succ n ih =>
      rw [sm, Nat.mul_succ]
      by_cases h : n < s
      · rw [if_pos (by simpa using h)]
        by_cases h3 : s ≤ n + 1
        · rw [if_pos h3]; rw [if_neg (by omega)] at ih; omega
        · rw [if_neg h3]; rw [if_neg (by omega)] at ih; omega
      · rw [if_neg (by simpa using h), if_pos (by omega)]; rw [if_pos (by omega)] at ih; omega
  have hso := so (2 ^ (m + 1) - n) m
  have h2m : 2 ^ (m + 1) = 2 * 2 ^ m := by rw [Nat.pow_succ']
  rw [if_pos (by omega)] at hso
  have ko : sm (fun r => 2 ^ (L - (if decide (r < 2 ^ (m + 1) - n) then m else m + 1))) n = 2 ^ L := by
    have e : sm (fun r => 2 ^ (L - (if decide (r < 2 ^ (m + 1) - n) then m else m + 1))) n = sm (fun r => 2 ^ (L - m - 1) + if decide (r < 2 ^ (m + 1) - n) then 2 ^ (L - m - 1) else 0) n := by
      refine sm_congr _ _ _ (fun r _ => ?_)
      split
      · rw [eM]; omega
      · rw [eM1]; rfl
    rw [e, sm_add, sm_const, sm_ind (fun _ => 2 ^ (L - m - 1)) _ n (by omega), sm_const, ← Nat.mul_add, eL, Nat.mul_comm]
    congr 1; omega
  have hbb := hb (fun r => if decide (r < 2 ^ (m + 1) - n) then m else m + 1) (fun r _ => by split <;> simp) (by rw [ko]; exact Nat.le_refl _)
  rw [sm_mul, sm_mul] at hbb
  have hle := Nat.le_of_mul_le_mul_left hbb hx
  -- the sum of the line's gaps is nothing
  have hgap : sm (fun r => 2 ^ (L - l r) + l r * 2 ^ (L - m - 1)) n ≤ sm (fun _ => (m + 2) * 2 ^ (L - m - 1)) n := by
    rw [sm_add, hk, sm_const, eL]
    have e : sm (fun r => l r * 2 ^ (L - m - 1)) n = 2 ^ (L - m - 1) * sm l n := by
      rw [← sm_mul]; exact sm_congr _ _ _ (fun r _ => Nat.mul_comm _ _)
    rw [e, Nat.mul_comm (2 ^ (m + 1)), ← Nat.mul_add, Nat.mul_comm (m + 2), Nat.mul_assoc]
    refine Nat.mul_le_mul_left _ ?_
    rw [Nat.succ_mul]
    omega
  have hall : ∀ N, N ≤ n → sm (fun r => 2 ^ (L - l r) + l r * 2 ^ (L - m - 1)) N ≤ sm (fun _ => (m + 2) * 2 ^ (L - m - 1)) N := by
    intro N hN
    obtain ⟨d, rfl⟩ : ∃ d, n = N + d := ⟨n - N, by omega⟩
    clear hb hk so hso ko hbb hle h1 h2 hN
    induction d with
    | zero => exact hgap
    | succ d ih =>
      refine ih (fun r hr => hl r (by omega)) ?_
      rw [show N + (d + 1) = (N + d) + 1 by omega, sm, sm] at hgap
      have := (chord L m (l (N + d)) hm (hl _ (by omega))).1
      omega
  intro r hr
  refine (chord L m (l r) hm (hl r hr)).2 ?_
  have g1 := hall (r + 1) (by omega)
  rw [sm, sm] at g1
  have g2 : sm (fun _ => (m + 2) * 2 ^ (L - m - 1)) r ≤ sm (fun r => 2 ^ (L - l r) + l r * 2 ^ (L - m - 1)) r := sm_le _ _ _ (fun t ht => (chord L m (l t) hm (hl t (by omega))).1)
  have g3 := (chord L m (l r) hm (hl r hr)).1
  omega
end Go.Proofs.YtokfcgloogdeiaaGreatDoor
namespace Go.Proofs.YtokfcgloogdeiaaGreatDoor
set_option linter.unusedVariables false
set_option linter.unusedSimpArgs false

def usedN (N : Nat) (F : Nat → Nat) : Nat := ct (fun i => decide (F i ≠ 0)) N
/-- the weight, in 2^-M -/
def wsum (N : Nat) (F o : Nat → Nat) (M : Nat) : Nat := sm (fun i => if F i = 0 then 0 else 2 ^ (M - o i)) N
def cost (N : Nat) (F o : Nat → Nat) : Nat := sm (fun i => F i * o i) N
/-- ord is a row of the symbols that come -/
def RowOf (N : Nat) (F : Nat → Nat) (ord : List Nat) : Prop := ord.Nodup ∧ ∀ i, i ∈ ord ↔ i < N ∧ F i ≠ 0
structure Good (N : Nat) (F : Nat → Nat) (most : Nat) (l : Nat → Nat) : Prop where
  zero : ∀ i, i < N → (l i = 0 ↔ F i = 0)
  le : ∀ i, i < N → l i ≤ most
  one : usedN N F = 1 → ∀ i, i < N → l i ≤ 1
  mono : ∀ i k, i < N → k < N → F k < F i → 0 < F k → l i ≤ l k
  full : 2 ≤ usedN N F → wsum N F l 16 = 65536
  best : ∀ o : Nat → Nat, (∀ i, i < N → F i ≠ 0 → 1 ≤ o i ∧ o i ≤ most) → wsum N F o 16 ≤ 65536 → cost N F l ≤ cost N F o
  row : ∃ ord, RowOf N F ord ∧ (∀ p q, p ≤ q → q < ord.length → F (ord.getD q 0) ≤ F (ord.getD p 0)) ∧ ∀ p q, p ≤ q → q < ord.length → l (ord.getD p 0) ≤ l (ord.getD q 0)
theorem lsum_getD (ord : List Nat) (g : Nat → Nat) : (ord.map g).sum = sm (fun r => g (ord.getD r 0)) ord.length := by
  have h : ∀ m, m ≤ ord.length → ((ord.take m).map g).sum = sm (fun r => g (ord.getD r 0)) m := by
    intro m
    induction m with
    | zero => intro _; simp [sm]
    | succ m ih =>
      intro hm
      rw [List.take_succ_eq_append_getElem (by omega), List.map_append, List.sum_append, ih (by omega), sm]
      simp [show m < ord.length by omega]
  have := h ord.length (Nat.le_refl _)
  rwa [List.take_length] at this
theorem sm_list (g : Nat → Nat) (N : Nat) : sm g N = ((List.range N).map g).sum := by
  induction N with
  | zero => rfl
  | succ N ih => rw [sm, ih, List.range_succ, List.map_append, List.sum_append]; simp
theorem sm_filter (g : Nat → Nat) (q : Nat → Bool) (N : Nat) (h : ∀ i, q i = false → g i = 0) : sm g N = (((List.range N).filter q).map g).sum := by
  induction N with
  | zero => rfl
  | succ N ih =>
    rw [sm, ih, List.range_succ, List.filter_append, List.map_append, List.sum_append]
    cases hq : q N with
    | true => simp [hq]
    | false => simp [hq, h N hq]
theorem RowOf.perm {N : Nat} {F : Nat → Nat} {ord : List Nat} (h : RowOf N F ord) : ord.Perm ((List.range N).filter fun i => decide (F i ≠ 0)) := by
  refine (List.perm_ext_iff_of_nodup h.1 (List.Nodup.sublist List.filter_sublist List.nodup_range)).2 (fun i => ?_)
  rw [h.2 i]; simp
/-- a sum over all symbols is one over the row -/
theorem RowOf.sum {N : Nat} {F : Nat → Nat} {ord : List Nat} (h : RowOf N F ord) (g : Nat → Nat) (hg : ∀ i, F i = 0 → g i = 0) : sm g N = sm (fun r => g (ord.getD r 0)) ord.length := by
  rw [sm_filter g (fun i => decide (F i ≠ 0)) N (fun i hi => hg i (by simpa using hi)), ← lsum_getD]
  exact ((h.perm.map g).sum_nat).symm
theorem RowOf.used {N : Nat} {F : Nat → Nat} {ord : List Nat} (h : RowOf N F ord) : usedN N F = ord.length := by
  unfold usedN ct
  rw [h.sum _ (fun i hi => by simp [hi])]
  rw [sm_congr _ (fun _ => 1) ord.length (fun r hr => ?_), sm_const, Nat.one_mul]
  have hm : ord.getD r 0 ∈ ord := by rw [List.getD_eq_getElem?_getD, List.getElem?_eq_getElem hr]; exact List.getElem_mem hr
  have := ((h.2 _).1 hm).2
  simp only [this, decide_true, ne_eq, not_false_eq_true, if_true]
theorem RowOf.mem {N : Nat} {F : Nat → Nat} {ord : List Nat} (h : RowOf N F ord) (r : Nat) (hr : r < ord.length) : ord.getD r 0 < N ∧ F (ord.getD r 0) ≠ 0 := by
  refine (h.2 _).1 ?_
  rw [List.getD_eq_getElem?_getD, List.getElem?_eq_getElem hr]; exact List.getElem_mem hr
theorem RowOf.find {N : Nat} {F : Nat → Nat} {ord : List Nat} (h : RowOf N F ord) (i : Nat) (hi : i < N) (hF : F i ≠ 0) : ∃ r, r < ord.length ∧ ord.getD r 0 = i := by
  obtain ⟨r, hr, e⟩ := List.getElem_of_mem ((h.2 i).2 ⟨hi, hF⟩)
  exact ⟨r, hr, by simp [hr, e]⟩
theorem RowOf.rev {N : Nat} {F : Nat → Nat} {ord : List Nat} (h : RowOf N F ord) : RowOf N F ord.reverse :=
  ⟨List.pairwise_reverse.2 (h.1.imp fun h => Ne.symm h), fun i => by rw [List.mem_reverse]; exact h.2 i⟩
theorem getD_reverse (ord : List Nat) (r : Nat) (h : r < ord.length) : ord.reverse.getD r 0 = ord.getD (ord.length - 1 - r) 0 := by
  rw [List.getD_eq_getElem?_getD, List.getD_eq_getElem?_getD, List.getElem?_reverse h]
/-- package-merge's lengths are best: ord rises by how often its symbols come -/
theorem Good.of_pm {N : Nat} {F : Nat → Nat} {most : Nat} {l : Nat → Nat} (ord : List Nat) (h : RowOf N F ord) (hm : most ≤ 16) (h2 : 2 ≤ ord.length) (hn : ord.length ≤ 2 ^ most)
    (W c : Nat → Nat → Nat) (tot K : Nat → Nat) (hl : Lvs (fun r => F (ord.getD r 0)) ord.length most W c tot) (hp : Pck ord.length most c K)
    (hz : ∀ i, i < N → F i = 0 → l i = 0) (hv : ∀ r, r < ord.length → l (ord.getD r 0) = pmLen c K most r) : Good N F most l := by
  have hcost : ∀ o, cost N F o = sm (fun r => F (ord.getD r 0) * o (ord.getD r 0)) ord.length := fun o => h.sum _ (fun i hi => by simp [hi])
  have e16 : (65536 : Nat) = 2 ^ (16 - most) * 2 ^ most := by rw [← Nat.pow_add, show 16 - most + most = 16 by omega]
  have hws : ∀ o : Nat → Nat, (∀ i, i < N → F i ≠ 0 → o i ≤ most) → wsum N F o 16 = 2 ^ (16 - most) * sm (fun r => 2 ^ (most - o (ord.getD r 0))) ord.length := by
    intro o ho
    unfold wsum
    rw [h.sum _ (fun i hi => by simp [hi]), ← sm_mul]
    refine sm_congr _ _ _ (fun r hr => ?_)
    obtain ⟨a, b⟩ := h.mem r hr
    rw [if_neg b, ← Nat.pow_add]
    congr 1
    have := ho _ a b
    omega
  have hle : ∀ i, i < N → l i ≤ most := by
    intro i hi
    by_cases hF : F i = 0
    · rw [hz i hi hF]; omega
    · obtain ⟨r, hr, rfl⟩ := h.find i hi hF
      rw [hv r hr]; exact pmLen_le r
  refine ⟨?_, hle, ?_, ?_, ?_, ?_, ?_⟩
  · intro i hi
    refine ⟨fun h0 => ?_, hz i hi⟩
    by_cases hF : F i = 0
    · exact hF
    · obtain ⟨r, hr, rfl⟩ := h.find i hi hF
      have := hp.pos hl hn h2 r hr
      rw [hv r hr] at h0; omega
  · intro h1; rw [h.used] at h1; omega
  · intro i k hi hk hlt hpos
    obtain ⟨r, hr, rfl⟩ := h.find i hi (by omega)
    obtain ⟨s, hs, rfl⟩ := h.find k hk (by omega)
    rw [hv r hr, hv s hs]
    refine pmLen_anti s r ?_
    rcases Nat.lt_or_ge r s with h3 | h3
    · have : F (ord.getD r 0) ≤ F (ord.getD s 0) := hl.asc r s (by omega) hs; omega
    · exact h3
  · intro _
    rw [hws l (fun i hi _ => hle i hi), e16]
    congr 1
    rw [← hp.kraft hl hn (by omega)]
    exact sm_congr _ _ _ (fun r hr => by rw [hv r hr])
  · intro o ho hw
    rw [hws o (fun i hi hF => (ho i hi hF).2), e16] at hw
    have hk := Nat.le_of_mul_le_mul_left hw (Nat.pow_pos (by decide))
    rw [hcost, hcost]
    have hb := hp.best hl hn (by omega) (fun r => o (ord.getD r 0)) (fun r hr => (ho _ (h.mem r hr).1 (h.mem r hr).2).2) hk
    refine Nat.le_trans (Nat.le_of_eq (sm_congr _ _ _ (fun r hr => ?_))) hb
    rw [hv r hr]
  · refine ⟨ord.reverse, h.rev, ?_, ?_⟩
    · intro p q hpq hq
      rw [List.length_reverse] at hq
      rw [getD_reverse _ _ hq, getD_reverse _ _ (by omega)]
      exact hl.asc _ _ (by omega) (by omega)
    · intro p q hpq hq
      rw [List.length_reverse] at hq
      rw [getD_reverse _ _ hq, getD_reverse _ _ (by omega), hv _ (by omega), hv _ (by omega)]
      exact pmLen_anti _ _ (by omega)
theorem RowOf.made (N : Nat) (F : Nat → Nat) : RowOf N F ((List.range N).filter fun i => decide (F i ≠ 0)) :=
  ⟨List.Nodup.sublist List.filter_sublist List.nodup_range, fun i => by simp⟩
/-- one symbol alone, or none -/
theorem Good.of_few {N : Nat} {F : Nat → Nat} {most : Nat} {l : Nat → Nat} (hm : 1 ≤ most) (hu : usedN N F ≤ 1) (hz : ∀ i, i < N → l i = if F i = 0 then 0 else 1) : Good N F most l := by
  have h := RowOf.made N F
  generalize (List.range N).filter (fun i => decide (F i ≠ 0)) = ord at h
  rw [h.used] at hu
  have huni : ∀ i k, i < N → k < N → F i ≠ 0 → F k ≠ 0 → i = k := by
    intro i k hi hk hFi hFk
    obtain ⟨r, hr, rfl⟩ := h.find i hi hFi
    obtain ⟨s, hs, rfl⟩ := h.find k hk hFk
    rw [show r = s by omega]
  refine ⟨?_, ?_, ?_, ?_, ?_, ?_, ⟨ord, h, ?_, ?_⟩⟩
  · intro i hi; rw [hz i hi]; split <;> simp_all
  · intro i hi; rw [hz i hi]; split <;> omega
  · intro _ i hi; rw [hz i hi]; split <;> omega
  · intro i k hi hk hlt hp
    have := huni i k hi hk (by omega) (by omega)
    subst this; omega
  · intro h2; rw [h.used] at h2; omega
  · intro o ho _
    unfold cost
    refine sm_le _ _ _ (fun i hi => Nat.mul_le_mul_left _ ?_)
    rw [hz i hi]
    by_cases hF : F i = 0
    · rw [if_pos hF]; omega
    · rw [if_neg hF]; exact (ho i hi hF).1
  · intro p q hpq hq
    rw [show p = q by omega]; exact Nat.le_refl _
  · intro p q hpq hq
    rw [show p = q by omega]; exact Nat.le_refl _
end Go.Proofs.YtokfcgloogdeiaaGreatDoor
