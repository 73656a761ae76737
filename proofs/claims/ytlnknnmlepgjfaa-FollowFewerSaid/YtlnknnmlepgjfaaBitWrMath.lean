/-! Rows of bits, as lists: plain lemmas. -/
namespace Go.Proofs.Ytlnknnmlepgjfaa
set_option linter.unusedVariables false
set_option linter.unusedSimpArgs false

/-- the lowest n bits of x, the lowest first -/
def bitsOf (x : Nat) : Nat → List Bool
  | 0 => []
  | n + 1 => (x % 2 == 1) :: bitsOf (x / 2) n
theorem bitsOf_length (x n : Nat) : (bitsOf x n).length = n := by induction n generalizing x <;> simp_all [bitsOf]
theorem bitsOf_add (x a b : Nat) : bitsOf x (a + b) = bitsOf x a ++ bitsOf (x / 2 ^ a) b := by
  induction a generalizing x with
  | zero => simp [bitsOf]
  | succ a ih => rw [show a + 1 + b = (a + b) + 1 by omega, bitsOf, ih, bitsOf, Nat.pow_succ, Nat.mul_comm, ← Nat.div_div_eq_div_mul]; rfl
theorem bitsOf_mod (x a : Nat) : bitsOf (x % 2 ^ a) a = bitsOf x a := by
  induction a generalizing x with
  | zero => rfl
  | succ a ih =>
    rw [bitsOf, bitsOf, Nat.pow_succ, Nat.mul_comm, show x % (2 * 2 ^ a) % 2 = x % 2 by rw [Nat.mod_mul_right_mod], Nat.mod_mul_right_div_self, ih]
theorem bitsOf_shift (a y h m : Nat) (ha : a < 2 ^ h) : bitsOf (a + y * 2 ^ h) (h + m) = bitsOf a h ++ bitsOf y m := by
  rw [bitsOf_add]
  congr 1
  · rw [← bitsOf_mod, Nat.add_mul_mod_self_right, Nat.mod_eq_of_lt ha]
  · rw [Nat.add_mul_div_right _ _ (Nat.two_pow_pos h), Nat.div_eq_of_lt ha, Nat.zero_add]
theorem bitsOf_zero (n : Nat) : bitsOf 0 n = List.replicate n false := by
  induction n with
  | zero => rfl
  | succ n ih => rw [bitsOf, Nat.zero_div, ih]; rfl
theorem bitsOf_pad (x a b : Nat) (h : x < 2 ^ a) : bitsOf x (a + b) = bitsOf x a ++ List.replicate b false := by
  rw [bitsOf_add, Nat.div_eq_of_lt h, bitsOf_zero]
theorem bitsOf_get (x n i : Nat) (h : i < n) : (bitsOf x n)[i]? = some (x.testBit i) := by
  induction n generalizing x i with
  | zero => omega
  | succ n ih =>
    cases i with
    | zero => simp [bitsOf, Nat.testBit_zero]; rcases Nat.mod_two_eq_zero_or_one x with h | h <;> simp [h]
    | succ i => rw [bitsOf, List.getElem?_cons_succ, ih _ _ (by omega), Nat.testBit_succ]
theorem bitsOf_inj (x y n : Nat) (hx : x < 2 ^ n) (hy : y < 2 ^ n) (h : bitsOf x n = bitsOf y n) : x = y := by
  induction n generalizing x y with
  | zero => simp at hx hy; omega
  | succ n ih =>
    simp only [bitsOf, List.cons.injEq] at h
    have h2 := ih (x / 2) (y / 2) (by rw [Nat.pow_succ] at hx; omega) (by rw [Nat.pow_succ] at hy; omega) h.2
    have h1 : x % 2 = y % 2 := by
      have := h.1
      rcases Nat.mod_two_eq_zero_or_one x with h | h <;> rcases Nat.mod_two_eq_zero_or_one y with h' | h' <;> simp_all
    omega

/-- the bits of bytes -/
def toBits : List UInt8 → List Bool
  | [] => []
  | c :: l => bitsOf c.toNat 8 ++ toBits l
theorem toBits_length (l : List UInt8) : (toBits l).length = 8 * l.length := by
  induction l with
  | nil => rfl
  | cons c l ih => simp [toBits, bitsOf_length, ih]; omega
theorem toBits_append (a b : List UInt8) : toBits (a ++ b) = toBits a ++ toBits b := by
  induction a with
  | nil => rfl
  | cons c l ih => simp [toBits, ih]
theorem toBits_inj (a b : List UInt8) (h : toBits a = toBits b) : a = b := by
  have hl : a.length = b.length := by have := congrArg List.length h; rw [toBits_length, toBits_length] at this; omega
  induction a generalizing b with
  | nil => cases b <;> simp_all
  | cons c a ih =>
    cases b with
    | nil => simp at hl
    | cons d b =>
      simp only [toBits] at h
      have := List.append_inj h (by rw [bitsOf_length, bitsOf_length])
      have h1 := bitsOf_inj _ _ 8 c.toNat_lt d.toNat_lt this.1
      rw [UInt8.toNat_inj.1 h1, ih b this.2 (by simpa using hl)]
/-- up to a byte's end -/
def pad8 (bs : List Bool) : List Bool := bs ++ List.replicate ((8 - bs.length % 8) % 8) false
theorem toBits_snoc (l : List UInt8) (r h : Nat) (hr : r < 2 ^ h) (h8 : h < 8) (h0 : 0 < h) : toBits (l ++ [UInt8.ofNat r]) = pad8 (toBits l ++ bitsOf r h) := by
  have e : (UInt8.ofNat r).toNat = r := by
    have : r < 256 := Nat.lt_of_lt_of_le hr (Nat.pow_le_pow_right (n := 2) (j := 8) (by decide) (by omega))
    simp [UInt8.toNat_ofNat']; omega
  have hp := bitsOf_pad r h (8 - h) hr
  rw [show h + (8 - h) = 8 by omega] at hp
  rw [toBits_append, pad8]
  simp only [toBits, e, List.append_nil, List.append_assoc, hp, List.length_append, toBits_length, bitsOf_length]
  rw [show (8 - (8 * l.length + h) % 8) % 8 = 8 - h by omega]
theorem pad8_whole (l : List UInt8) : pad8 (toBits l) = toBits l := by
  unfold pad8; rw [toBits_length, show (8 - 8 * l.length % 8) % 8 = 0 by omega]; simp
/-- m bits from a place on as a number; noughts behind the end -/
def nb (bs : List Bool) (p : Nat) : Nat := if bs.getD p false then 1 else 0
def nv (bs : List Bool) (p : Nat) : Nat → Nat
  | 0 => 0
  | m + 1 => nv bs (p + 1) m * 2 + nb bs p
theorem nb_lt (bs : List Bool) (p : Nat) : nb bs p < 2 := by unfold nb; split <;> omega
theorem nv_lt (bs : List Bool) (p m : Nat) : nv bs p m < 2 ^ m := by
  induction m generalizing p with
  | zero => simp [nv]
  | succ m ih => have := ih (p + 1); have := nb_lt bs p; rw [nv, Nat.pow_succ]; omega
theorem nv_bits (bs : List Bool) (p m : Nat) : bitsOf (nv bs p m) m = (List.range m).map fun i => bs.getD (p + i) false := by
  induction m generalizing p with
  | zero => rfl
  | succ m ih =>
    have h := nb_lt bs p
    rw [nv, bitsOf, show (nv bs (p + 1) m * 2 + nb bs p) % 2 = nb bs p by omega, show (nv bs (p + 1) m * 2 + nb bs p) / 2 = nv bs (p + 1) m by omega, ih, List.range_succ_eq_map]
    simp only [List.map_cons, List.map_map, Nat.add_zero]
    congr 1
    · unfold nb; cases bs.getD p false <;> rfl
    · apply List.map_congr_left
      intro i _
      simp only [Function.comp]
      congr 1; omega
theorem pad8_length (bs : List Bool) : (pad8 bs).length = (bs.length + 7) / 8 * 8 := by simp [pad8]; omega
theorem pad8_get (bs : List Bool) (i : Nat) (h : i < (pad8 bs).length) : (pad8 bs)[i]? = some (bs.getD i false) := by
  rw [pad8_length] at h
  unfold pad8
  by_cases hi : i < bs.length
  · rw [List.getElem?_append_left hi, List.getD_eq_getElem?_getD, List.getElem?_eq_getElem hi]; rfl
  · rw [List.getElem?_append_right (by omega), List.getElem?_replicate, if_pos (by omega), List.getD_eq_getElem?_getD, List.getElem?_eq_none (by omega)]; rfl
theorem pad8_seg (bs : List Bool) (j : Nat) (h : 8 * j < bs.length) : (pad8 bs).take (8 * (j + 1)) = (pad8 bs).take (8 * j) ++ bitsOf (nv bs (8 * j) 8) 8 := by
  have hl := pad8_length bs
  rw [show 8 * (j + 1) = 8 * j + 8 by omega, List.take_add]
  congr 1
  rw [nv_bits]
  apply List.ext_getElem?
  intro i
  by_cases hi : i < 8
  · rw [List.getElem?_take_of_lt hi, List.getElem?_drop, pad8_get _ _ (by omega)]
    simp [hi]
  · rw [List.getElem?_eq_none (by simp; omega), List.getElem?_eq_none (by simp; omega)]
theorem toBits_one (x : Nat) (h : x < 256) : toBits [UInt8.ofNat x] = bitsOf x 8 := by
  simp only [toBits, List.append_nil]
  congr 1
  simp [UInt8.toNat_ofNat']; omega
end Go.Proofs.Ytlnknnmlepgjfaa
