/-! Rows of bits, as lists: plain lemmas. -/
namespace Go.Proofs.Ytejbgoepaleakaa
set_option linter.unusedVariables false
set_option linter.unusedSimpArgs false

/-- the lowest n bits of x, the lowest first -/
def bitsOf (x : Nat) : Nat → List Bool
  | 0 => []
  | n + 1 => (x % 2 == 1) :: bitsOf (x / 2) n
theorem bitsOf_length (x n : Nat) : (bitsOf x n).length = n := by induction n generalizing x <;> simp_all [bitsOf]
theorem bitsOf_add (x a b : Nat) : bitsOf x (a + b) = bitsOf x a ++ bitsOf (x / 2 ^ a) b := by
  induction a generalizing x with
  | zero => simp [bitsOf]
  | succ a ih => rw [show a + 1 + b = (a + b) + 1 by omega, bitsOf, ih, bitsOf, Nat.pow_succ, Nat.mul_comm, ← Nat.div_div_eq_div_mul]; rfl
theorem bitsOf_mod (x a : Nat) : bitsOf (x % 2 ^ a) a = bitsOf x a := by
  induction a generalizing x with
  | zero => rfl
  | succ a ih =>
    rw [bitsOf, bitsOf, Nat.pow_succ, Nat.mul_comm, show x % (2 * 2 ^ a) % 2 = x % 2 by rw [Nat.mod_mul_right_mod], Nat.mod_mul_right_div_self, ih]
theorem bitsOf_shift (a y h m : Nat) (ha : a < 2 ^ h) : bitsOf (a + y * 2 ^ h) (h + m) = bitsOf a h ++ bitsOf y m := by
  rw [bitsOf_add]
  congr 1
  · rw [← bitsOf_mod, Nat.add_mul_mod_self_right, Nat.mod_eq_of_lt ha]
  · rw [Nat.add_mul_div_right _ _ (Nat.two_pow_pos h), Nat.div_eq_of_lt ha, Nat.zero_add]
theorem bitsOf_zero (n : Nat) : bitsOf 0 n = List.replicate n false := by
  induction n with
  | zero => rfl
  | succ n ih => rw [bitsOf, Nat.zero_div, ih]; rfl
theorem bitsOf_pad (x a b : Nat) (h : x < 2 ^ a) : bitsOf x (a + b) = bitsOf x a ++ List.replicate b false := by
  rw [bitsOf_add, Nat.div_eq_of_lt h, bitsOf_zero]
theorem bitsOf_get (x n i : Nat) (h : i < n) : (bitsOf x n)[i]? = some (x.testBit i) := by
  induction n generalizing x i with
  | zero => omega
  | succ n ih =>
    cases i with
    | zero => simp [bitsOf, Nat.testBit_zero]; rcases Nat.mod_two_eq_zero_or_one x with h | h <;> simp [h]
    | succ i => rw [bitsOf, List.getElem?_cons_succ, ih _ _ (by omega), Nat.testBit_succ]
theorem bitsOf_inj (x y n : Nat) (hx : x < 2 ^ n) (hy : y < 2 ^ n) (h : bitsOf x n = bitsOf y n) : x = y := by
  induction n generalizing x y with
  | zero => simp at hx hy; omega
  | succ n ih =>
    simp only [bitsOf, List.cons.injEq] at h
    have h2 := ih (x / 2) (y / 2) (by rw [Nat.pow_succ] at hx; omega) (by rw [Nat.pow_succ] at hy; omega) h.2
    have h1 : x % 2 = y % 2 := by
      have := h.1
      rcases Nat.mod_two_eq_zero_or_one x with h | h <;> rcases Nat.mod_two_eq_zero_or_one y with h' | h' <;> simp_all
    omega

/-- the bits of bytes -/
def toBits : List UInt8 → List Bool
  | [] => []
  | c :: l => bitsOf c.toNat 8 ++ toBits l
theorem toBits_length (l : List UInt8) : (toBits l).length = 8 * l.length := by
  induction l with
  | nil => rfl
  | cons c l ih => simp [toBits, bitsOf_length, ih]; omega
theorem toBits_append (a b : List UInt8) : toBits (a ++ b) = toBits a ++ toBits b := by
  induction a with
  | nil => rfl
  | cons c l ih => simp [toBits, ih]
theorem toBits_inj (a b : List UInt8) (h : toBits a = toBits b) : a = b := by
  have hl : a.length = b.length := by have := congrArg List.length h; rw [toBits_length, toBits_length] at this; omega
  induction a generalizing b with
  | nil => cases b <;> simp_all
  | cons c a ih =>
    cases b with
    | nil => simp at hl
    | cons d b =>
      simp only [toBits] at h
      have := List.append_inj h (by rw [bitsOf_length, bitsOf_length])
      have h1 := bitsOf_inj _ _ 8 c.toNat_lt d.toNat_lt this.1
      rw [UInt8.toNat_inj.1 h1, ih b this.2 (by simpa using hl)]
/-- up to a byte's end -/
def pad8 (bs : List Bool) : List Bool := bs ++ List.replicate ((8 - bs.length % 8) % 8) false
theorem toBits_snoc (l : List UInt8) (r h : Nat) (hr : r < 2 ^ h) (h8 : h < 8) (h0 : 0 < h) : toBits (l ++ [UInt8.ofNat r]) = pad8 (toBits l ++ bitsOf r h) := by
  have e : (UInt8.ofNat r).toNat = r := by
    have : r < 256 := Nat.lt_of_lt_of_le hr (Nat.pow_le_pow_right (n := 2) (j := 8) (by decide) (by omega))
    simp [UInt8.toNat_ofNat']; omega
  have hp := bitsOf_pad r h (8 - h) hr
  rw [show h + (8 - h) = 8 by omega] at hp
  rw [toBits_append, pad8]
  simp only [toBits, e, List.append_nil, List.append_assoc, hp, List.length_append, toBits_length, bitsOf_length]
  rw [show (8 - (8 * l.length + h) % 8) % 8 = 8 - h by omega]
theorem pad8_whole (l : List UInt8) : pad8 (toBits l) = toBits l := by
  unfold pad8; rw [toBits_length, show (8 - 8 * l.length % 8) % 8 = 0 by omega]; simp
end Go.Proofs.Ytejbgoepaleakaa
