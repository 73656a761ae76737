/-! Bits of bytes, as numbers: plain lemmas. -/
namespace Go.Proofs.Ytlnknnmlepgjfaa
set_option linter.unusedVariables false
set_option linter.unusedSimpArgs false

def byteAt (l : List UInt8) (i : Nat) : Nat := (l.getD i 0).toNat
theorem byteAt_lt (l : List UInt8) (i : Nat) : byteAt l i < 256 := (l.getD i 0).toNat_lt
theorem byteAt_ge (l : List UInt8) (i : Nat) (h : l.length ≤ i) : byteAt l i = 0 := by
  unfold byteAt; rw [List.getD_eq_getElem?_getD, List.getElem?_eq_none h]; rfl
def bitAt (l : List UInt8) (i : Nat) : Nat := byteAt l (i / 8) / 2 ^ (i % 8) % 2
theorem bitAt_lt (l : List UInt8) (i : Nat) : bitAt l i < 2 := Nat.mod_lt _ (by decide)
theorem bitAt_ge (l : List UInt8) (i : Nat) (h : 8 * l.length ≤ i) : bitAt l i = 0 := by
  unfold bitAt; rw [byteAt_ge l _ (by omega)]; simp
/-- n bits from a place on, the lowest first -/
def num (l : List UInt8) (p : Nat) : Nat → Nat
  | 0 => 0
  | n + 1 => num l (p + 1) n * 2 + bitAt l p
def dig (l : List UInt8) (i : Nat) : Bool := bitAt l i == 1
theorem num_bit (l : List UInt8) (p n i : Nat) : (num l p n).testBit i = (decide (i < n) && dig l (p + i)) := by
  induction n generalizing p i with
  | zero => simp [num]
  | succ n ih =>
    have hb := bitAt_lt l p
    cases i with
    | zero =>
      have : bitAt l p = 0 ∨ bitAt l p = 1 := by omega
      rw [num, Nat.testBit_zero, show (num l (p + 1) n * 2 + bitAt l p) % 2 = bitAt l p by omega]
      rcases this with h | h <;> simp [dig, h]
    | succ i =>
      rw [num, Nat.testBit_succ, show (num l (p + 1) n * 2 + bitAt l p) / 2 = num l (p + 1) n by omega, ih]
      rw [show p + 1 + i = p + (i + 1) by omega]
      simp
theorem num_lt (l : List UInt8) (p n : Nat) : num l p n < 2 ^ n := by
  induction n generalizing p with
  | zero => simp [num]
  | succ n ih => have := ih (p + 1); have := bitAt_lt l p; rw [num, Nat.pow_succ]; omega
theorem num_add (l : List UInt8) (p a b : Nat) : num l p (a + b) = num l p a + 2 ^ a * num l (p + a) b := by
  induction a generalizing p with
  | zero => simp [num]
  | succ a ih =>
    rw [show a + 1 + b = (a + b) + 1 by omega, num, ih, num, Nat.pow_succ, show p + 1 + a = p + (a + 1) by omega]
    generalize num l (p + (a + 1)) b = q
    rw [Nat.mul_right_comm]; omega
theorem num_end (l : List UInt8) (p n : Nat) (h : 8 * l.length ≤ p) : num l p n = 0 := by
  induction n generalizing p with
  | zero => rfl
  | succ n ih => rw [num, ih (p + 1) (by omega), bitAt_ge l p h]
theorem bits8 (c : Nat) (hc : c < 256) : c = c / 1 % 2 + 2 * (c / 2 % 2) + 4 * (c / 4 % 2) + 8 * (c / 8 % 2) + 16 * (c / 16 % 2) + 32 * (c / 32 % 2) + 64 * (c / 64 % 2) + 128 * (c / 128 % 2) := by omega
theorem bitAt_byte (l : List UInt8) (p k : Nat) (hk : k < 8) : bitAt l (8 * p + k) = byteAt l p / 2 ^ k % 2 := by
  unfold bitAt; rw [show (8 * p + k) / 8 = p by omega, show (8 * p + k) % 8 = k by omega]
theorem num_byte (l : List UInt8) (p : Nat) : num l (8 * p) 8 = byteAt l p := by
  have h := bits8 (byteAt l p) (byteAt_lt l p)
  have h0 := bitAt_byte l p 0 (by omega)
  have h1 := bitAt_byte l p 1 (by omega)
  have h2 := bitAt_byte l p 2 (by omega)
  have h3 := bitAt_byte l p 3 (by omega)
  have h4 := bitAt_byte l p 4 (by omega)
  have h5 := bitAt_byte l p 5 (by omega)
  have h6 := bitAt_byte l p 6 (by omega)
  have h7 := bitAt_byte l p 7 (by omega)
  simp only [num, Nat.add_zero, Nat.add_assoc] at *
  simp only [Nat.reducePow, Nat.reduceAdd] at *
  rw [h0, h1, h2, h3, h4, h5, h6, h7]
  omega
theorem num_bytes (l : List UInt8) (p k : Nat) : num l (8 * p) (8 * (k + 1)) = num l (8 * p) (8 * k) + 2 ^ (8 * k) * byteAt l (p + k) := by
  rw [show 8 * (k + 1) = 8 * k + 8 by omega, num_add, show 8 * p + 8 * k = 8 * (p + k) by omega, num_byte]
/-- what is beyond the end adds nothing -/
theorem num_all (l : List UInt8) (p n m : Nat) (h : 8 * l.length ≤ p + n) (hm : n ≤ m) : num l p m = num l p n := by
  obtain ⟨k, rfl⟩ : ∃ k, m = n + k := ⟨m - n, by omega⟩
  rw [num_add, num_end l (p + n) k h]; simp
theorem num_mod (l : List UInt8) (p a n : Nat) (h : n ≤ a) : num l p a % 2 ^ n = num l p n := by
  obtain ⟨k, rfl⟩ : ∃ k, a = n + k := ⟨a - n, by omega⟩
  rw [num_add, Nat.add_mul_mod_self_left, Nat.mod_eq_of_lt (num_lt l p n)]
theorem num_div (l : List UInt8) (p a n : Nat) (h : n ≤ a) : num l p a / 2 ^ n = num l (p + n) (a - n) := by
  obtain ⟨k, rfl⟩ : ∃ k, a = n + k := ⟨a - n, by omega⟩
  rw [num_add, Nat.add_mul_div_left _ _ (Nat.two_pow_pos n), Nat.div_eq_of_lt (num_lt l p n)]
  simp
theorem num_cut (l : List UInt8) (p a n m : Nat) (h : m + n ≤ a) : num l p a / 2 ^ m % 2 ^ n = num l (p + m) n := by
  rw [num_div l p a m (by omega), num_mod l (p + m) (a - m) n (by omega)]
end Go.Proofs.Ytlnknnmlepgjfaa
