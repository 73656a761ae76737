/- Texts put together: HstMath FolMath BitWrMath FolBits BitMath BitBackMath HstMath2 -/

/- Numbers of layer 7: bytes told out of those that were told. -/
namespace Go.Proofs.Yteahcpkaagjkkaa
set_option linter.unusedVariables false
set_option linter.unusedSimpArgs false

/-- the byte that stands d back -/
def back1 (b : List UInt8) (d : Nat) : UInt8 := if d ≤ b.length then b.getD (b.length - d) 0 else 0
/-- n bytes more, one by one, each the byte that stands d back then -/
def cpy (b : List UInt8) (d : Nat) : Nat → List UInt8
  | 0 => b
  | n + 1 => cpy b d n ++ [back1 (cpy b d n) d]
theorem cpy_len (b : List UInt8) (d n : Nat) : (cpy b d n).length = b.length + n := by
  induction n with
  | zero => rfl
  | succ n ih => rw [cpy, List.length_append, ih]; rfl
theorem cpy_add (b : List UInt8) (d n m : Nat) : cpy b d (n + m) = cpy (cpy b d n) d m := by
  induction m with
  | zero => rfl
  | succ m ih => rw [← Nat.add_assoc, cpy, ih, cpy]
theorem cpy_pre (b : List UInt8) (d n i : Nat) (h : i < b.length) : (cpy b d n)[i]? = b[i]? := by
  induction n with
  | zero => rfl
  | succ n ih => rw [cpy, List.getElem?_append_left (by rw [cpy_len]; omega), ih]
theorem cpy_take (b : List UInt8) (d n : Nat) : (cpy b d n).take b.length = b := by
  induction n with
  | zero => exact List.take_length
  | succ n ih => rw [cpy, List.take_append_of_le_length (by rw [cpy_len]; omega), ih]
theorem back1_get (b : List UInt8) (d : Nat) (h1 : 1 ≤ d) (h2 : d ≤ b.length) : b[b.length - d]? = some (back1 b d) := by
  unfold back1
  rw [if_pos h2, List.getD_eq_getElem?_getD, List.getElem?_eq_getElem (by omega)]; rfl
/-- a copy is a distance over and over -/
theorem cpy_over (b : List UInt8) (d n i : Nat) (h1 : 1 ≤ d) (h2 : d ≤ b.length) (hi : i < n) : (cpy b d n)[b.length + i]? = b[b.length - d + i % d]? := by
  induction n generalizing i with
  | zero => omega
  | succ n ih =>
    rw [cpy]
    by_cases e : i < n
    · rw [List.getElem?_append_left (by rw [cpy_len]; omega), ih i e]
    · obtain rfl : i = n := by omega
      rw [List.getElem?_append_right (by rw [cpy_len]; omega), cpy_len, Nat.sub_self]
      show some (back1 (cpy b d i) d) = _
      rw [← back1_get (cpy b d i) d h1 (by rw [cpy_len]; omega), cpy_len]
      by_cases hd : d ≤ i
      · rw [show b.length + i - d = b.length + (i - d) by omega, ih (i - d) (by omega)]
        congr 2
        exact (Nat.mod_eq_sub_mod hd).symm
      · rw [Nat.mod_eq_of_lt (by omega), show b.length + i - d = b.length - d + i by omega]
        exact cpy_pre b d i _ (by omega)
/-- an output: its window, how many bytes it may have, whether noughts stand ahead, its bytes -/
structure HS where
  win : Nat
  most : Nat
  nou : Bool
  b : List UInt8
def HS.lit (s : HS) (c : UInt8) : Nat × HS := if s.most ≤ s.b.length then (9, s) else (0, { s with b := s.b ++ [c] })
def HS.copy (s : HS) (d n : Int) : Nat × HS :=
  if d < 1 ∨ n < 0 then (2, s)
  else if (s.win : Int) < d ∨ ((s.b.length : Int) < d ∧ s.nou = false) then (8, s)
  else if (s.most : Int) - s.b.length < n then (9, s)
  else (0, { s with b := cpy s.b d.toNat n.toNat })
theorem HS.lit_len (s : HS) (c : UInt8) (h : s.b.length ≤ s.most) : (s.lit c).2.b.length ≤ s.most ∧ (s.lit c).2.win = s.win ∧ (s.lit c).2.most = s.most ∧ (s.lit c).2.nou = s.nou ∧ (s.lit c).2.b.length ≤ s.b.length + 1 ∧ (s.lit c).2.b.take s.b.length = s.b := by
  unfold HS.lit
  by_cases e : s.most ≤ s.b.length
  · rw [if_pos e]; exact ⟨h, rfl, rfl, rfl, by dsimp only; omega, List.take_length⟩
  · rw [if_neg e]; exact ⟨by simp; omega, rfl, rfl, rfl, by simp, by simp⟩
theorem HS.copy_len (s : HS) (d n : Int) (h : s.b.length ≤ s.most) : (s.copy d n).2.b.length ≤ s.most ∧ (s.copy d n).2.win = s.win ∧ (s.copy d n).2.most = s.most ∧ (s.copy d n).2.nou = s.nou ∧ ((s.copy d n).2.b.length : Int) ≤ s.b.length + max 0 n ∧ (s.copy d n).2.b.take s.b.length = s.b := by
  unfold HS.copy
  by_cases e1 : d < 1 ∨ n < 0
  · rw [if_pos e1]; exact ⟨h, rfl, rfl, rfl, by dsimp only; omega, List.take_length⟩
  rw [if_neg e1]
  by_cases e2 : (s.win : Int) < d ∨ ((s.b.length : Int) < d ∧ s.nou = false)
  · rw [if_pos e2]; exact ⟨h, rfl, rfl, rfl, by dsimp only; omega, List.take_length⟩
  rw [if_neg e2]
  by_cases e3 : (s.most : Int) - s.b.length < n
  · rw [if_pos e3]; exact ⟨h, rfl, rfl, rfl, by dsimp only; omega, List.take_length⟩
  rw [if_neg e3]
  refine ⟨by simp only [cpy_len]; omega, rfl, rfl, rfl, by simp only [cpy_len]; omega, cpy_take _ _ _⟩
end Go.Proofs.Yteahcpkaagjkkaa
/- Numbers of layer 12: followers, and their bits. -/
namespace Go.Proofs.Yteahcpkaagjkkaa
set_option linter.unusedVariables false
set_option linter.unusedSimpArgs false

/-- a sum -/
def sm (f : Nat → Nat) : Nat → Nat
  | 0 => 0
  | m + 1 => sm f m + f m
theorem sm_add (f g : Nat → Nat) (m : Nat) : sm (fun i => f i + g i) m = sm f m + sm g m := by
  induction m with
  | zero => rfl
  | succ m ih => simp only [sm, ih]; omega
theorem sm_le (f g : Nat → Nat) (m : Nat) (h : ∀ i, i < m → f i ≤ g i) : sm f m ≤ sm g m := by
  induction m with
  | zero => exact Nat.le_refl _
  | succ m ih => have := ih fun i hi => h i (by omega); have := h m (by omega); simp only [sm]; omega
theorem sm_eq (f g : Nat → Nat) (m : Nat) (h : ∀ i, i < m → f i = g i) : sm f m = sm g m := by
  induction m with
  | zero => rfl
  | succ m ih => simp only [sm]; rw [ih fun i hi => h i (by omega), h m (by omega)]
theorem sm_zero (m : Nat) : sm (fun _ => 0) m = 0 := by
  induction m with
  | zero => rfl
  | succ m ih => simp only [sm, ih]
theorem sm_one (f : Nat → Nat) (a m : Nat) (h : a < m) (h0 : ∀ i, i ≠ a → f i = 0) : sm f m = f a := by
  induction m with
  | zero => omega
  | succ m ih =>
    simp only [sm]
    by_cases e : a = m
    · subst e
      rw [sm_eq f (fun _ => 0) a (fun i hi => h0 i (by omega)), sm_zero]; omega
    · rw [ih (by omega), h0 m (by omega)]; rfl
theorem sm_const (k m : Nat) : sm (fun _ => k) m = k * m := by
  induction m with
  | zero => rfl
  | succ m ih => simp only [sm, ih]; rw [Nat.mul_succ]
/-- how often x stands just behind c, ahead of the text a byte p -/
def cnB : UInt8 → List UInt8 → Nat → Nat → Nat
  | _, [], _, _ => 0
  | p, a :: t, c, x => (if p.toNat = c ∧ a.toNat = x then 1 else 0) + cnB a t c x
theorem cnB_le (p : UInt8) (b : List UInt8) (c x : Nat) : cnB p b c x ≤ b.length := by
  induction b generalizing p with
  | nil => exact Nat.le_refl _
  | cons a t ih => have := ih a; simp only [cnB, List.length_cons]; split <;> omega
def widthN (n : Nat) : Nat := if n < 1 ∨ 32 < n then 0 else if n ≤ 2 then 1 else if n ≤ 4 then 2 else if n ≤ 8 then 3 else if n ≤ 16 then 4 else 5
theorem widthN_le (n : Nat) : widthN n ≤ 5 := by
  unfold widthN
  repeat' split
  all_goals omega
theorem widthN_of (n k : Nat) (h1 : 1 ≤ n) (h2 : n ≤ 32) (hk : 1 ≤ k) (hk5 : k ≤ 5) (ha : n ≤ 2 ^ k) (hb : k = 1 ∨ 2 ^ (k - 1) < n) : widthN n = k := by
  have h : k = 1 ∨ k = 2 ∨ k = 3 ∨ k = 4 ∨ k = 5 := by omega
  unfold widthN
  rcases h with rfl | rfl | rfl | rfl | rfl <;> simp at ha hb <;> (repeat' split) <;> omega
def inL (l : List UInt8) (c : Nat) : Bool := l.any fun x => x.toNat == c
theorem inL_mem (l : List UInt8) (c : UInt8) : inL l c.toNat = decide (c ∈ l) := by
  unfold inL
  rw [Bool.eq_iff_iff, decide_eq_true_eq, List.any_eq_true]
  constructor
  · rintro ⟨x, h1, h2⟩
    have : x = c := UInt8.toNat_inj.1 (by simpa using h2)
    exact this ▸ h1
  · intro h; exact ⟨c, h, by simp⟩
/-- the first place of a byte -/
def atU (l : List UInt8) (c : UInt8) : Int := match l.findIdx? (· == c) with | some i => (i : Int) | none => -1
theorem atU_in (l : List UInt8) (c : UInt8) : (0 ≤ atU l c) ↔ c ∈ l := by
  unfold atU
  cases e : l.findIdx? (· == c) with
  | none =>
    rw [List.findIdx?_eq_none_iff] at e
    constructor
    · intro h; exact absurd h (by decide)
    · intro h; have := e c h; simp at this
  | some i =>
    constructor
    · intro _
      rw [List.findIdx?_eq_some_iff_getElem] at e
      obtain ⟨h, h1, _⟩ := e
      have : l[i] = c := by simpa using h1
      rw [← this]; exact List.getElem_mem h
    · intro _; exact Int.natCast_nonneg i
/-- bits of a byte behind one that has the followers l -/
def pl (l : List UInt8) (x : Nat) : Nat := if l.length = 0 then 8 else if inL l x then 1 + widthN l.length else 9
theorem pl_le (l : List UInt8) (x : Nat) : pl l x ≤ 9 := by
  unfold pl
  have := widthN_le l.length
  repeat' split
  all_goals omega
/-- bits of followers, and of what stands behind -/
def cst (n : Nat → Nat) (l : List UInt8) : Nat → Nat
  | 0 => 8 * l.length
  | m + 1 => cst n l m + n m * pl l m
theorem cst_sm (n : Nat → Nat) (l : List UInt8) (m : Nat) : cst n l m = 8 * l.length + sm (fun x => n x * pl l x) m := by
  induction m with
  | zero => rfl
  | succ m ih => simp only [cst, sm, ih]; omega
theorem cst_le (n : Nat → Nat) (l : List UInt8) (N m : Nat) (h : ∀ x, n x ≤ N) : cst n l m ≤ 8 * l.length + 9 * N * m := by
  rw [cst_sm, ← sm_const (9 * N) m]
  have := sm_le (fun x => n x * pl l x) (fun _ => 9 * N) m (fun i _ => by
    have h1 := h i; have h2 := pl_le l i
    calc n i * pl l i ≤ N * 9 := Nat.mul_le_mul h1 h2
      _ = 9 * N := Nat.mul_comm _ _)
  omega
/-- the first of the bytes below m that stand there most often, but those of l -/
def bk (n : Nat → Nat) (l : List UInt8) : Nat → Int
  | 0 => -1
  | m + 1 => if 0 < n m ∧ inL l m = false ∧ (bk n l m < 0 ∨ n (bk n l m).toNat < n m) then (m : Int) else bk n l m
theorem bk_range (n : Nat → Nat) (l : List UInt8) (m : Nat) : -1 ≤ bk n l m ∧ bk n l m < m := by
  induction m with
  | zero => simp [bk]
  | succ m ih => simp only [bk]; split <;> omega
def topF (n : Nat → Nat) : Nat → List UInt8
  | 0 => []
  | i + 1 => if 0 ≤ bk n (topF n i) 256 then topF n i ++ [UInt8.ofNat (bk n (topF n i) 256).toNat] else topF n i
theorem topF_len (n : Nat → Nat) (i : Nat) : (topF n i).length ≤ i := by
  induction i with
  | zero => exact Nat.le_refl _
  | succ i ih =>
    simp only [topF]
    split
    · rw [List.length_append]; simp; omega
    · omega
/-- how many of l are best -/
def bl (n : Nat → Nat) (l : List UInt8) : Nat → Nat
  | 0 => 0
  | i + 1 => if cst n (l.take (i + 1)) 256 < cst n (l.take (bl n l i)) 256 then i + 1 else bl n l i
theorem bl_le (n : Nat → Nat) (l : List UInt8) (i : Nat) : bl n l i ≤ i := by
  induction i with
  | zero => exact Nat.le_refl _
  | succ i ih => simp only [bl]; split <;> omega
theorem bl_cost (n : Nat → Nat) (l : List UInt8) (i : Nat) : cst n (l.take (bl n l i)) 256 ≤ cst n [] 256 := by
  induction i with
  | zero => simp [bl]
  | succ i ih => simp only [bl]; split <;> omega
def oneN (n : Nat → Nat) : List UInt8 := (topF n 32).take (bl n (topF n 32) (topF n 32).length)
theorem oneN_len (n : Nat → Nat) : (oneN n).length ≤ 32 := by
  have := topF_len n 32
  unfold oneN; rw [List.length_take]; omega
theorem oneN_cost (n : Nat → Nat) : cst n (oneN n) 256 ≤ cst n [] 256 := bl_cost n _ _
theorem bk_none (n : Nat → Nat) (l : List UInt8) (h : ∀ x, n x = 0) (m : Nat) : bk n l m = -1 := by
  induction m with
  | zero => rfl
  | succ m ih => simp only [bk]; rw [if_neg (by rw [h m]; omega), ih]
theorem oneN_none (n : Nat → Nat) (h : ∀ x, n x = 0) : oneN n = [] := by
  have : ∀ i, topF n i = [] := by
    intro i
    induction i with
    | zero => rfl
    | succ i ih => simp only [topF, ih]; rw [bk_none n _ h, if_neg (by decide)]
  unfold oneN; rw [this]; rfl
/-- the best followers of c -/
def one12 (b : List UInt8) (c : Nat) : List UInt8 := oneN (cnB 0 b c)
theorem cnB_zero (p : UInt8) (b : List UInt8) (c : Nat) (hp : p.toNat ≠ c) (h : ∀ a ∈ b, a.toNat ≠ c) (x : Nat) : cnB p b c x = 0 := by
  induction b generalizing p with
  | nil => rfl
  | cons a t ih =>
    simp only [cnB]
    rw [if_neg (fun e => hp e.1), ih a (h a (by simp)) (fun z hz => h z (by simp [hz]))]
theorem one12_none (b : List UInt8) (c : Nat) (h0 : c ≠ 0) (h : ∀ a ∈ b, a.toNat ≠ c) : one12 b c = [] :=
  oneN_none _ fun x => cnB_zero 0 b c (by simpa using h0.symm) h x
/-- bits of a text by the sets s, ahead of it a byte p -/
def tl (s : Nat → List UInt8) : UInt8 → List UInt8 → Nat
  | _, [] => 0
  | p, a :: t => pl (s p.toNat) a.toNat + tl s a t
theorem tl_sum (s : Nat → List UInt8) (p : UInt8) (b : List UInt8) : sm (fun c => sm (fun x => cnB p b c x * pl (s c) x) 256) 256 = tl s p b := by
  induction b generalizing p with
  | nil =>
    rw [sm_eq _ (fun _ => 0) 256 (fun c _ => ?_), sm_zero]; rfl
    rw [sm_eq _ (fun _ => 0) 256 (fun x _ => by simp [cnB]), sm_zero]
  | cons a t ih =>
    have hp := p.toNat_lt
    have ha := a.toNat_lt
    rw [sm_eq _ (fun c => sm (fun x => (if p.toNat = c ∧ a.toNat = x then 1 else 0) * pl (s c) x) 256 + sm (fun x => cnB a t c x * pl (s c) x) 256) 256 (fun c _ => by
      rw [← sm_add]; exact sm_eq _ _ _ fun x _ => by simp only [cnB]; rw [Nat.add_mul]), sm_add, ih a]
    simp only [tl]
    congr 1
    rw [sm_one _ p.toNat 256 (by simpa using hp) (fun c hc => by
      rw [sm_eq _ (fun _ => 0) 256 (fun x _ => by rw [if_neg (fun e => hc e.1.symm), Nat.zero_mul]), sm_zero])]
    rw [sm_one _ a.toNat 256 (by simpa using ha) (fun x hx => by rw [if_neg (fun e => hx e.2.symm), Nat.zero_mul]), if_pos ⟨rfl, rfl⟩, Nat.one_mul]
theorem tl_none (p : UInt8) (b : List UInt8) : tl (fun _ => []) p b = 8 * b.length := by
  induction b generalizing p with
  | nil => rfl
  | cons a t ih => simp only [tl, ih, List.length_cons]; unfold pl; simp; omega
/-- by the best sets no text has more bits -/
theorem best_fewer (b : List UInt8) : sm (fun c => 8 * (one12 b c).length) 256 + tl (one12 b) 0 b ≤ 8 * b.length := by
  rw [← tl_none 0 b, ← tl_sum, ← tl_sum, ← sm_add]
  refine sm_le _ _ _ fun c _ => ?_
  have h := oneN_cost (cnB 0 b c)
  rw [cst_sm, cst_sm] at h
  change 8 * (one12 b c).length + sm (fun x => cnB 0 b c x * pl (one12 b c) x) 256 ≤ _ at h
  simpa using h
end Go.Proofs.Yteahcpkaagjkkaa
/-! Rows of bits, as lists: plain lemmas. -/
namespace Go.Proofs.Yteahcpkaagjkkaa
set_option linter.unusedVariables false
set_option linter.unusedSimpArgs false

/-- the lowest n bits of x, the lowest first -/
def bitsOf (x : Nat) : Nat → List Bool
  | 0 => []
  | n + 1 => (x % 2 == 1) :: bitsOf (x / 2) n
theorem bitsOf_length (x n : Nat) : (bitsOf x n).length = n := by induction n generalizing x <;> simp_all [bitsOf]
theorem bitsOf_add (x a b : Nat) : bitsOf x (a + b) = bitsOf x a ++ bitsOf (x / 2 ^ a) b := by
  induction a generalizing x with
  | zero => simp [bitsOf]
  | succ a ih => rw [show a + 1 + b = (a + b) + 1 by omega, bitsOf, ih, bitsOf, Nat.pow_succ, Nat.mul_comm, ← Nat.div_div_eq_div_mul]; rfl
theorem bitsOf_mod (x a : Nat) : bitsOf (x % 2 ^ a) a = bitsOf x a := by
  induction a generalizing x with
  | zero => rfl
  | succ a ih =>
    rw [bitsOf, bitsOf, Nat.pow_succ, Nat.mul_comm, show x % (2 * 2 ^ a) % 2 = x % 2 by rw [Nat.mod_mul_right_mod], Nat.mod_mul_right_div_self, ih]
theorem bitsOf_shift (a y h m : Nat) (ha : a < 2 ^ h) : bitsOf (a + y * 2 ^ h) (h + m) = bitsOf a h ++ bitsOf y m := by
  rw [bitsOf_add]
  congr 1
  · rw [← bitsOf_mod, Nat.add_mul_mod_self_right, Nat.mod_eq_of_lt ha]
  · rw [Nat.add_mul_div_right _ _ (Nat.two_pow_pos h), Nat.div_eq_of_lt ha, Nat.zero_add]
theorem bitsOf_zero (n : Nat) : bitsOf 0 n = List.replicate n false := by
  induction n with
  | zero => rfl
  | succ n ih => rw [bitsOf, Nat.zero_div, ih]; rfl
theorem bitsOf_pad (x a b : Nat) (h : x < 2 ^ a) : bitsOf x (a + b) = bitsOf x a ++ List.replicate b false := by
  rw [bitsOf_add, Nat.div_eq_of_lt h, bitsOf_zero]
theorem bitsOf_get (x n i : Nat) (h : i < n) : (bitsOf x n)[i]? = some (x.testBit i) := by
  induction n generalizing x i with
  | zero => omega
  | succ n ih =>
    cases i with
    | zero => simp [bitsOf, Nat.testBit_zero]; rcases Nat.mod_two_eq_zero_or_one x with h | h <;> simp [h]
    | succ i => rw [bitsOf, List.getElem?_cons_succ, ih _ _ (by omega), Nat.testBit_succ]
theorem bitsOf_inj (x y n : Nat) (hx : x < 2 ^ n) (hy : y < 2 ^ n) (h : bitsOf x n = bitsOf y n) : x = y := by
  induction n generalizing x y with
  | zero => simp at hx hy; omega
  | succ n ih =>
    simp only [bitsOf, List.cons.injEq] at h
    have h2 := ih (x / 2) (y / 2) (by rw [Nat.pow_succ] at hx; omega) (by rw [Nat.pow_succ] at hy; omega) h.2
    have h1 : x % 2 = y % 2 := by
      have := h.1
      rcases Nat.mod_two_eq_zero_or_one x with h | h <;> rcases Nat.mod_two_eq_zero_or_one y with h' | h' <;> simp_all
    omega

/-- the bits of bytes -/
def toBits : List UInt8 → List Bool
  | [] => []
  | c :: l => bitsOf c.toNat 8 ++ toBits l
theorem toBits_length (l : List UInt8) : (toBits l).length = 8 * l.length := by
  induction l with
  | nil => rfl
  | cons c l ih => simp [toBits, bitsOf_length, ih]; omega
theorem toBits_append (a b : List UInt8) : toBits (a ++ b) = toBits a ++ toBits b := by
  induction a with
  | nil => rfl
  | cons c l ih => simp [toBits, ih]
theorem toBits_inj (a b : List UInt8) (h : toBits a = toBits b) : a = b := by
  have hl : a.length = b.length := by have := congrArg List.length h; rw [toBits_length, toBits_length] at this; omega
  induction a generalizing b with
  | nil => cases b <;> simp_all
  | cons c a ih =>
    cases b with
    | nil => simp at hl
    | cons d b =>
      simp only [toBits] at h
      have := List.append_inj h (by rw [bitsOf_length, bitsOf_length])
      have h1 := bitsOf_inj _ _ 8 c.toNat_lt d.toNat_lt this.1
      rw [UInt8.toNat_inj.1 h1, ih b this.2 (by simpa using hl)]
/-- up to a byte's end -/
def pad8 (bs : List Bool) : List Bool := bs ++ List.replicate ((8 - bs.length % 8) % 8) false
theorem toBits_snoc (l : List UInt8) (r h : Nat) (hr : r < 2 ^ h) (h8 : h < 8) (h0 : 0 < h) : toBits (l ++ [UInt8.ofNat r]) = pad8 (toBits l ++ bitsOf r h) := by
  have e : (UInt8.ofNat r).toNat = r := by
    have : r < 256 := Nat.lt_of_lt_of_le hr (Nat.pow_le_pow_right (n := 2) (j := 8) (by decide) (by omega))
    simp [UInt8.toNat_ofNat']; omega
  have hp := bitsOf_pad r h (8 - h) hr
  rw [show h + (8 - h) = 8 by omega] at hp
  rw [toBits_append, pad8]
  simp only [toBits, e, List.append_nil, List.append_assoc, hp, List.length_append, toBits_length, bitsOf_length]
  rw [show (8 - (8 * l.length + h) % 8) % 8 = 8 - h by omega]
theorem pad8_whole (l : List UInt8) : pad8 (toBits l) = toBits l := by
  unfold pad8; rw [toBits_length, show (8 - 8 * l.length % 8) % 8 = 0 by omega]; simp
/-- m bits from a place on as a number; noughts behind the end -/
def nb (bs : List Bool) (p : Nat) : Nat := if bs.getD p false then 1 else 0
def nv (bs : List Bool) (p : Nat) : Nat → Nat
  | 0 => 0
  | m + 1 => nv bs (p + 1) m * 2 + nb bs p
theorem nb_lt (bs : List Bool) (p : Nat) : nb bs p < 2 := by unfold nb; split <;> omega
theorem nv_lt (bs : List Bool) (p m : Nat) : nv bs p m < 2 ^ m := by
  induction m generalizing p with
  | zero => simp [nv]
  | succ m ih => have := ih (p + 1); have := nb_lt bs p; rw [nv, Nat.pow_succ]; omega
theorem nv_bits (bs : List Bool) (p m : Nat) : bitsOf (nv bs p m) m = (List.range m).map fun i => bs.getD (p + i) false := by
  induction m generalizing p with
  | zero => rfl
  | succ m ih =>
    have h := nb_lt bs p
    rw [nv, bitsOf, show (nv bs (p + 1) m * 2 + nb bs p) % 2 = nb bs p by omega, show (nv bs (p + 1) m * 2 + nb bs p) / 2 = nv bs (p + 1) m by omega, ih, List.range_succ_eq_map]
    simp only [List.map_cons, List.map_map, Nat.add_zero]
    congr 1
    · unfold nb; cases bs.getD p false <;> rfl
    · apply List.map_congr_left
      intro i _
      simp only [Function.comp]
      congr 1; omega
theorem pad8_length (bs : List Bool) : (pad8 bs).length = (bs.length + 7) / 8 * 8 := by simp [pad8]; omega
theorem pad8_get (bs : List Bool) (i : Nat) (h : i < (pad8 bs).length) : (pad8 bs)[i]? = some (bs.getD i false) := by
  rw [pad8_length] at h
  unfold pad8
  by_cases hi : i < bs.length
  · rw [List.getElem?_append_left hi, List.getD_eq_getElem?_getD, List.getElem?_eq_getElem hi]; rfl
  · rw [List.getElem?_append_right (by omega), List.getElem?_replicate, if_pos (by omega), List.getD_eq_getElem?_getD, List.getElem?_eq_none (by omega)]; rfl
theorem pad8_seg (bs : List Bool) (j : Nat) (h : 8 * j < bs.length) : (pad8 bs).take (8 * (j + 1)) = (pad8 bs).take (8 * j) ++ bitsOf (nv bs (8 * j) 8) 8 := by
  have hl := pad8_length bs
  rw [show 8 * (j + 1) = 8 * j + 8 by omega, List.take_add]
  congr 1
  rw [nv_bits]
  apply List.ext_getElem?
  intro i
  by_cases hi : i < 8
  · rw [List.getElem?_take_of_lt hi, List.getElem?_drop, pad8_get _ _ (by omega)]
    simp [hi]
  · rw [List.getElem?_eq_none (by simp; omega), List.getElem?_eq_none (by simp; omega)]
theorem toBits_one (x : Nat) (h : x < 256) : toBits [UInt8.ofNat x] = bitsOf x 8 := by
  simp only [toBits, List.append_nil]
  congr 1
  simp [UInt8.toNat_ofNat']; omega
end Go.Proofs.Yteahcpkaagjkkaa
namespace Go.Proofs.Yteahcpkaagjkkaa
set_option linter.unusedVariables false
set_option linter.unusedSimpArgs false

/-- the bits of a byte c behind one that has the followers l -/
def fput (l : List UInt8) (c : UInt8) : List Bool :=
  if (l.take 32).length = 0 then bitsOf c.toNat 8
  else if 0 ≤ atU (l.take 32) c then bitsOf 0 1 ++ bitsOf (atU (l.take 32) c).toNat (widthN (l.take 32).length)
  else bitsOf 1 1 ++ bitsOf c.toNat 8
/-- the bits of the followers of the bytes below m, the greatest byte first -/
def fss (s : Nat → List UInt8) : Nat → List Bool
  | 0 => []
  | m + 1 => bitsOf ((s m).take 32).length 6 ++ ((s m).take 32).flatMap (fun x => bitsOf x.toNat 8) ++ fss s m
theorem fput_len (l : List UInt8) (c : UInt8) (h : l.length ≤ 32) : (fput l c).length = pl l c.toNat := by
  unfold fput pl
  rw [List.take_of_length_le h]
  by_cases h0 : l.length = 0
  · rw [if_pos h0, if_pos h0, bitsOf_length]
  · rw [if_neg h0, if_neg h0, inL_mem]
    by_cases hi : 0 ≤ atU l c
    · rw [if_pos hi, if_pos (by rw [decide_eq_true_eq]; exact (atU_in l c).1 hi), List.length_append, bitsOf_length, bitsOf_length]
    · rw [if_neg hi, if_neg (by rw [decide_eq_true_eq]; exact fun h => hi ((atU_in l c).2 h)), List.length_append, bitsOf_length, bitsOf_length]
theorem fput_le (l : List UInt8) (c : UInt8) : (fput l c).length ≤ 9 := by
  have hw := widthN_le (l.take 32).length
  unfold fput
  split
  · rw [bitsOf_length]; omega
  · split
    · rw [List.length_append, bitsOf_length, bitsOf_length]; omega
    · rw [List.length_append, bitsOf_length, bitsOf_length]; omega
theorem flat8_len (l : List UInt8) : (l.flatMap (fun x => bitsOf x.toNat 8)).length = 8 * l.length := by
  induction l with
  | nil => rfl
  | cons a t ih => rw [List.flatMap_cons, List.length_append, ih, bitsOf_length, List.length_cons]; omega
theorem fss_len (s : Nat → List UInt8) (m : Nat) (h : ∀ c, (s c).length ≤ 32) : (fss s m).length = 6 * m + sm (fun c => 8 * (s c).length) m := by
  induction m with
  | zero => rfl
  | succ m ih =>
    rw [fss, List.length_append, List.length_append, bitsOf_length, ih, flat8_len, List.take_of_length_le (h m)]
    simp only [sm]; omega
theorem fss_le (s : Nat → List UInt8) (m : Nat) : (fss s m).length ≤ 262 * m := by
  induction m with
  | zero => exact Nat.le_refl _
  | succ m ih =>
    rw [fss, List.length_append, List.length_append, bitsOf_length, flat8_len]
    have : ((s m).take 32).length ≤ 32 := by rw [List.length_take]; omega
    omega
theorem one12_len (b : List UInt8) (c : Nat) : (one12 b c).length ≤ 32 := oneN_len _
end Go.Proofs.Yteahcpkaagjkkaa
/-! Bits of bytes, as numbers: plain lemmas. -/
namespace Go.Proofs.Yteahcpkaagjkkaa
set_option linter.unusedVariables false
set_option linter.unusedSimpArgs false

def byteAt (l : List UInt8) (i : Nat) : Nat := (l.getD i 0).toNat
theorem byteAt_lt (l : List UInt8) (i : Nat) : byteAt l i < 256 := (l.getD i 0).toNat_lt
theorem byteAt_ge (l : List UInt8) (i : Nat) (h : l.length ≤ i) : byteAt l i = 0 := by
  unfold byteAt; rw [List.getD_eq_getElem?_getD, List.getElem?_eq_none h]; rfl
def bitAt (l : List UInt8) (i : Nat) : Nat := byteAt l (i / 8) / 2 ^ (i % 8) % 2
theorem bitAt_lt (l : List UInt8) (i : Nat) : bitAt l i < 2 := Nat.mod_lt _ (by decide)
theorem bitAt_ge (l : List UInt8) (i : Nat) (h : 8 * l.length ≤ i) : bitAt l i = 0 := by
  unfold bitAt; rw [byteAt_ge l _ (by omega)]; simp
/-- n bits from a place on, the lowest first -/
def num (l : List UInt8) (p : Nat) : Nat → Nat
  | 0 => 0
  | n + 1 => num l (p + 1) n * 2 + bitAt l p
def dig (l : List UInt8) (i : Nat) : Bool := bitAt l i == 1
theorem num_bit (l : List UInt8) (p n i : Nat) : (num l p n).testBit i = (decide (i < n) && dig l (p + i)) := by
  induction n generalizing p i with
  | zero => simp [num]
  | succ n ih =>
    have hb := bitAt_lt l p
    cases i with
    | zero =>
      have : bitAt l p = 0 ∨ bitAt l p = 1 := by omega
      rw [num, Nat.testBit_zero, show (num l (p + 1) n * 2 + bitAt l p) % 2 = bitAt l p by omega]
      rcases this with h | h <;> simp [dig, h]
    | succ i =>
      rw [num, Nat.testBit_succ, show (num l (p + 1) n * 2 + bitAt l p) / 2 = num l (p + 1) n by omega, ih]
      rw [show p + 1 + i = p + (i + 1) by omega]
      simp
theorem num_lt (l : List UInt8) (p n : Nat) : num l p n < 2 ^ n := by
  induction n generalizing p with
  | zero => simp [num]
  | succ n ih => have := ih (p + 1); have := bitAt_lt l p; rw [num, Nat.pow_succ]; omega
theorem num_add (l : List UInt8) (p a b : Nat) : num l p (a + b) = num l p a + 2 ^ a * num l (p + a) b := by
  induction a generalizing p with
  | zero => simp [num]
  | succ a ih =>
    rw [show a + 1 + b = (a + b) + 1 by omega, num, ih, num, Nat.pow_succ, show p + 1 + a = p + (a + 1) by omega]
    generalize num l (p + (a + 1)) b = q
    rw [Nat.mul_right_comm]; omega
theorem num_end (l : List UInt8) (p n : Nat) (h : 8 * l.length ≤ p) : num l p n = 0 := by
  induction n generalizing p with
  | zero => rfl
  | succ n ih => rw [num, ih (p + 1) (by omega), bitAt_ge l p h]
theorem bits8 (c : Nat) (hc : c < 256) : c = c / 1 % 2 + 2 * (c / 2 % 2) + 4 * (c / 4 % 2) + 8 * (c / 8 % 2) + 16 * (c / 16 % 2) + 32 * (c / 32 % 2) + 64 * (c / 64 % 2) + 128 * (c / 128 % 2) := by omega
theorem bitAt_byte (l : List UInt8) (p k : Nat) (hk : k < 8) : bitAt l (8 * p + k) = byteAt l p / 2 ^ k % 2 := by
  unfold bitAt; rw [show (8 * p + k) / 8 = p by omega, show (8 * p + k) % 8 = k by omega]
theorem num_byte (l : List UInt8) (p : Nat) : num l (8 * p) 8 = byteAt l p := by
  have h := bits8 (byteAt l p) (byteAt_lt l p)
  have h0 := bitAt_byte l p 0 (by omega)
  have h1 := bitAt_byte l p 1 (by omega)
  have h2 := bitAt_byte l p 2 (by omega)
  have h3 := bitAt_byte l p 3 (by omega)
  have h4 := bitAt_byte l p 4 (by omega)
  have h5 := bitAt_byte l p 5 (by omega)
  have h6 := bitAt_byte l p 6 (by omega)
  have h7 := bitAt_byte l p 7 (by omega)
  simp only [num, Nat.add_zero, Nat.add_assoc] at *
  simp only [Nat.reducePow, Nat.reduceAdd] at *
  rw [h0, h1, h2, h3, h4, h5, h6, h7]
  omega
theorem num_bytes (l : List UInt8) (p k : Nat) : num l (8 * p) (8 * (k + 1)) = num l (8 * p) (8 * k) + 2 ^ (8 * k) * byteAt l (p + k) := by
  rw [show 8 * (k + 1) = 8 * k + 8 by omega, num_add, show 8 * p + 8 * k = 8 * (p + k) by omega, num_byte]
/-- what is beyond the end adds nothing -/
theorem num_all (l : List UInt8) (p n m : Nat) (h : 8 * l.length ≤ p + n) (hm : n ≤ m) : num l p m = num l p n := by
  obtain ⟨k, rfl⟩ : ∃ k, m = n + k := ⟨m - n, by omega⟩
  rw [num_add, num_end l (p + n) k h]; simp
theorem num_mod (l : List UInt8) (p a n : Nat) (h : n ≤ a) : num l p a % 2 ^ n = num l p n := by
  obtain ⟨k, rfl⟩ : ∃ k, a = n + k := ⟨a - n, by omega⟩
  rw [num_add, Nat.add_mul_mod_self_left, Nat.mod_eq_of_lt (num_lt l p n)]
theorem num_div (l : List UInt8) (p a n : Nat) (h : n ≤ a) : num l p a / 2 ^ n = num l (p + n) (a - n) := by
  obtain ⟨k, rfl⟩ : ∃ k, a = n + k := ⟨a - n, by omega⟩
  rw [num_add, Nat.add_mul_div_left _ _ (Nat.two_pow_pos n), Nat.div_eq_of_lt (num_lt l p n)]
  simp
theorem num_cut (l : List UInt8) (p a n m : Nat) (h : m + n ≤ a) : num l p a / 2 ^ m % 2 ^ n = num l (p + m) n := by
  rw [num_div l p a m (by omega), num_mod l (p + m) (a - m) n (by omega)]
end Go.Proofs.Yteahcpkaagjkkaa
namespace Go.Proofs.Yteahcpkaagjkkaa
set_option linter.unusedVariables false
set_option linter.unusedSimpArgs false
theorem byteAt_zero (c : UInt8) (l : List UInt8) : byteAt (c :: l) 0 = c.toNat := rfl
theorem byteAt_succ (c : UInt8) (l : List UInt8) (i : Nat) : byteAt (c :: l) (i + 1) = byteAt l i := rfl
theorem toBits_get (l : List UInt8) (i : Nat) (h : i < 8 * l.length) : (toBits l)[i]? = some (dig l i) := by
  induction l generalizing i with
  | nil => simp at h
  | cons c l ih =>
    rw [toBits]
    by_cases hi : i < 8
    · rw [List.getElem?_append_left (by rw [bitsOf_length]; exact hi), bitsOf_get _ _ _ hi]
      unfold dig bitAt
      rw [show i / 8 = 0 by omega, show i % 8 = i by omega, byteAt_zero]
      rw [Nat.testBit_eq_decide_div_mod_eq]
      rfl
    · rw [List.getElem?_append_right (by rw [bitsOf_length]; omega), bitsOf_length, ih (i - 8) (by simp at h; omega)]
      unfold dig bitAt
      obtain ⟨j, rfl⟩ : ∃ j, i = j + 8 := ⟨i - 8, by omega⟩
      rw [show (j + 8) / 8 = j / 8 + 1 by omega, show (j + 8) % 8 = j % 8 by omega, byteAt_succ, show j + 8 - 8 = j by omega]
theorem bits_num (l : List UInt8) (p n : Nat) (h : p + n ≤ 8 * l.length) : bitsOf (num l p n) n = ((toBits l).drop p).take n := by
  apply List.ext_getElem?
  intro i
  by_cases hi : i < n
  · rw [bitsOf_get _ _ _ hi, num_bit, List.getElem?_take_of_lt hi, List.getElem?_drop, toBits_get _ _ (by omega)]
    simp [hi]
  · rw [List.getElem?_eq_none (by rw [bitsOf_length]; omega), List.getElem?_eq_none (by simp; omega)]
/-- a segment of bits that were written is read as it was -/
theorem num_seg (l : List UInt8) (pre post : List Bool) (x n : Nat) (h : toBits l = pre ++ bitsOf x n ++ post) : num l pre.length n = x % 2 ^ n := by
  have hl := congrArg List.length h
  simp only [toBits_length, List.length_append, bitsOf_length] at hl
  have := bits_num l pre.length n (by omega)
  rw [h, List.append_assoc, List.drop_left, List.take_left' (bitsOf_length x n)] at this
  exact bitsOf_inj _ _ n (num_lt _ _ _) (Nat.mod_lt _ (Nat.two_pow_pos n)) (by rw [this, bitsOf_mod])
theorem num_false (l : List UInt8) (pre post : List Bool) (n : Nat) (h : toBits l = pre ++ List.replicate n false ++ post) : num l pre.length n = 0 := by
  rw [← bitsOf_zero n] at h
  rw [num_seg l pre post 0 n h]; simp
end Go.Proofs.Yteahcpkaagjkkaa
namespace Go.Proofs.Yteahcpkaagjkkaa
set_option linter.unusedVariables false
set_option linter.unusedSimpArgs false

/-- what a copy has told so far, from its place on, is what it tells next -/
theorem cpy_piece (b : List UInt8) (d m j : Nat) (h1 : 1 ≤ d) (h2 : d ≤ b.length) (hm : m % d = 0) (hj : j ≤ m + d) : cpy b d (m + j) = cpy b d m ++ ((cpy b d m).drop (b.length - d)).take j := by
  apply List.ext_getElem?
  intro i
  by_cases hi : i < b.length + m
  · rw [cpy_add, cpy_pre _ _ _ _ (by rw [cpy_len]; exact hi), List.getElem?_append_left (by rw [cpy_len]; exact hi)]
  · by_cases hi2 : i < b.length + m + j
    · obtain ⟨k, rfl⟩ : ∃ k, i = b.length + (m + k) := ⟨i - b.length - m, by omega⟩
      rw [cpy_over b d (m + j) (m + k) h1 h2 (by omega), List.getElem?_append_right (by rw [cpy_len]; omega), cpy_len, show b.length + (m + k) - (b.length + m) = k by omega, List.getElem?_take, if_pos (by omega), List.getElem?_drop]
      have e : (m + k) % d = k % d := by rw [Nat.add_mod, hm, Nat.zero_add, Nat.mod_mod]
      rw [e]
      by_cases hk : k < d
      · rw [Nat.mod_eq_of_lt hk, cpy_pre b d m _ (by omega)]
      · rw [show b.length - d + k = b.length + (k - d) by omega, cpy_over b d m (k - d) h1 h2 (by omega)]
        congr 2
        exact Nat.mod_eq_sub_mod (by omega)
    · rw [List.getElem?_eq_none (by rw [cpy_len]; omega), List.getElem?_eq_none]
      rw [List.length_append, cpy_len, List.length_take, List.length_drop, cpy_len]; omega
theorem cpy_zeros (b : List UInt8) (d n : Nat) (h : b.length + n ≤ d) : cpy b d n = b ++ List.replicate n 0 := by
  induction n with
  | zero => simp [cpy]
  | succ n ih =>
    rw [cpy, ih (by omega)]
    unfold back1
    rw [if_neg (by rw [List.length_append, List.length_replicate]; omega), List.append_assoc, ← List.replicate_succ']
theorem cpy_none (b : List UInt8) (d : Nat) : cpy b d 0 = b := rfl
end Go.Proofs.Yteahcpkaagjkkaa
