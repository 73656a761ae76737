/- Numbers of layer 12: followers, and their bits. -/
namespace Go.Proofs.Ytlnknnmlepgjfaa
set_option linter.unusedVariables false
set_option linter.unusedSimpArgs false

/-- a sum -/
def sm (f : Nat → Nat) : Nat → Nat
  | 0 => 0
  | m + 1 => sm f m + f m
theorem sm_add (f g : Nat → Nat) (m : Nat) : sm (fun i => f i + g i) m = sm f m + sm g m := by
  induction m with
  | zero => rfl
  | succ m ih => simp only [sm, ih]; omega
theorem sm_le (f g : Nat → Nat) (m : Nat) (h : ∀ i, i < m → f i ≤ g i) : sm f m ≤ sm g m := by
  induction m with
  | zero => exact Nat.le_refl _
  | succ m ih => have := ih fun i hi => h i (by omega); have := h m (by omega); simp only [sm]; omega
theorem sm_eq (f g : Nat → Nat) (m : Nat) (h : ∀ i, i < m → f i = g i) : sm f m = sm g m := by
  induction m with
  | zero => rfl
  | succ m ih => simp only [sm]; rw [ih fun i hi => h i (by omega), h m (by omega)]
theorem sm_zero (m : Nat) : sm (fun _ => 0) m = 0 := by
  induction m with
  | zero => rfl
  | succ m ih => simp only [sm, ih]
theorem sm_one (f : Nat → Nat) (a m : Nat) (h : a < m) (h0 : ∀ i, i ≠ a → f i = 0) : sm f m = f a := by
  induction m with
  | zero => omega
  | succ m ih =>
    simp only [sm]
    by_cases e : a = m
    · subst e
      rw [sm_eq f (fun _ => 0) a (fun i hi => h0 i (by omega)), sm_zero]; omega
    · rw [ih (by omega), h0 m (by omega)]; rfl
theorem sm_const (k m : Nat) : sm (fun _ => k) m = k * m := by
  induction m with
  | zero => rfl
  | succ m ih => simp only [sm, ih]; rw [Nat.mul_succ]
/-- how often x stands just behind c, ahead of the text a byte p -/
def cnB : UInt8 → List UInt8 → Nat → Nat → Nat
  | _, [], _, _ => 0
  | p, a :: t, c, x => (if p.toNat = c ∧ a.toNat = x then 1 else 0) + cnB a t c x
theorem cnB_le (p : UInt8) (b : List UInt8) (c x : Nat) : cnB p b c x ≤ b.length := by
  induction b generalizing p with
  | nil => exact Nat.le_refl _
  | cons a t ih => have := ih a; simp only [cnB, List.length_cons]; split <;> omega
def widthN (n : Nat) : Nat := if n < 1 ∨ 32 < n then 0 else if n ≤ 2 then 1 else if n ≤ 4 then 2 else if n ≤ 8 then 3 else if n ≤ 16 then 4 else 5
theorem widthN_le (n : Nat) : widthN n ≤ 5 := by
  unfold widthN
  repeat' split
  all_goals omega
theorem widthN_of (n k : Nat) (h1 : 1 ≤ n) (h2 : n ≤ 32) (hk : 1 ≤ k) (hk5 : k ≤ 5) (ha : n ≤ 2 ^ k) (hb : k = 1 ∨ 2 ^ (k - 1) < n) : widthN n = k := by
  have h : k = 1 ∨ k = 2 ∨ k = 3 ∨ k = 4 ∨ k = 5 := by omega
  unfold widthN
  rcases h with rfl | rfl | rfl | rfl | rfl <;> simp at ha hb <;> (repeat' split) <;> omega
def inL (l : List UInt8) (c : Nat) : Bool := l.any fun x => x.toNat == c
theorem inL_mem (l : List UInt8) (c : UInt8) : inL l c.toNat = decide (c ∈ l) := by
  unfold inL
  rw [Bool.eq_iff_iff, decide_eq_true_eq, List.any_eq_true]
  constructor
  · rintro ⟨x, h1, h2⟩
    have : x = c := UInt8.toNat_inj.1 (by simpa using h2)
    exact this ▸ h1
  · intro h; exact ⟨c, h, by simp⟩
/-- the first place of a byte -/
def atU (l : List UInt8) (c : UInt8) : Int := match l.findIdx? (· == c) with | some i => (i : Int) | none => -1
theorem atU_in (l : List UInt8) (c : UInt8) : (0 ≤ atU l c) ↔ c ∈ l := by
  unfold atU
  cases e : l.findIdx? (· == c) with
  | none =>
    rw [List.findIdx?_eq_none_iff] at e
    constructor
    · intro h; exact absurd h (by decide)
    · intro h; have := e c h; simp at this
  | some i =>
    constructor
    · intro _
      rw [List.findIdx?_eq_some_iff_getElem] at e
      obtain ⟨h, h1, _⟩ := e
      have : l[i] = c := by simpa using h1
      rw [← this]; exact List.getElem_mem h
    · intro _; exact Int.natCast_nonneg i
/-- bits of a byte behind one that has the followers l -/
def pl (l : List UInt8) (x : Nat) : Nat := if l.length = 0 then 8 else if inL l x then 1 + widthN l.length else 9
theorem pl_le (l : List UInt8) (x : Nat) : pl l x ≤ 9 := by
  unfold pl
  have := widthN_le l.length
  repeat' split
  all_goals omega
/-- bits of followers, and of what stands behind -/
def cst (n : Nat → Nat) (l : List UInt8) : Nat → Nat
  | 0 => 8 * l.length
  | m + 1 => cst n l m + n m * pl l m
theorem cst_sm (n : Nat → Nat) (l : List UInt8) (m : Nat) : cst n l m = 8 * l.length + sm (fun x => n x * pl l x) m := by
  induction m with
  | zero => rfl
  | succ m ih => simp only [cst, sm, ih]; omega
theorem cst_le (n : Nat → Nat) (l : List UInt8) (N m : Nat) (h : ∀ x, n x ≤ N) : cst n l m ≤ 8 * l.length + 9 * N * m := by
  rw [cst_sm, ← sm_const (9 * N) m]
  have := sm_le (fun x => n x * pl l x) (fun _ => 9 * N) m (fun i _ => by
    have h1 := h i; have h2 := pl_le l i
    calc n i * pl l i ≤ N * 9 := Nat.mul_le_mul h1 h2
      _ = 9 * N := Nat.mul_comm _ _)
  omega
/-- the first of the bytes below m that stand there most often, but those of l -/
def bk (n : Nat → Nat) (l : List UInt8) : Nat → Int
  | 0 => -1
  | m + 1 => if 0 < n m ∧ inL l m = false ∧ (bk n l m < 0 ∨ n (bk n l m).toNat < n m) then (m : Int) else bk n l m
theorem bk_range (n : Nat → Nat) (l : List UInt8) (m : Nat) : -1 ≤ bk n l m ∧ bk n l m < m := by
  induction m with
  | zero => simp [bk]
  | succ m ih => simp only [bk]; split <;> omega
def topF (n : Nat → Nat) : Nat → List UInt8
  | 0 => []
  | i + 1 => if 0 ≤ bk n (topF n i) 256 then topF n i ++ [UInt8.ofNat (bk n (topF n i) 256).toNat] else topF n i
theorem topF_len (n : Nat → Nat) (i : Nat) : (topF n i).length ≤ i := by
  induction i with
  | zero => exact Nat.le_refl _
  | succ i ih =>
    simp only [topF]
    split
    · rw [List.length_append]; simp; omega
    · omega
/-- how many of l are best -/
def bl (n : Nat → Nat) (l : List UInt8) : Nat → Nat
  | 0 => 0
  | i + 1 => if cst n (l.take (i + 1)) 256 < cst n (l.take (bl n l i)) 256 then i + 1 else bl n l i
theorem bl_le (n : Nat → Nat) (l : List UInt8) (i : Nat) : bl n l i ≤ i := by
  induction i with
  | zero => exact Nat.le_refl _
  | succ i ih => simp only [bl]; split <;> omega
theorem bl_cost (n : Nat → Nat) (l : List UInt8) (i : Nat) : cst n (l.take (bl n l i)) 256 ≤ cst n [] 256 := by
  induction i with
  | zero => simp [bl]
  | succ i ih => simp only [bl]; split <;> omega
def oneN (n : Nat → Nat) : List UInt8 := (topF n 32).take (bl n (topF n 32) (topF n 32).length)
theorem oneN_len (n : Nat → Nat) : (oneN n).length ≤ 32 := by
  have := topF_len n 32
  unfold oneN; rw [List.length_take]; omega
theorem oneN_cost (n : Nat → Nat) : cst n (oneN n) 256 ≤ cst n [] 256 := bl_cost n _ _
theorem bk_none (n : Nat → Nat) (l : List UInt8) (h : ∀ x, n x = 0) (m : Nat) : bk n l m = -1 := by
  induction m with
  | zero => rfl
  | succ m ih => simp only [bk]; rw [if_neg (by rw [h m]; omega), ih]
theorem oneN_none (n : Nat → Nat) (h : ∀ x, n x = 0) : oneN n = [] := by
  have : ∀ i, topF n i = [] := by
    intro i
    induction i with
    | zero => rfl
    | succ i ih => simp only [topF, ih]; rw [bk_none n _ h, if_neg (by decide)]
  unfold oneN; rw [this]; rfl
/-- the best followers of c -/
def one12 (b : List UInt8) (c : Nat) : List UInt8 := oneN (cnB 0 b c)
theorem cnB_zero (p : UInt8) (b : List UInt8) (c : Nat) (hp : p.toNat ≠ c) (h : ∀ a ∈ b, a.toNat ≠ c) (x : Nat) : cnB p b c x = 0 := by
  induction b generalizing p with
  | nil => rfl
  | cons a t ih =>
    simp only [cnB]
    rw [if_neg (fun e => hp e.1), ih a (h a (by simp)) (fun z hz => h z (by simp [hz]))]
theorem one12_none (b : List UInt8) (c : Nat) (h0 : c ≠ 0) (h : ∀ a ∈ b, a.toNat ≠ c) : one12 b c = [] :=
  oneN_none _ fun x => cnB_zero 0 b c (by simpa using h0.symm) h x
/-- bits of a text by the sets s, ahead of it a byte p -/
def tl (s : Nat → List UInt8) : UInt8 → List UInt8 → Nat
  | _, [] => 0
  | p, a :: t => pl (s p.toNat) a.toNat + tl s a t
theorem tl_sum (s : Nat → List UInt8) (p : UInt8) (b : List UInt8) : sm (fun c => sm (fun x => cnB p b c x * pl (s c) x) 256) 256 = tl s p b := by
  induction b generalizing p with
  | nil =>
    rw [sm_eq _ (fun _ => 0) 256 (fun c _ => ?_), sm_zero]; rfl
    rw [sm_eq _ (fun _ => 0) 256 (fun x _ => by simp [cnB]), sm_zero]
  | cons a t ih =>
    have hp := p.toNat_lt
    have ha := a.toNat_lt
    rw [sm_eq _ (fun c => sm (fun x => (if p.toNat = c ∧ a.toNat = x then 1 else 0) * pl (s c) x) 256 + sm (fun x => cnB a t c x * pl (s c) x) 256) 256 (fun c _ => by
      rw [← sm_add]; exact sm_eq _ _ _ fun x _ => by simp only [cnB]; rw [Nat.add_mul]), sm_add, ih a]
    simp only [tl]
    congr 1
    rw [sm_one _ p.toNat 256 (by simpa using hp) (fun c hc => by
      rw [sm_eq _ (fun _ => 0) 256 (fun x _ => by rw [if_neg (fun e => hc e.1.symm), Nat.zero_mul]), sm_zero])]
    rw [sm_one _ a.toNat 256 (by simpa using ha) (fun x hx => by rw [if_neg (fun e => hx e.2.symm), Nat.zero_mul]), if_pos ⟨rfl, rfl⟩, Nat.one_mul]
theorem tl_none (p : UInt8) (b : List UInt8) : tl (fun _ => []) p b = 8 * b.length := by
  induction b generalizing p with
  | nil => rfl
  | cons a t ih => simp only [tl, ih, List.length_cons]; unfold pl; simp; omega
/-- by the best sets no text has more bits -/
theorem best_fewer (b : List UInt8) : sm (fun c => 8 * (one12 b c).length) 256 + tl (one12 b) 0 b ≤ 8 * b.length := by
  rw [← tl_none 0 b, ← tl_sum, ← tl_sum, ← sm_add]
  refine sm_le _ _ _ fun c _ => ?_
  have h := oneN_cost (cnB 0 b c)
  rw [cst_sm, cst_sm] at h
  change 8 * (one12 b c).length + sm (fun x => cnB 0 b c x * pl (one12 b c) x) 256 ≤ _ at h
  simpa using h
end Go.Proofs.Ytlnknnmlepgjfaa
