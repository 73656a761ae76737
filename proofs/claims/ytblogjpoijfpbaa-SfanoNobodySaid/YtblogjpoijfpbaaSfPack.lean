/- Numbers of rows of equal lengths: packed, unpacked. -/
import Derived.Test.YtblogjpoijfpbaaBitLook2
namespace Go.Proofs.Ytblogjpoijfpbaa
set_option linter.unusedVariables false
set_option linter.unusedSimpArgs false

/-- the rows' bytes; n symbols of the row at hand stand ahead, the first one counted -/
def pk : Nat → List Nat → List UInt8
  | _, [] => []
  | n, x :: L => match L with
    | [] => [UInt8.ofNat ((n - 1) * 16 + x - 1)]
    | y :: _ => if y = x ∧ n < 16 then pk (n + 1) L else UInt8.ofNat ((n - 1) * 16 + x - 1) :: pk 1 L
/-- the lengths' bytes -/
def packL (L : List Nat) : List UInt8 := UInt8.ofNat ((pk 1 L).length - 1) :: pk 1 L
theorem pk_one (n x : Nat) : pk n [x] = [UInt8.ofNat ((n - 1) * 16 + x - 1)] := rfl
theorem pk_more (n x y : Nat) (L : List Nat) (h : y = x ∧ n < 16) : pk n (x :: y :: L) = pk (n + 1) (y :: L) := by rw [pk]; simp only [if_pos h]
theorem pk_end (n x y : Nat) (L : List Nat) (h : ¬ (y = x ∧ n < 16)) : pk n (x :: y :: L) = UInt8.ofNat ((n - 1) * 16 + x - 1) :: pk 1 (y :: L) := by rw [pk]; simp only [if_neg h]
theorem pk_len (L : List Nat) : ∀ n, (pk n L).length ≤ L.length := by
  induction L with
  | nil => intro n; simp [pk]
  | cons x L ih =>
    intro n
    cases L with
    | nil => simp [pk]
    | cons y L =>
      by_cases h : y = x ∧ n < 16
      · rw [pk_more n x y L h]; have := ih (n + 1); simp only [List.length_cons] at *; omega
      · rw [pk_end n x y L h]; have := ih 1; simp only [List.length_cons] at *; omega
theorem pk_pos (L : List Nat) (h : L ≠ []) : ∀ n, 0 < (pk n L).length := by
  induction L with
  | nil => exact absurd rfl h
  | cons x L ih =>
    intro n
    cases L with
    | nil => simp [pk]
    | cons y L =>
      by_cases h : y = x ∧ n < 16
      · rw [pk_more n x y L h]; exact ih (by simp) _
      · rw [pk_end n x y L h]; simp
/-- the lengths of a row -/
def rowOf (x : Nat) : List Int := List.replicate (x / 16 + 1) ((x % 16 + 1 : Nat) : Int)
theorem pk_rows (L : List Nat) (h : ∀ x ∈ L, 1 ≤ x ∧ x ≤ 16) : ∀ n, 1 ≤ n → n ≤ 16 → ∀ x M, L = x :: M → ((pk n L).flatMap fun b => rowOf b.toNat) = List.replicate (n - 1) (x : Int) ++ L.map fun (y : Nat) => (y : Int) := by
  induction L with
  | nil => intro n _ _ x M e; cases e
  | cons x L ih =>
    intro n h1 h2 x' M e
    obtain ⟨rfl, rfl⟩ : x = x' ∧ L = M := by simpa using e
    have hx := h x (by simp)
    have hb : (UInt8.ofNat ((n - 1) * 16 + x - 1)).toNat = (n - 1) * 16 + x - 1 := by
      rw [UInt8.toNat_ofNat']; exact Nat.mod_eq_of_lt (by omega)
    have hr : rowOf (UInt8.ofNat ((n - 1) * 16 + x - 1)).toNat = List.replicate (n - 1) (x : Int) ++ [(x : Int)] := by
      rw [hb]
      unfold rowOf
      rw [show ((n - 1) * 16 + x - 1) / 16 + 1 = (n - 1) + 1 by omega, show ((n - 1) * 16 + x - 1) % 16 + 1 = x by omega, List.replicate_succ']
    cases L with
    | nil => rw [pk_one, List.flatMap_cons, hr]; simp
    | cons y L =>
      by_cases hc : y = x ∧ n < 16
      · rw [pk_more n x y L hc, ih (fun z hz => h z (by simp only [List.mem_cons] at hz ⊢; exact .inr hz)) (n + 1) (by omega) (by omega) y L rfl]
        obtain ⟨rfl, _⟩ := hc
        have hs : List.replicate (n + 1 - 1) (y : Int) = List.replicate (n - 1) (y : Int) ++ [(y : Int)] := by
          obtain ⟨m, rfl⟩ : ∃ m, n = m + 1 := ⟨n - 1, by omega⟩
          rw [Nat.add_sub_cancel, Nat.add_sub_cancel, List.replicate_succ']
        rw [hs, List.map_cons (a := y) (l := y :: L)]
        simp
      · rw [pk_end n x y L hc, List.flatMap_cons, hr, ih (fun z hz => h z (by simp only [List.mem_cons] at hz ⊢; exact .inr hz)) 1 (by omega) (by omega) y L rfl]
        simp
/-- reading so many rows: lengths, error, the reader's state -/
def unpR : Nat → RS → List Int × Nat × RS
  | 0, s => ([], 0, s)
  | k + 1, s =>
    if (s.bits 8).2.E ≠ 0 then ([], (s.bits 8).2.E, (s.bits 8).2)
    else if (unpR k (s.bits 8).2).2.1 ≠ 0 then ([], (unpR k (s.bits 8).2).2)
    else (rowOf (s.bits 8).1 ++ (unpR k (s.bits 8).2).1, 0, (unpR k (s.bits 8).2).2.2)
/-- reading lengths -/
def RS.unp (n : Int) (s : RS) : List Int × Nat × RS :=
  if n < 1 ∨ 256 < n then ([], 2, s)
  else if (unpR ((s.bits 8).1 + 1) (s.bits 8).2).2.1 ≠ 0 then ([], (unpR ((s.bits 8).1 + 1) (s.bits 8).2).2)
  else if ((unpR ((s.bits 8).1 + 1) (s.bits 8).2).1.length : Int) ≠ n then ([], 6, (unpR ((s.bits 8).1 + 1) (s.bits 8).2).2.2)
  else ((unpR ((s.bits 8).1 + 1) (s.bits 8).2).1, 0, (unpR ((s.bits 8).1 + 1) (s.bits 8).2).2.2)
theorem bits8_at (l : List UInt8) (i : Nat) (hi : i < l.length) : (⟨l, 8 * i, true, 0⟩ : RS).bits 8 = (byteAt l i, ⟨l, 8 * (i + 1), true, 0⟩) := by
  have hE : (⟨l, 8 * i, true, 0⟩ : RS).E = 0 := rfl
  have hl : (⟨l, 8 * i, true, 0⟩ : RS).left = 8 * l.length - 8 * i := by unfold RS.left; rw [if_pos hE]
  unfold RS.bits
  rw [if_neg (by omega), if_neg (by simp [hE]), if_neg (by rw [hl]; omega)]
  show (num l (8 * i) 8, (⟨l, 8 * i + 8, true, 0⟩ : RS)) = _
  rw [num_byte, Nat.mul_add]
theorem unpR_run (l : List UInt8) : ∀ k i, i + k ≤ l.length → unpR k ⟨l, 8 * i, true, 0⟩ = (((l.drop i).take k).flatMap fun b => rowOf b.toNat, 0, ⟨l, 8 * (i + k), true, 0⟩) := by
  intro k
  induction k with
  | zero => intro i _; simp [unpR]
  | succ k ih =>
    intro i h
    have h8 := bits8_at l i (by omega)
    have hd : (l.drop i).take (k + 1) = l[i] :: (l.drop (i + 1)).take k := by
      rw [List.drop_eq_getElem_cons (by omega), List.take_succ_cons]
    have hE : (⟨l, 8 * (i + 1), true, 0⟩ : RS).E = 0 := rfl
    rw [unpR, h8, ih (i + 1) (by omega), hd]
    simp only [hE, ne_eq, not_true_eq_false, if_false, List.flatMap_cons]
    have hb : byteAt l i = l[i].toNat := (byteAt_get l i (by omega)).symm
    rw [hb, show i + 1 + k = i + (k + 1) by omega]
theorem unp_pack (L : List Nat) (h : ∀ x ∈ L, 1 ≤ x ∧ x ≤ 16) (h0 : L ≠ []) (h256 : L.length ≤ 256) : (⟨packL L, 0, true, 0⟩ : RS).unp L.length = (L.map fun (y : Nat) => (y : Int), 0, ⟨packL L, 8 * (packL L).length, true, 0⟩) := by
  have hp := pk_pos L h0 1
  have hl := pk_len L 1
  have hpl : 0 < L.length := by cases L; exact absurd rfl h0; simp
  have hlen : (packL L).length = (pk 1 L).length + 1 := rfl
  have h8 := bits8_at (packL L) 0 (by omega)
  rw [Nat.mul_zero, Nat.zero_add] at h8
  have hb : byteAt (packL L) 0 = (pk 1 L).length - 1 := by
    show (UInt8.ofNat ((pk 1 L).length - 1)).toNat = _
    rw [UInt8.toNat_ofNat']; exact Nat.mod_eq_of_lt (by omega)
  have hr := unpR_run (packL L) (pk 1 L).length 1 (by omega)
  have hd : ((packL L).drop 1).take (pk 1 L).length = pk 1 L := by
    show (pk 1 L).take (pk 1 L).length = _
    exact List.take_length
  obtain ⟨x, M, rfl⟩ : ∃ x M, L = x :: M := by cases L; exact absurd rfl h0; exact ⟨_, _, rfl⟩
  rw [hd, pk_rows (x :: M) h 1 (by omega) (by omega) x M rfl] at hr
  unfold RS.unp
  rw [if_neg (by omega), h8]
  simp only [hb, show (pk 1 (x :: M)).length - 1 + 1 = (pk 1 (x :: M)).length by omega]
  rw [hr]
  simp only [ne_eq, not_true_eq_false, if_false, Nat.sub_self, List.replicate_zero, List.nil_append, List.length_map]
  rw [hlen, Nat.add_comm 1]
end Go.Proofs.Ytblogjpoijfpbaa
