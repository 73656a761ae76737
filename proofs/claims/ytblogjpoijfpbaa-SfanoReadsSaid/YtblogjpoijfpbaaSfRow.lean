/- Numbers of rows: how far a row of equal lengths goes; what reading rows leaves of a reader. -/
import Derived.Test.YtblogjpoijfpbaaSfPack
namespace Go.Proofs.Ytblogjpoijfpbaa
set_option linter.unusedVariables false
set_option linter.unusedSimpArgs false

theorem pk_eat (x : Nat) : ∀ (j k : Nat) (L : List Nat), (∀ i, i ≤ j → L[i]? = some x) → k + j ≤ 16 → pk k L = pk (k + j) (L.drop j) := by
  intro j
  induction j with
  | zero => intro k L _ _; rw [List.drop_zero, Nat.add_zero]
  | succ j ih =>
    intro k L h hk
    have h0 := h 0 (by omega)
    have h1 := h 1 (by omega)
    obtain ⟨M, rfl⟩ : ∃ M, L = x :: x :: M := by
      match L, h0, h1 with
      | a :: b :: M, h0, h1 => exact ⟨M, by simp at h0 h1; rw [h0, h1]⟩
      | [a], _, h1 => simp at h1
      | [], h0, _ => simp at h0
    rw [pk_more k x x M ⟨rfl, by omega⟩, ih (k + 1) (x :: M) (fun i hi => by have := h (i + 1) (by omega); simpa using this) (by omega), List.drop_succ_cons, show k + 1 + j = k + (j + 1) by omega]
/-- the first row of L is n times x -/
theorem pk_row (L : List Nat) (n x : Nat) (h1 : 1 ≤ n) (h16 : n ≤ 16) (hn : n ≤ L.length) (h : ∀ i, i < n → L[i]? = some x) (he : n = L.length ∨ n = 16 ∨ L[n]? ≠ some x) :
    pk 1 L = UInt8.ofNat ((n - 1) * 16 + x - 1) :: pk 1 (L.drop n) := by
  have e := pk_eat x (n - 1) 1 L (fun i hi => h i (by omega)) (by omega)
  rw [show 1 + (n - 1) = n by omega] at e
  have hx : L[n - 1]'(by omega) = x := by
    have := h (n - 1) (by omega)
    rw [List.getElem?_eq_getElem (by omega)] at this
    simpa using this
  have hd : L.drop (n - 1) = x :: L.drop n := by
    rw [List.drop_eq_getElem_cons (by omega), hx, show n - 1 + 1 = n by omega]
  rw [e, hd]
  rcases hq : L.drop n with _ | ⟨y, M⟩
  · rw [pk_one]; rfl
  · have hy : L[n]? = some y := by
      have := congrArg (fun l => l[0]?) hq
      simpa [List.getElem?_drop] using this
    rw [pk_end n x y M (fun ⟨a, b⟩ => by
      rcases he with he | he | he
      · rw [List.getElem?_eq_none (by omega)] at hy; cases hy
      · omega
      · exact he (by rw [hy, a]))]
/-- the reader behind k bytes, and the lengths of the rows that they are -/
def rdk : Nat → RS → RS
  | 0, s => s
  | k + 1, s => ((rdk k s).bits 8).2
def lsk : Nat → RS → List Int
  | 0, _ => []
  | k + 1, s => lsk k s ++ rowOf ((rdk k s).bits 8).1
theorem bits8_err (s : RS) (h : s.E ≠ 0) : s.bits 8 = (0, s) := by
  unfold RS.bits
  rw [if_neg (by omega), if_pos h, if_pos (by omega), RS.fail_fail _ _ h]
theorem rdk_cons (k : Nat) (s : RS) : rdk (k + 1) s = rdk k (s.bits 8).2 := by
  induction k with
  | zero => rfl
  | succ k ih => rw [rdk, ih]; rfl
theorem lsk_cons (k : Nat) (s : RS) : lsk (k + 1) s = rowOf (s.bits 8).1 ++ lsk k (s.bits 8).2 := by
  induction k with
  | zero => simp [lsk, rdk]
  | succ k ih => rw [lsk, ih, lsk, List.append_assoc, rdk_cons]
theorem rdk_err (k : Nat) (s : RS) (h : s.E ≠ 0) : rdk k s = s := by
  induction k with
  | zero => rfl
  | succ k ih => rw [rdk, ih, bits8_err s h]
theorem unpR_err (k : Nat) : ∀ s : RS, (unpR (k + 1) s).2.1 = (rdk (k + 1) s).E ∧ ((rdk (k + 1) s).E = 0 → unpR (k + 1) s = (lsk (k + 1) s, 0, rdk (k + 1) s)) := by
  induction k with
  | zero =>
    intro s
    rw [rdk_cons, lsk_cons, unpR]
    by_cases h : (s.bits 8).2.E ≠ 0
    · rw [if_pos h]; exact ⟨rfl, fun h' => absurd h' h⟩
    · rw [if_neg h]
      have h' : (s.bits 8).2.E = 0 := by omega
      simp [unpR, rdk, lsk, h']
  | succ k ih =>
    intro s
    obtain ⟨i1, i2⟩ := ih (s.bits 8).2
    rw [rdk_cons, lsk_cons, unpR]
    by_cases h : (s.bits 8).2.E ≠ 0
    · rw [if_pos h, rdk_err _ _ h]; exact ⟨rfl, fun h' => absurd h' h⟩
    · rw [if_neg h]
      by_cases h2 : (unpR (k + 1) (s.bits 8).2).2.1 ≠ 0
      · rw [if_pos h2]
        exact ⟨i1, fun h' => absurd (i1.trans h') h2⟩
      · rw [if_neg h2]
        have h3 : (rdk (k + 1) (s.bits 8).2).E = 0 := by rw [← i1]; omega
        rw [i2 h3]
        exact ⟨h3.symm, fun _ => rfl⟩
theorem rowOf_len (x : Nat) (h : x < 256) : (rowOf x).length ≤ 16 := by unfold rowOf; simp; omega
theorem lsk_len (k : Nat) (s : RS) (h : ∀ j, j < k → ((rdk j s).bits 8).1 < 256) : (lsk k s).length ≤ 16 * k := by
  induction k with
  | zero => simp [lsk]
  | succ k ih =>
    rw [lsk, List.length_append]
    have := ih (fun j hj => h j (by omega))
    have := rowOf_len _ (h k (by omega))
    omega
/-- what reading lengths answers, by the state behind all rows -/
theorem unp_ok (s : RS) (n : Int) (h1 : 1 ≤ n) (h2 : n ≤ 256) :
    ((rdk ((s.bits 8).1 + 1) (s.bits 8).2).E ≠ 0 → (s.unp n).1 = [] ∧ (s.unp n).2.1 = (rdk ((s.bits 8).1 + 1) (s.bits 8).2).E) ∧
    ((rdk ((s.bits 8).1 + 1) (s.bits 8).2).E = 0 → ((lsk ((s.bits 8).1 + 1) (s.bits 8).2).length : Int) ≠ n → s.unp n = ([], 6, rdk ((s.bits 8).1 + 1) (s.bits 8).2)) ∧
    ((rdk ((s.bits 8).1 + 1) (s.bits 8).2).E = 0 → ((lsk ((s.bits 8).1 + 1) (s.bits 8).2).length : Int) = n → s.unp n = (lsk ((s.bits 8).1 + 1) (s.bits 8).2, 0, rdk ((s.bits 8).1 + 1) (s.bits 8).2)) := by
  obtain ⟨e1, e2⟩ := unpR_err (s.bits 8).1 (s.bits 8).2
  unfold RS.unp
  rw [if_neg (by omega)]
  refine ⟨fun h => ?_, fun h h3 => ?_, fun h h3 => ?_⟩
  · rw [if_pos (by rw [e1]; exact h)]; exact ⟨rfl, e1⟩
  · rw [if_neg (by rw [e1, h]; simp), e2 h, if_pos h3]
  · rw [if_neg (by rw [e1, h]; simp), e2 h, if_neg (by simpa using h3)]
end Go.Proofs.Ytblogjpoijfpbaa
