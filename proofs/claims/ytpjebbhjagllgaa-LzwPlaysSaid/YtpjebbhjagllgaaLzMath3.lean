/- Numbers of layer 10: what Clear leaves, told by links. -/
import Derived.Test.YtpjebbhjagllgaaLzMath2
namespace Go.Proofs.Ytpjebbhjagllgaa
set_option linter.unusedVariables false
set_option linter.unusedSimpArgs false

def hs (rows : List Lk) (c : Int) : Bool := (lk rows c).isSome
def lp (rows : List Lk) (c : Int) : Nat := match lk rows c with | some r => r.par | none => 0
def ly (rows : List Lk) (c : Int) : UInt8 := match lk rows c with | some r => r.byt | none => 0
theorem lk_clear {s : LT} (h : s.ok) (c : Int) (r : Lk) : lk s.clear.rows c = some r ↔ lk s.rows c = some r ∧ isPar s.rows r.code = true := by
  rw [lk_iff _ (LT.clear_ok h).srt, lk_iff _ h.srt]
  show r ∈ s.rows.filter _ ∧ _ ↔ _
  rw [List.mem_filter]
  constructor
  · rintro ⟨⟨h1, h2⟩, h3⟩; exact ⟨⟨h1, h3⟩, h2⟩
  · rintro ⟨⟨h1, h3⟩, h2⟩; exact ⟨⟨h1, h2⟩, h3⟩
theorem hs_clear {s : LT} (h : s.ok) (c : Nat) : hs s.clear.rows c = (hs s.rows c && isPar s.rows c) := by
  unfold hs
  cases hl : lk s.rows (c : Int) with
  | none =>
    cases h2 : lk s.clear.rows (c : Int) with
    | none => rfl
    | some r => rw [((lk_clear h c r).1 h2).1] at hl; cases hl
  | some r =>
    have hc := ((lk_iff _ h.srt _ _).1 hl).2
    have hcn : r.code = c := by omega
    cases h2 : lk s.clear.rows (c : Int) with
    | none =>
      cases hp : isPar s.rows c with
      | false => rfl
      | true => rw [(lk_clear h c r).2 ⟨hl, by rw [hcn]; exact hp⟩] at h2; cases h2
    | some r2 =>
      have h3 := (lk_clear h c r2).1 h2
      have hc2 := ((lk_iff _ h.srt _ _).1 h3.1).2
      have : r2.code = c := by omega
      rw [← this, h3.2]; rfl
theorem same_clear {s : LT} (h : s.ok) (c : Int) (hh : hs s.clear.rows c = true) : lp s.clear.rows c = lp s.rows c ∧ ly s.clear.rows c = ly s.rows c := by
  unfold hs at hh
  cases h2 : lk s.clear.rows c with
  | none => rw [h2] at hh; cases hh
  | some r => unfold lp ly; rw [h2, ((lk_clear h c r).1 h2).1]; exact ⟨rfl, rfl⟩
theorem hs_iff (rows : List Lk) (hsr : srt rows) (c : Int) : hs rows c = true ↔ ∃ r ∈ rows, (r.code : Int) = c := by
  unfold hs
  cases h : lk rows c with
  | none =>
    have := (lk_none rows hsr c).1 h
    simp only [Option.isSome_none, Bool.false_eq_true, false_iff]
    rintro ⟨r, hr, hc⟩
    exact this r hr hc
  | some r => simpa using ⟨r, (lk_iff rows hsr c r).1 h⟩
/-- one of the codes 257 to k - 1 has i as its parent -/
def anyP (rows : List Lk) (i : Nat) : Nat → Bool
  | 0 => false
  | k + 1 => anyP rows i k || (decide (257 ≤ k) && (hs rows k && (lp rows k == i)))
theorem anyP_iff (rows : List Lk) (i k : Nat) : anyP rows i k = true ↔ ∃ j, 257 ≤ j ∧ j < k ∧ hs rows j = true ∧ lp rows j = i := by
  induction k with
  | zero => simp [anyP]
  | succ k ih =>
    rw [anyP, Bool.or_eq_true, ih]
    constructor
    · rintro (⟨j, h1, h2, h3⟩ | h)
      · exact ⟨j, h1, by omega, h3⟩
      · simp only [Bool.and_eq_true, decide_eq_true_eq, beq_iff_eq] at h
        exact ⟨k, h.1, by omega, h.2⟩
    · rintro ⟨j, h1, h2, h3, h4⟩
      rcases Nat.lt_or_ge j k with h5 | h5
      · exact .inl ⟨j, h1, h5, h3, h4⟩
      · obtain rfl : j = k := by omega
        right
        simp only [Bool.and_eq_true, decide_eq_true_eq, beq_iff_eq]
        exact ⟨h1, h3, h4⟩
theorem anyP_par {s : LT} (h : s.ok) (m : Nat) (hm : ∀ r ∈ s.rows, r.code < m) (i : Nat) : anyP s.rows i m = isPar s.rows i := by
  rw [Bool.eq_iff_iff, anyP_iff]
  unfold isPar
  rw [List.any_eq_true]
  constructor
  · rintro ⟨j, _, _, h3, h4⟩
    unfold hs at h3
    unfold lp at h4
    cases hl : lk s.rows (j : Nat) with
    | none => rw [hl] at h3; cases h3
    | some r =>
      rw [hl] at h4
      exact ⟨r, ((lk_iff _ h.srt _ _).1 hl).1, by simpa using h4⟩
  · rintro ⟨r, hr, hp⟩
    have hl := (lk_iff _ h.srt (r.code : Nat) r).2 ⟨hr, rfl⟩
    refine ⟨r.code, (h.all r hr).1, hm r hr, by unfold hs; rw [hl]; rfl, by unfold lp; rw [hl]; simpa using hp⟩
/-- counting the codes one by one -/
theorem lwb_step (rows : List Lk) (hsr : srt rows) (i : Nat) : lwb rows ((i + 1 : Nat) : Int) = lwb rows (i : Nat) + (if hs rows (i : Nat) = true then 1 else 0) := by
  have h1 := lwb_le rows (i : Nat)
  symm
  by_cases h : hs rows (i : Nat) = true
  · rw [if_pos h]
    obtain ⟨r, hr, hc⟩ := (hs_iff rows hsr _).1 h
    obtain ⟨j, hj, rfl⟩ := (mem_iff_rw' _ _).1 hr
    have hjl : j = lwb rows (i : Nat) := lwb_unique rows _ j (by omega) (fun k hk => by have := hsr k j hk hj; omega) (fun _ => by omega)
    refine lwb_unique rows _ _ (by omega) (fun k hk => ?_) (fun hk => ?_)
    · rcases Nat.lt_or_ge k j with h2 | h2
      · have := hsr k j h2 hj; omega
      · obtain rfl : k = j := by omega
        omega
    · have := hsr j (lwb rows (i : Nat) + 1) (by omega) hk; omega
  · rw [if_neg h, Nat.add_zero]
    refine lwb_unique rows _ _ (by omega) (fun k hk => by have := lwb_lt rows (i : Nat) k hk; omega) (fun hk => ?_)
    have h2 := lwb_ge rows (i : Nat) hk
    rcases Int.lt_or_le ((rw' rows (lwb rows (i : Nat))).code : Int) ((i : Int) + 1) with h3 | h3
    · exact absurd ((hs_iff rows hsr _).2 ⟨_, mem_rw' _ _ hk, by omega⟩) h
    · omega
theorem lwb_first (rows : List Lk) (h : ∀ r ∈ rows, 257 ≤ r.code) : lwb rows ((257 : Nat) : Int) = 0 :=
  (lwb_unique rows _ 0 (by omega) (fun i hi => by omega) (fun hk => by have := h _ (mem_rw' rows 0 hk); omega)).symm
theorem lwb_last (rows : List Lk) (m : Nat) (h : ∀ r ∈ rows, r.code < m) : lwb rows (m : Nat) = rows.length :=
  (lwb_unique rows _ rows.length (Nat.le_refl _) (fun i hi => by have := h _ (mem_rw' rows i hi); omega) (fun hk => by omega)).symm
/-- the first free code behind Clear -/
theorem next_clear {s : LT} (h : s.ok) (k : Nat) (hk : k ≤ 400) (hm : ∀ r ∈ s.rows, r.code ≤ 256 + k) : ∃ n : Nat, s.clear.next = n ∧ 257 ≤ n ∧ n ≤ 257 + k ∧ hs s.clear.rows (n : Nat) = false ∧ ∀ j, 257 ≤ j → j < n → hs s.clear.rows (j : Nat) = true := by
  have hok := LT.clear_ok h
  have hha : ∀ c : Int, hs s.clear.rows c = true ↔ 0 ≤ atI s.clear.rows c := fun c => by rw [hs_iff _ hok.srt, atI_has _ hok.srt]
  have hfree : atI s.clear.rows ((257 + k : Nat) : Int) < 0 := by
    rcases Int.lt_or_le (atI s.clear.rows ((257 + k : Nat) : Int)) 0 with h1 | h1
    · exact h1
    · obtain ⟨r, hr, hc⟩ := (atI_has _ hok.srt _).1 h1
      have := hm r (List.mem_filter.1 hr).1
      omega
  rcases nxF_cases s.clear.rows 8192 (s.clear.last + 1) (by omega) with ⟨h1, h2⟩ | ⟨n, h1, h2, h3, h4, h5⟩
  · have := h2 (257 + k) (by show 257 ≤ _; omega) (by omega); omega
  · have hl : s.clear.last = 256 := rfl
    rw [hl] at h2 h5
    refine ⟨n, h1, by omega, ?_, ?_, fun j h6 h7 => (hha _).2 (h5 j (by omega) h7)⟩
    · rcases Nat.lt_or_ge (257 + k) n with h6 | h6
      · have := h5 (257 + k) (by omega) h6; omega
      · exact h6
    · cases hx : hs s.clear.rows (n : Nat) with
      | false => rfl
      | true => have := (hha _).1 hx; omega
end Go.Proofs.Ytpjebbhjagllgaa
