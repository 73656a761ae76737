/- Numbers of layer 10: a table of codes with links, by rising codes. -/
namespace Go.Proofs.Ytpjebbhjagllgaa
set_option linter.unusedVariables false
set_option linter.unusedSimpArgs false

/-- a code, its parent, its byte -/
structure Lk where
  code : Nat
  par : Nat
  byt : UInt8
deriving DecidableEq
instance : Inhabited Lk := ⟨⟨0, 0, 0⟩⟩
/-- a table: its rows by rising codes, and which code was given out last -/
structure LT where
  rows : List Lk
  last : Nat
deriving DecidableEq
def rw' (rows : List Lk) (i : Nat) : Lk := rows.getD i default
def srt (rows : List Lk) : Prop := ∀ i j, i < j → j < rows.length → (rw' rows i).code < (rw' rows j).code
theorem rw'_get (rows : List Lk) (i : Nat) (h : i < rows.length) : rw' rows i = rows[i] := by unfold rw'; rw [List.getD_eq_getElem?_getD, List.getElem?_eq_getElem h]; rfl
/-- how many codes stand ahead of c -/
def lwb (rows : List Lk) (c : Int) : Nat := (rows.takeWhile fun r => decide ((r.code : Int) < c)).length
theorem lwb_le (rows : List Lk) (c : Int) : lwb rows c ≤ rows.length := by
  unfold lwb; exact (List.takeWhile_sublist _).length_le
theorem lwb_lt (rows : List Lk) (c : Int) (i : Nat) (h : i < lwb rows c) : ((rw' rows i).code : Int) < c := by
  induction rows generalizing i with
  | nil => simp [lwb] at h
  | cons r rs ih =>
    unfold lwb at h
    rw [List.takeWhile_cons] at h
    split at h
    · next hr =>
      cases i with
      | zero => simpa [rw'] using hr
      | succ i => exact ih i (by simpa [lwb] using h)
    · simp at h
theorem lwb_ge (rows : List Lk) (c : Int) (h : lwb rows c < rows.length) : c ≤ ((rw' rows (lwb rows c)).code : Int) := by
  induction rows with
  | nil => simp at h
  | cons r rs ih =>
    unfold lwb at h ⊢
    rw [List.takeWhile_cons] at h ⊢
    split at h
    · next hr =>
      rw [if_pos hr]
      exact ih (by simpa [lwb] using h)
    · next hr =>
      rw [if_neg hr]
      simpa [rw'] using hr
theorem lwb_all (rows : List Lk) (hs : srt rows) (c : Int) (i : Nat) (h1 : lwb rows c ≤ i) (h2 : i < rows.length) : c ≤ ((rw' rows i).code : Int) := by
  have h3 := lwb_ge rows c (by omega)
  rcases Nat.eq_or_lt_of_le h1 with h | h
  · rw [← h]; exact h3
  · have := hs _ _ h h2; omega
theorem lwb_unique (rows : List Lk) (c : Int) (lo : Nat) (h0 : lo ≤ rows.length) (h1 : ∀ i, i < lo → ((rw' rows i).code : Int) < c) (h2 : lo < rows.length → c ≤ ((rw' rows lo).code : Int)) : lo = lwb rows c := by
  rcases Nat.lt_trichotomy lo (lwb rows c) with h | h | h
  · have h3 := lwb_lt rows c lo h
    have h4 := lwb_le rows c
    have := h2 (by omega)
    omega
  · exact h
  · have h3 := h1 _ h
    have := lwb_ge rows c (by omega)
    omega
/-- where a code's row stands -/
def atI (rows : List Lk) (c : Int) : Int := if lwb rows c < rows.length ∧ ((rw' rows (lwb rows c)).code : Int) = c then (lwb rows c : Int) else -1
theorem atI_of (rows : List Lk) (hs : srt rows) (c : Int) (i : Nat) (h : i < rows.length) (hc : ((rw' rows i).code : Int) = c) : atI rows c = i := by
  have : i = lwb rows c := lwb_unique rows c i (by omega) (fun j hj => by have := hs j i hj h; omega) (fun _ => by omega)
  unfold atI
  rw [← this, if_pos ⟨h, hc⟩]
theorem atI_cases (rows : List Lk) (c : Int) : (atI rows c = -1) ∨ ∃ i : Nat, atI rows c = i ∧ i < rows.length ∧ ((rw' rows i).code : Int) = c := by
  unfold atI
  split
  · next h => exact .inr ⟨_, rfl, h.1, h.2⟩
  · exact .inl rfl
theorem atI_none (rows : List Lk) (hs : srt rows) (c : Int) : atI rows c < 0 ↔ ∀ i, i < rows.length → ((rw' rows i).code : Int) ≠ c := by
  constructor
  · intro h i hi hc
    rw [atI_of rows hs c i hi hc] at h; omega
  · intro h
    rcases atI_cases rows c with h1 | ⟨i, h1, h2, h3⟩
    · omega
    · exact absurd h3 (h i h2)
/-- the least free code from i on, f codes at most -/
def nxF (rows : List Lk) : Nat → Nat → Int
  | 0, _ => -1
  | f + 1, i => if i < 8192 then (if atI rows (i : Nat) < 0 then (i : Int) else nxF rows f (i + 1)) else -1
def LT.next (s : LT) : Int := nxF s.rows 8192 (s.last + 1)
theorem nxF_cases (rows : List Lk) (f i : Nat) (hf : 8192 ≤ i + f) : (nxF rows f i = -1 ∧ ∀ k, i ≤ k → k < 8192 → 0 ≤ atI rows (k : Nat)) ∨ ∃ n : Nat, nxF rows f i = n ∧ i ≤ n ∧ n < 8192 ∧ atI rows (n : Nat) < 0 ∧ ∀ k, i ≤ k → k < n → 0 ≤ atI rows (k : Nat) := by
  induction f generalizing i with
  | zero => exact .inl ⟨rfl, fun k h1 h2 => by omega⟩
  | succ f ih =>
    rw [nxF]
    by_cases h : i < 8192
    · rw [if_pos h]
      by_cases h2 : atI rows (i : Nat) < 0
      · rw [if_pos h2]; exact .inr ⟨i, rfl, Nat.le_refl _, h, h2, fun k h3 h4 => by omega⟩
      · rw [if_neg h2]
        have hi : ∀ k, i ≤ k → (i + 1 ≤ k → 0 ≤ atI rows (k : Nat)) → 0 ≤ atI rows (k : Nat) := fun k h3 h4 => by
          rcases Nat.eq_or_lt_of_le h3 with h5 | h5
          · subst h5; omega
          · exact h4 h5
        rcases ih (i + 1) (by omega) with ⟨h3, h4⟩ | ⟨n, h3, h4, h5, h6, h7⟩
        · exact .inl ⟨h3, fun k h5 h6 => hi k h5 (fun h7 => h4 k h7 h6)⟩
        · exact .inr ⟨n, h3, by omega, h5, h6, fun k h8 h9 => hi k h8 (fun h10 => h7 k h10 h9)⟩
    · rw [if_neg h]; exact .inl ⟨rfl, fun k h1 h2 => by omega⟩
def parOk (p : Int) : Prop := 0 ≤ p ∧ p ≤ 8191 ∧ p ≠ 256
instance (p : Int) : Decidable (parOk p) := by unfold parOk; infer_instance
/-- a row in its place -/
def ins (rows : List Lk) (r : Lk) : List Lk := rows.take (lwb rows r.code) ++ r :: rows.drop (lwb rows r.code)
def LT.add (s : LT) (p : Int) (c : UInt8) : Int × LT := if s.next < 0 ∨ ¬ parOk p then (-1, s) else (s.next, ⟨ins s.rows ⟨s.next.toNat, p.toNat, c⟩, s.next.toNat⟩)
/-- is a code somebody's parent -/
def isPar (rows : List Lk) (c : Nat) : Bool := rows.any fun r => r.par == c
def LT.clear (s : LT) : LT := ⟨s.rows.filter fun r => isPar s.rows r.code, 256⟩
/-- a code's string, f steps at most, with bytes behind it -/
def txF (rows : List Lk) : Nat → Int → List UInt8 → Option (List UInt8)
  | 0, _, _ => none
  | f + 1, c, out => if 0 ≤ c ∧ c < 256 then some (UInt8.ofNat c.toNat :: out) else if atI rows c < 0 then none else txF rows f (rw' rows (atI rows c).toNat).par ((rw' rows (atI rows c).toNat).byt :: out)
def LT.text (s : LT) (c : Int) : Option (List UInt8) := txF s.rows (s.rows.length + 1) c []
def LT.child (s : LT) (p : Int) (c : UInt8) : Int := match s.rows.find? fun r => decide ((r.par : Int) = p ∧ r.byt = c) with | some r => (r.code : Int) | none => -1
structure LT.ok (s : LT) : Prop where
  srt : srt s.rows
  all : ∀ r ∈ s.rows, 257 ≤ r.code ∧ r.code ≤ 8191 ∧ r.par ≤ 8191 ∧ r.par ≠ 256
  last : 256 ≤ s.last ∧ s.last ≤ 8191
def LT.new : LT := ⟨[], 256⟩
theorem LT.new_ok : LT.new.ok := ⟨fun i j _ h => by simp [LT.new] at h, fun r h => by simp [LT.new] at h, by decide⟩
theorem srt_pair (rows : List Lk) : srt rows ↔ rows.Pairwise (fun a b => a.code < b.code) := by
  rw [List.pairwise_iff_getElem]
  constructor
  · intro h i j hi hj hij
    have := h i j hij hj
    rwa [rw'_get _ _ hi, rw'_get _ _ hj] at this
  · intro h i j hij hj
    rw [rw'_get _ _ hj, rw'_get _ _ (show i < rows.length by omega)]
    exact h i j _ hj hij
theorem LT.clear_ok {s : LT} (h : s.ok) : s.clear.ok := by
  refine ⟨(srt_pair _).2 (((srt_pair _).1 h.srt).filter _), fun r hr => h.all r (List.mem_filter.1 hr).1, ⟨Nat.le_refl 256, show 256 ≤ 8191 by decide⟩⟩
theorem mem_rw' (rows : List Lk) (i : Nat) (h : i < rows.length) : rw' rows i ∈ rows := by rw [rw'_get _ _ h]; exact List.getElem_mem h
theorem mem_iff_rw' (rows : List Lk) (r : Lk) : r ∈ rows ↔ ∃ i, i < rows.length ∧ rw' rows i = r := by
  rw [List.mem_iff_getElem]
  constructor
  · rintro ⟨i, h, e⟩; exact ⟨i, h, by rw [rw'_get _ _ h]; exact e⟩
  · rintro ⟨i, h, e⟩; exact ⟨i, h, by rw [← rw'_get _ _ h]; exact e⟩
theorem ins_mem (rows : List Lk) (r x : Lk) : x ∈ ins rows r ↔ x ∈ rows ∨ x = r := by
  unfold ins
  have e := List.take_append_drop (lwb rows r.code) rows
  rw [List.mem_append, List.mem_cons]
  have : x ∈ rows ↔ x ∈ rows.take (lwb rows r.code) ∨ x ∈ rows.drop (lwb rows r.code) := by
    conv => lhs; rw [← e]
    rw [List.mem_append]
  rw [this]
  exact ⟨fun h => by rcases h with h | h | h; exact .inl (.inl h); exact .inr h; exact .inl (.inr h), fun h => by rcases h with (h | h) | h; exact .inl h; exact .inr (.inr h); exact .inr (.inl h)⟩
theorem ins_srt (rows : List Lk) (r : Lk) (hs : srt rows) (hn : atI rows r.code < 0) : srt (ins rows r) := by
  have hn' := (atI_none rows hs r.code).1 hn
  rw [srt_pair]
  unfold ins
  have hp := (srt_pair rows).1 hs
  have hlt : ∀ x ∈ rows.take (lwb rows r.code), x.code < r.code := fun x hx => by
    obtain ⟨i, h, e⟩ := List.mem_iff_getElem.1 hx
    rw [List.length_take] at h
    rw [List.getElem_take] at e
    have := lwb_lt rows r.code i (by omega)
    rw [rw'_get _ _ (by omega), e] at this
    omega
  have hgt : ∀ x ∈ rows.drop (lwb rows r.code), r.code < x.code := fun x hx => by
    obtain ⟨i, h, e⟩ := List.mem_iff_getElem.1 hx
    rw [List.length_drop] at h
    rw [List.getElem_drop] at e
    have h1 := lwb_all rows hs r.code (lwb rows r.code + i) (by omega) (by omega)
    have h2 := hn' (lwb rows r.code + i) (by omega)
    rw [rw'_get _ _ (by omega), e] at h1 h2
    omega
  rw [List.pairwise_append, List.pairwise_cons]
  refine ⟨hp.sublist (List.take_sublist _ _), ⟨hgt, hp.sublist (List.drop_sublist _ _)⟩, fun a ha b hb => ?_⟩
  rcases List.mem_cons.1 hb with rfl | hb
  · exact hlt a ha
  · have h1 := hlt a ha; have h2 := hgt b hb; omega
theorem LT.next_cases (s : LT) (h : s.ok) : s.next = -1 ∨ ∃ n : Nat, s.next = n ∧ s.last < n ∧ n < 8192 ∧ atI s.rows (n : Nat) < 0 ∧ ∀ k, s.last < k → k < n → 0 ≤ atI s.rows (k : Nat) := by
  rcases nxF_cases s.rows 8192 (s.last + 1) (by omega) with ⟨h1, _⟩ | ⟨n, h1, h2, h3, h4, h5⟩
  · exact .inl h1
  · exact .inr ⟨n, h1, by omega, h3, h4, fun k h6 h7 => h5 k h6 h7⟩
theorem LT.add_ok {s : LT} (h : s.ok) (p : Int) (c : UInt8) : (s.add p c).2.ok := by
  unfold LT.add
  split
  · exact h
  · next hn =>
    rcases s.next_cases h with h1 | ⟨n, h1, h2, h3, h4, _⟩
    · exact absurd (.inl (by omega)) hn
    · have hp : parOk p := by
        by_cases hp : parOk p
        · exact hp
        · exact absurd (.inr hp) hn
      unfold parOk at hp
      dsimp only
      rw [h1, Int.toNat_natCast]
      refine ⟨ins_srt _ _ h.srt h4, fun r hr => ?_, by dsimp only; have := h.last; omega⟩
      rcases (ins_mem _ _ _).1 hr with h5 | rfl
      · exact h.all r h5
      · have := h.last
        dsimp only
        omega
end Go.Proofs.Ytpjebbhjagllgaa
