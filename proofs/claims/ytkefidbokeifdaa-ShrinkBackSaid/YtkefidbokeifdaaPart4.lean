/- Texts put together: LzMath LzMath2 LzMath3 LzNum HstMath HstMath2 BitMath BitWrMath BitBackMath -/

/- Numbers of layer 10: a table of codes with links, by rising codes. -/
namespace Go.Proofs.Ytkefidbokeifdaa
set_option linter.unusedVariables false
set_option linter.unusedSimpArgs false

/-- a code, its parent, its byte -/
structure Lk where
  code : Nat
  par : Nat
  byt : UInt8
deriving DecidableEq
instance : Inhabited Lk := ⟨⟨0, 0, 0⟩⟩
/-- a table: its rows by rising codes, and which code was given out last -/
structure LT where
  rows : List Lk
  last : Nat
deriving DecidableEq
def rw' (rows : List Lk) (i : Nat) : Lk := rows.getD i default
def srt (rows : List Lk) : Prop := ∀ i j, i < j → j < rows.length → (rw' rows i).code < (rw' rows j).code
theorem rw'_get (rows : List Lk) (i : Nat) (h : i < rows.length) : rw' rows i = rows[i] := by unfold rw'; rw [List.getD_eq_getElem?_getD, List.getElem?_eq_getElem h]; rfl
/-- how many codes stand ahead of c -/
def lwb (rows : List Lk) (c : Int) : Nat := (rows.takeWhile fun r => decide ((r.code : Int) < c)).length
theorem lwb_le (rows : List Lk) (c : Int) : lwb rows c ≤ rows.length := by
  unfold lwb; exact (List.takeWhile_sublist _).length_le
theorem lwb_lt (rows : List Lk) (c : Int) (i : Nat) (h : i < lwb rows c) : ((rw' rows i).code : Int) < c := by
  induction rows generalizing i with
  | nil => simp [lwb] at h
  | cons r rs ih =>
    unfold lwb at h
    rw [List.takeWhile_cons] at h
    split at h
    · next hr =>
      cases i with
      | zero => simpa [rw'] using hr
      | succ i => exact ih i (by simpa [lwb] using h)
    · simp at h
theorem lwb_ge (rows : List Lk) (c : Int) (h : lwb rows c < rows.length) : c ≤ ((rw' rows (lwb rows c)).code : Int) := by
  induction rows with
  | nil => simp at h
  | cons r rs ih =>
    unfold lwb at h ⊢
    rw [List.takeWhile_cons] at h ⊢
    split at h
    · next hr =>
      rw [if_pos hr]
      exact ih (by simpa [lwb] using h)
    · next hr =>
      rw [if_neg hr]
      simpa [rw'] using hr
theorem lwb_all (rows : List Lk) (hs : srt rows) (c : Int) (i : Nat) (h1 : lwb rows c ≤ i) (h2 : i < rows.length) : c ≤ ((rw' rows i).code : Int) := by
  have h3 := lwb_ge rows c (by omega)
  rcases Nat.eq_or_lt_of_le h1 with h | h
  · rw [← h]; exact h3
  · have := hs _ _ h h2; omega
theorem lwb_unique (rows : List Lk) (c : Int) (lo : Nat) (h0 : lo ≤ rows.length) (h1 : ∀ i, i < lo → ((rw' rows i).code : Int) < c) (h2 : lo < rows.length → c ≤ ((rw' rows lo).code : Int)) : lo = lwb rows c := by
  rcases Nat.lt_trichotomy lo (lwb rows c) with h | h | h
  · have h3 := lwb_lt rows c lo h
    have h4 := lwb_le rows c
    have := h2 (by omega)
    omega
  · exact h
  · have h3 := h1 _ h
    have := lwb_ge rows c (by omega)
    omega
/-- where a code's row stands -/
def atI (rows : List Lk) (c : Int) : Int := if lwb rows c < rows.length ∧ ((rw' rows (lwb rows c)).code : Int) = c then (lwb rows c : Int) else -1
theorem atI_of (rows : List Lk) (hs : srt rows) (c : Int) (i : Nat) (h : i < rows.length) (hc : ((rw' rows i).code : Int) = c) : atI rows c = i := by
  have : i = lwb rows c := lwb_unique rows c i (by omega) (fun j hj => by have := hs j i hj h; omega) (fun _ => by omega)
  unfold atI
  rw [← this, if_pos ⟨h, hc⟩]
theorem atI_cases (rows : List Lk) (c : Int) : (atI rows c = -1) ∨ ∃ i : Nat, atI rows c = i ∧ i < rows.length ∧ ((rw' rows i).code : Int) = c := by
  unfold atI
  split
  · next h => exact .inr ⟨_, rfl, h.1, h.2⟩
  · exact .inl rfl
theorem atI_none (rows : List Lk) (hs : srt rows) (c : Int) : atI rows c < 0 ↔ ∀ i, i < rows.length → ((rw' rows i).code : Int) ≠ c := by
  constructor
  · intro h i hi hc
    rw [atI_of rows hs c i hi hc] at h; omega
  · intro h
    rcases atI_cases rows c with h1 | ⟨i, h1, h2, h3⟩
    · omega
    · exact absurd h3 (h i h2)
/-- the least free code from i on, f codes at most -/
def nxF (rows : List Lk) : Nat → Nat → Int
  | 0, _ => -1
  | f + 1, i => if i < 8192 then (if atI rows (i : Nat) < 0 then (i : Int) else nxF rows f (i + 1)) else -1
def LT.next (s : LT) : Int := nxF s.rows 8192 (s.last + 1)
theorem nxF_cases (rows : List Lk) (f i : Nat) (hf : 8192 ≤ i + f) : (nxF rows f i = -1 ∧ ∀ k, i ≤ k → k < 8192 → 0 ≤ atI rows (k : Nat)) ∨ ∃ n : Nat, nxF rows f i = n ∧ i ≤ n ∧ n < 8192 ∧ atI rows (n : Nat) < 0 ∧ ∀ k, i ≤ k → k < n → 0 ≤ atI rows (k : Nat) := by
  induction f generalizing i with
  | zero => exact .inl ⟨rfl, fun k h1 h2 => by omega⟩
  | succ f ih =>
    rw [nxF]
    by_cases h : i < 8192
    · rw [if_pos h]
      by_cases h2 : atI rows (i : Nat) < 0
      · rw [if_pos h2]; exact .inr ⟨i, rfl, Nat.le_refl _, h, h2, fun k h3 h4 => by omega⟩
      · rw [if_neg h2]
        have hi : ∀ k, i ≤ k → (i + 1 ≤ k → 0 ≤ atI rows (k : Nat)) → 0 ≤ atI rows (k : Nat) := fun k h3 h4 => by
          rcases Nat.eq_or_lt_of_le h3 with h5 | h5
          · subst h5; omega
          · exact h4 h5
        rcases ih (i + 1) (by omega) with ⟨h3, h4⟩ | ⟨n, h3, h4, h5, h6, h7⟩
        · exact .inl ⟨h3, fun k h5 h6 => hi k h5 (fun h7 => h4 k h7 h6)⟩
        · exact .inr ⟨n, h3, by omega, h5, h6, fun k h8 h9 => hi k h8 (fun h10 => h7 k h10 h9)⟩
    · rw [if_neg h]; exact .inl ⟨rfl, fun k h1 h2 => by omega⟩
def parOk (p : Int) : Prop := 0 ≤ p ∧ p ≤ 8191 ∧ p ≠ 256
instance (p : Int) : Decidable (parOk p) := by unfold parOk; infer_instance
/-- a row in its place -/
def ins (rows : List Lk) (r : Lk) : List Lk := rows.take (lwb rows r.code) ++ r :: rows.drop (lwb rows r.code)
def LT.add (s : LT) (p : Int) (c : UInt8) : Int × LT := if s.next < 0 ∨ ¬ parOk p then (-1, s) else (s.next, ⟨ins s.rows ⟨s.next.toNat, p.toNat, c⟩, s.next.toNat⟩)
/-- is a code somebody's parent -/
def isPar (rows : List Lk) (c : Nat) : Bool := rows.any fun r => r.par == c
def LT.clear (s : LT) : LT := ⟨s.rows.filter fun r => isPar s.rows r.code, 256⟩
/-- a code's string, f steps at most, with bytes behind it -/
def txF (rows : List Lk) : Nat → Int → List UInt8 → Option (List UInt8)
  | 0, _, _ => none
  | f + 1, c, out => if 0 ≤ c ∧ c < 256 then some (UInt8.ofNat c.toNat :: out) else if atI rows c < 0 then none else txF rows f (rw' rows (atI rows c).toNat).par ((rw' rows (atI rows c).toNat).byt :: out)
def LT.text (s : LT) (c : Int) : Option (List UInt8) := txF s.rows (s.rows.length + 1) c []
def LT.child (s : LT) (p : Int) (c : UInt8) : Int := match s.rows.find? fun r => decide ((r.par : Int) = p ∧ r.byt = c) with | some r => (r.code : Int) | none => -1
structure LT.ok (s : LT) : Prop where
  srt : srt s.rows
  all : ∀ r ∈ s.rows, 257 ≤ r.code ∧ r.code ≤ 8191 ∧ r.par ≤ 8191 ∧ r.par ≠ 256
  last : 256 ≤ s.last ∧ s.last ≤ 8191
def LT.new : LT := ⟨[], 256⟩
theorem LT.new_ok : LT.new.ok := ⟨fun i j _ h => by simp [LT.new] at h, fun r h => by simp [LT.new] at h, by decide⟩
theorem srt_pair (rows : List Lk) : srt rows ↔ rows.Pairwise (fun a b => a.code < b.code) := by
  rw [List.pairwise_iff_getElem]
  constructor
  · intro h i j hi hj hij
    have := h i j hij hj
    rwa [rw'_get _ _ hi, rw'_get _ _ hj] at this
  · intro h i j hij hj
    rw [rw'_get _ _ hj, rw'_get _ _ (show i < rows.length by omega)]
    exact h i j _ hj hij
theorem LT.clear_ok {s : LT} (h : s.ok) : s.clear.ok := by
  refine ⟨(srt_pair _).2 (((srt_pair _).1 h.srt).filter _), fun r hr => h.all r (List.mem_filter.1 hr).1, ⟨Nat.le_refl 256, show 256 ≤ 8191 by decide⟩⟩
theorem mem_rw' (rows : List Lk) (i : Nat) (h : i < rows.length) : rw' rows i ∈ rows := by rw [rw'_get _ _ h]; exact List.getElem_mem h
theorem mem_iff_rw' (rows : List Lk) (r : Lk) : r ∈ rows ↔ ∃ i, i < rows.length ∧ rw' rows i = r := by
  rw [List.mem_iff_getElem]
  constructor
  · rintro ⟨i, h, e⟩; exact ⟨i, h, by rw [rw'_get _ _ h]; exact e⟩
  · rintro ⟨i, h, e⟩; exact ⟨i, h, by rw [← rw'_get _ _ h]; exact e⟩
theorem ins_mem (rows : List Lk) (r x : Lk) : x ∈ ins rows r ↔ x ∈ rows ∨ x = r := by
  unfold ins
  have e := List.take_append_drop (lwb rows r.code) rows
  rw [List.mem_append, List.mem_cons]
  have : x ∈ rows ↔ x ∈ rows.take (lwb rows r.code) ∨ x ∈ rows.drop (lwb rows r.code) := by
    conv => lhs; rw [← e]
    rw [List.mem_append]
  rw [this]
  exact ⟨fun h => by rcases h with h | h | h; exact .inl (.inl h); exact .inr h; exact .inl (.inr h), fun h => by rcases h with (h | h) | h; exact .inl h; exact .inr (.inr h); exact .inr (.inl h)⟩
theorem ins_srt (rows : List Lk) (r : Lk) (hs : srt rows) (hn : atI rows r.code < 0) : srt (ins rows r) := by
  have hn' := (atI_none rows hs r.code).1 hn
  rw [srt_pair]
  unfold ins
  have hp := (srt_pair rows).1 hs
  have hlt : ∀ x ∈ rows.take (lwb rows r.code), x.code < r.code := fun x hx => by
    obtain ⟨i, h, e⟩ := List.mem_iff_getElem.1 hx
    rw [List.length_take] at h
    rw [List.getElem_take] at e
    have := lwb_lt rows r.code i (by omega)
    rw [rw'_get _ _ (by omega), e] at this
    omega
  have hgt : ∀ x ∈ rows.drop (lwb rows r.code), r.code < x.code := fun x hx => by
    obtain ⟨i, h, e⟩ := List.mem_iff_getElem.1 hx
    rw [List.length_drop] at h
    rw [List.getElem_drop] at e
    have h1 := lwb_all rows hs r.code (lwb rows r.code + i) (by omega) (by omega)
    have h2 := hn' (lwb rows r.code + i) (by omega)
    rw [rw'_get _ _ (by omega), e] at h1 h2
    omega
  rw [List.pairwise_append, List.pairwise_cons]
  refine ⟨hp.sublist (List.take_sublist _ _), ⟨hgt, hp.sublist (List.drop_sublist _ _)⟩, fun a ha b hb => ?_⟩
  rcases List.mem_cons.1 hb with rfl | hb
  · exact hlt a ha
  · have h1 := hlt a ha; have h2 := hgt b hb; omega
theorem LT.next_cases (s : LT) (h : s.ok) : s.next = -1 ∨ ∃ n : Nat, s.next = n ∧ s.last < n ∧ n < 8192 ∧ atI s.rows (n : Nat) < 0 ∧ ∀ k, s.last < k → k < n → 0 ≤ atI s.rows (k : Nat) := by
  rcases nxF_cases s.rows 8192 (s.last + 1) (by omega) with ⟨h1, _⟩ | ⟨n, h1, h2, h3, h4, h5⟩
  · exact .inl h1
  · exact .inr ⟨n, h1, by omega, h3, h4, fun k h6 h7 => h5 k h6 h7⟩
theorem LT.add_ok {s : LT} (h : s.ok) (p : Int) (c : UInt8) : (s.add p c).2.ok := by
  unfold LT.add
  split
  · exact h
  · next hn =>
    rcases s.next_cases h with h1 | ⟨n, h1, h2, h3, h4, _⟩
    · exact absurd (.inl (by omega)) hn
    · have hp : parOk p := by
        by_cases hp : parOk p
        · exact hp
        · exact absurd (.inr hp) hn
      unfold parOk at hp
      dsimp only
      rw [h1, Int.toNat_natCast]
      refine ⟨ins_srt _ _ h.srt h4, fun r hr => ?_, by dsimp only; have := h.last; omega⟩
      rcases (ins_mem _ _ _).1 hr with h5 | rfl
      · exact h.all r h5
      · have := h.last
        dsimp only
        omega
end Go.Proofs.Ytkefidbokeifdaa
namespace Go.Proofs.Ytkefidbokeifdaa
set_option linter.unusedVariables false
set_option linter.unusedSimpArgs false

/-- a code's row -/
def lk (rows : List Lk) (c : Int) : Option Lk := if atI rows c < 0 then none else some (rw' rows (atI rows c).toNat)
theorem lk_iff (rows : List Lk) (hs : srt rows) (c : Int) (r : Lk) : lk rows c = some r ↔ r ∈ rows ∧ (r.code : Int) = c := by
  unfold lk
  rcases atI_cases rows c with h | ⟨i, h1, h2, h3⟩
  · rw [if_pos (by omega)]
    constructor
    · intro h'; cases h'
    · rintro ⟨hm, hc⟩
      obtain ⟨i, hi, rfl⟩ := (mem_iff_rw' _ _).1 hm
      exact absurd hc ((atI_none rows hs c).1 (by omega) i hi)
  · rw [if_neg (by omega), h1, Int.toNat_natCast]
    constructor
    · intro h'
      obtain rfl : rw' rows i = r := by simpa using h'
      exact ⟨mem_rw' _ _ h2, h3⟩
    · rintro ⟨hm, hc⟩
      obtain ⟨j, hj, rfl⟩ := (mem_iff_rw' _ _).1 hm
      have := atI_of rows hs c j hj hc
      obtain rfl : i = j := by omega
      rfl
theorem lk_none (rows : List Lk) (hs : srt rows) (c : Int) : lk rows c = none ↔ ∀ r ∈ rows, (r.code : Int) ≠ c := by
  constructor
  · intro h r hr hc
    rw [(lk_iff rows hs c r).2 ⟨hr, hc⟩] at h; cases h
  · intro h
    cases hl : lk rows c with
    | none => rfl
    | some r => obtain ⟨h1, h2⟩ := (lk_iff rows hs c r).1 hl; exact absurd h2 (h r h1)
theorem lk_at (rows : List Lk) (c : Int) : lk rows c = none ↔ atI rows c < 0 := by
  unfold lk
  by_cases h : atI rows c < 0
  · rw [if_pos h]; simp [h]
  · rw [if_neg h]; simp [h]
theorem txF_lk (rows : List Lk) (f : Nat) (c : Int) (out : List UInt8) : txF rows (f + 1) c out = if 0 ≤ c ∧ c < 256 then some (UInt8.ofNat c.toNat :: out) else (match lk rows c with | none => none | some r => txF rows f r.par (r.byt :: out)) := by
  rw [txF]
  unfold lk
  split
  · rfl
  · split <;> rfl
theorem txF_acc (rows : List Lk) (f : Nat) (c : Int) (out : List UInt8) : txF rows f c out = (txF rows f c []).map (· ++ out) := by
  induction f generalizing c out with
  | zero => rfl
  | succ f ih =>
    rw [txF_lk, txF_lk]
    split
    · rfl
    · cases lk rows c with
      | none => rfl
      | some r =>
        dsimp only
        rw [ih r.par (r.byt :: out), ih r.par [r.byt]]
        cases txF rows f r.par [] <;> simp
theorem txF_mono (rows rows' : List Lk) (h : ∀ c r, lk rows c = some r → lk rows' c = some r) (f d : Nat) (c : Int) (out t : List UInt8) (ht : txF rows f c out = some t) : txF rows' (f + d) c out = some t := by
  induction f generalizing c out with
  | zero => cases ht
  | succ f ih =>
    rw [show f + 1 + d = (f + d) + 1 by omega, txF_lk]
    rw [txF_lk] at ht
    split at ht
    · next hb => rw [if_pos hb]; exact ht
    · next hb =>
      rw [if_neg hb]
      cases hl : lk rows c with
      | none => rw [hl] at ht; cases ht
      | some r =>
        rw [hl] at ht
        rw [h c r hl]
        exact ih _ _ ht
theorem ins_len (rows : List Lk) (r : Lk) : (ins rows r).length = rows.length + 1 := by
  unfold ins
  have := lwb_le rows r.code
  rw [List.length_append, List.length_cons, List.length_take, List.length_drop]; omega
/-- what Add makes of a table -/
theorem LT.add_yes {s : LT} (h : s.ok) (p : Int) (c : UInt8) (n : Nat) (hn : s.next = n) (hp : parOk p) : s.add p c = ((n : Int), ⟨ins s.rows ⟨n, p.toNat, c⟩, n⟩) ∧ atI s.rows (n : Nat) < 0 ∧ 257 ≤ n ∧ n < 8192 := by
  rcases s.next_cases h with h1 | ⟨m, h1, h2, h3, h4, _⟩
  · omega
  · obtain rfl : m = n := by omega
    have := h.last
    refine ⟨?_, h4, by omega, h3⟩
    unfold LT.add
    rw [if_neg (by rw [hn]; rintro (h' | h'); omega; exact h' hp), hn, Int.toNat_natCast]
theorem lk_ins (rows : List Lk) (hs : srt rows) (r : Lk) (hn : atI rows r.code < 0) (c : Int) (x : Lk) : lk (ins rows r) c = some x ↔ lk rows c = some x ∨ (x = r ∧ (r.code : Int) = c) := by
  rw [lk_iff _ (ins_srt rows r hs hn), lk_iff _ hs, ins_mem]
  constructor
  · rintro ⟨h1 | rfl, h2⟩
    · exact .inl ⟨h1, h2⟩
    · exact .inr ⟨rfl, h2⟩
  · rintro (⟨h1, h2⟩ | ⟨rfl, h2⟩)
    · exact ⟨.inl h1, h2⟩
    · exact ⟨.inr rfl, h2⟩
/-- strings that were told stay -/
theorem text_old {s : LT} (h : s.ok) (p : Int) (c : UInt8) (n : Nat) (hn : s.next = n) (hp : parOk p) (o : Int) (t : List UInt8) (ht : s.text o = some t) : (s.add p c).2.text o = some t := by
  obtain ⟨e, hf, _⟩ := LT.add_yes h p c n hn hp
  rw [e]
  unfold LT.text at *
  dsimp only
  rw [ins_len]
  exact txF_mono _ _ (fun c' r hr => (lk_ins s.rows h.srt ⟨n, p.toNat, c⟩ hf c' r).2 (.inl hr)) _ 1 _ _ _ ht
/-- a code that is given out has its parent's string with the byte behind it -/
theorem text_new {s : LT} (h : s.ok) (p : Int) (c : UInt8) (n : Nat) (hn : s.next = n) (hp : parOk p) (t : List UInt8) (ht : s.text p = some t) : (s.add p c).2.text n = some (t ++ [c]) := by
  obtain ⟨e, hf, h1, h2⟩ := LT.add_yes h p c n hn hp
  rw [e]
  unfold LT.text at *
  dsimp only
  rw [ins_len, txF_lk, if_neg (by omega), (lk_ins s.rows h.srt ⟨n, p.toNat, c⟩ hf n ⟨n, p.toNat, c⟩).2 (.inr ⟨rfl, rfl⟩)]
  dsimp only
  have hp' : ((p.toNat : Nat) : Int) = p := by unfold parOk at hp; omega
  rw [hp', txF_acc]
  have := txF_mono s.rows (ins s.rows ⟨n, p.toNat, c⟩) (fun c' r hr => (lk_ins s.rows h.srt ⟨n, p.toNat, c⟩ hf c' r).2 (.inl hr)) _ 0 _ _ _ ht
  rw [Nat.add_zero] at this
  rw [this]; rfl
theorem txF_len (rows : List Lk) (f : Nat) (c : Int) (out t : List UInt8) (h : txF rows f c out = some t) : t.length ≤ f + out.length := by
  induction f generalizing c out with
  | zero => cases h
  | succ f ih =>
    rw [txF_lk] at h
    split at h
    · obtain rfl := Option.some.inj h
      simp; omega
    · cases hl : lk rows c with
      | none => rw [hl] at h; cases h
      | some r =>
        rw [hl] at h
        have := ih _ _ h
        simp at this; omega
/-- codes 257 to i - 1 are given out, and none is a link's parent 257 -/
structure FullS (s : LT) (i : Nat) : Prop where
  ok : s.ok
  last : s.last + 1 = i
  all : ∀ c : Nat, (0 ≤ atI s.rows (c : Nat)) ↔ 257 ≤ c ∧ c < i
  len : s.rows.length + 257 = i
  par : ∀ r ∈ s.rows, r.par ≠ 257
theorem atI_nil (c : Int) : atI [] c = -1 := by
  rcases atI_cases [] c with h | ⟨i, _, h, _⟩
  · exact h
  · simp at h
theorem FullS.new : FullS LT.new 257 := ⟨LT.new_ok, rfl, fun c => by show 0 ≤ atI [] _ ↔ _; rw [atI_nil]; omega, rfl, fun r h => by simp [LT.new] at h⟩
theorem FullS.next {s : LT} {i : Nat} (h : FullS s i) (hi : i < 8192) : s.next = i := by
  rcases nxF_cases s.rows 8192 (s.last + 1) (by omega) with ⟨h1, h2⟩ | ⟨n, h1, h2, h3, h4, h5⟩
  · have := (h.all i).1 (h2 i (by have := h.last; omega) hi); omega
  · have hl := h.last
    have hni : n = i := by
      rcases Nat.lt_trichotomy n i with h6 | h6 | h6
      · omega
      · exact h6
      · have := (h.all i).1 (h5 i (by omega) h6); omega
    rw [← hni]; exact h1
theorem FullS.none {s : LT} (h : FullS s 8192) : s.next = -1 := by
  rcases nxF_cases s.rows 8192 (s.last + 1) (by omega) with ⟨h1, h2⟩ | ⟨n, h1, h2, h3, h4, h5⟩
  · exact h1
  · have := h.last; omega
theorem atI_has (rows : List Lk) (hs : srt rows) (c : Int) : 0 ≤ atI rows c ↔ ∃ r ∈ rows, (r.code : Int) = c := by
  constructor
  · intro h
    rcases atI_cases rows c with h1 | ⟨i, _, h2, h3⟩
    · omega
    · exact ⟨_, mem_rw' _ _ h2, h3⟩
  · rintro ⟨r, hr, hc⟩
    obtain ⟨i, hi, rfl⟩ := (mem_iff_rw' _ _).1 hr
    rw [atI_of rows hs c i hi hc]; omega
theorem FullS.add {s : LT} {i : Nat} (h : FullS s i) (hi : i < 8192) (p : Nat) (hp : parOk p) (hp2 : p ≠ 257) (c : UInt8) : (s.add p c).1 = i ∧ FullS (s.add p c).2 (i + 1) := by
  obtain ⟨e, hf, h1, h2⟩ := LT.add_yes h.ok p c i (h.next hi) hp
  have hok := LT.add_ok h.ok p c
  rw [e] at hok ⊢
  refine ⟨rfl, hok, rfl, fun c' => ?_, by dsimp only; rw [ins_len]; have := h.len; omega, fun r hr => ?_⟩
  · dsimp only
    rw [atI_has _ hok.srt]
    constructor
    · rintro ⟨r, hr, hc⟩
      rcases (ins_mem _ _ _).1 hr with h3 | rfl
      · have := (h.all r.code).1 ((atI_has _ h.ok.srt _).2 ⟨r, h3, rfl⟩); omega
      · dsimp only at hc; omega
    · rintro ⟨h3, h4⟩
      rcases Nat.lt_or_ge c' i with h5 | h5
      · obtain ⟨r, hr, hc⟩ := (atI_has _ h.ok.srt _).1 ((h.all c').2 ⟨h3, h5⟩)
        exact ⟨r, (ins_mem _ _ _).2 (.inl hr), hc⟩
      · exact ⟨_, (ins_mem _ _ _).2 (.inr rfl), by dsimp only; omega⟩
  · rcases (ins_mem _ _ _).1 hr with h3 | rfl
    · exact h.par r h3
    · simpa using hp2
/-- the first code is free behind Clear -/
theorem FullS.clear {s : LT} {i : Nat} (h : FullS s i) : s.clear.next = 257 := by
  have hok := LT.clear_ok h.ok
  have hfree : atI s.clear.rows ((257 : Nat) : Int) < 0 := by
    rcases Int.lt_or_le (atI s.clear.rows ((257 : Nat) : Int)) 0 with h1 | h1
    · exact h1
    · obtain ⟨r, hr, hc⟩ := (atI_has _ hok.srt _).1 h1
      have h2 := (List.mem_filter.1 hr).2
      unfold isPar at h2
      rw [List.any_eq_true] at h2
      obtain ⟨r', hr', h3⟩ := h2
      have h4 := h.par r' hr'
      simp at h3
      omega
  unfold LT.next
  rw [show s.clear.last + 1 = 257 from rfl]
  rw [nxF, if_pos (by decide), if_pos hfree]
  rfl
end Go.Proofs.Ytkefidbokeifdaa
namespace Go.Proofs.Ytkefidbokeifdaa
set_option linter.unusedVariables false
set_option linter.unusedSimpArgs false

def hs (rows : List Lk) (c : Int) : Bool := (lk rows c).isSome
def lp (rows : List Lk) (c : Int) : Nat := match lk rows c with | some r => r.par | none => 0
def ly (rows : List Lk) (c : Int) : UInt8 := match lk rows c with | some r => r.byt | none => 0
theorem lk_clear {s : LT} (h : s.ok) (c : Int) (r : Lk) : lk s.clear.rows c = some r ↔ lk s.rows c = some r ∧ isPar s.rows r.code = true := by
  rw [lk_iff _ (LT.clear_ok h).srt, lk_iff _ h.srt]
  show r ∈ s.rows.filter _ ∧ _ ↔ _
  rw [List.mem_filter]
  constructor
  · rintro ⟨⟨h1, h2⟩, h3⟩; exact ⟨⟨h1, h3⟩, h2⟩
  · rintro ⟨⟨h1, h3⟩, h2⟩; exact ⟨⟨h1, h2⟩, h3⟩
theorem hs_clear {s : LT} (h : s.ok) (c : Nat) : hs s.clear.rows c = (hs s.rows c && isPar s.rows c) := by
  unfold hs
  cases hl : lk s.rows (c : Int) with
  | none =>
    cases h2 : lk s.clear.rows (c : Int) with
    | none => rfl
    | some r => rw [((lk_clear h c r).1 h2).1] at hl; cases hl
  | some r =>
    have hc := ((lk_iff _ h.srt _ _).1 hl).2
    have hcn : r.code = c := by omega
    cases h2 : lk s.clear.rows (c : Int) with
    | none =>
      cases hp : isPar s.rows c with
      | false => rfl
      | true => rw [(lk_clear h c r).2 ⟨hl, by rw [hcn]; exact hp⟩] at h2; cases h2
    | some r2 =>
      have h3 := (lk_clear h c r2).1 h2
      have hc2 := ((lk_iff _ h.srt _ _).1 h3.1).2
      have : r2.code = c := by omega
      rw [← this, h3.2]; rfl
theorem same_clear {s : LT} (h : s.ok) (c : Int) (hh : hs s.clear.rows c = true) : lp s.clear.rows c = lp s.rows c ∧ ly s.clear.rows c = ly s.rows c := by
  unfold hs at hh
  cases h2 : lk s.clear.rows c with
  | none => rw [h2] at hh; cases hh
  | some r => unfold lp ly; rw [h2, ((lk_clear h c r).1 h2).1]; exact ⟨rfl, rfl⟩
theorem hs_iff (rows : List Lk) (hsr : srt rows) (c : Int) : hs rows c = true ↔ ∃ r ∈ rows, (r.code : Int) = c := by
  unfold hs
  cases h : lk rows c with
  | none =>
    have := (lk_none rows hsr c).1 h
    simp only [Option.isSome_none, Bool.false_eq_true, false_iff]
    rintro ⟨r, hr, hc⟩
    exact this r hr hc
  | some r => simpa using ⟨r, (lk_iff rows hsr c r).1 h⟩
/-- one of the codes 257 to k - 1 has i as its parent -/
def anyP (rows : List Lk) (i : Nat) : Nat → Bool
  | 0 => false
  | k + 1 => anyP rows i k || (decide (257 ≤ k) && (hs rows k && (lp rows k == i)))
theorem anyP_iff (rows : List Lk) (i k : Nat) : anyP rows i k = true ↔ ∃ j, 257 ≤ j ∧ j < k ∧ hs rows j = true ∧ lp rows j = i := by
  induction k with
  | zero => simp [anyP]
  | succ k ih =>
    rw [anyP, Bool.or_eq_true, ih]
    constructor
    · rintro (⟨j, h1, h2, h3⟩ | h)
      · exact ⟨j, h1, by omega, h3⟩
      · simp only [Bool.and_eq_true, decide_eq_true_eq, beq_iff_eq] at h
        exact ⟨k, h.1, by omega, h.2⟩
    · rintro ⟨j, h1, h2, h3, h4⟩
      rcases Nat.lt_or_ge j k with h5 | h5
      · exact .inl ⟨j, h1, h5, h3, h4⟩
      · obtain rfl : j = k := by omega
        right
        simp only [Bool.and_eq_true, decide_eq_true_eq, beq_iff_eq]
        exact ⟨h1, h3, h4⟩
theorem anyP_par {s : LT} (h : s.ok) (m : Nat) (hm : ∀ r ∈ s.rows, r.code < m) (i : Nat) : anyP s.rows i m = isPar s.rows i := by
  rw [Bool.eq_iff_iff, anyP_iff]
  unfold isPar
  rw [List.any_eq_true]
  constructor
  · rintro ⟨j, _, _, h3, h4⟩
    unfold hs at h3
    unfold lp at h4
    cases hl : lk s.rows (j : Nat) with
    | none => rw [hl] at h3; cases h3
    | some r =>
      rw [hl] at h4
      exact ⟨r, ((lk_iff _ h.srt _ _).1 hl).1, by simpa using h4⟩
  · rintro ⟨r, hr, hp⟩
    have hl := (lk_iff _ h.srt (r.code : Nat) r).2 ⟨hr, rfl⟩
    refine ⟨r.code, (h.all r hr).1, hm r hr, by unfold hs; rw [hl]; rfl, by unfold lp; rw [hl]; simpa using hp⟩
/-- counting the codes one by one -/
theorem lwb_step (rows : List Lk) (hsr : srt rows) (i : Nat) : lwb rows ((i + 1 : Nat) : Int) = lwb rows (i : Nat) + (if hs rows (i : Nat) = true then 1 else 0) := by
  have h1 := lwb_le rows (i : Nat)
  symm
  by_cases h : hs rows (i : Nat) = true
  · rw [if_pos h]
    obtain ⟨r, hr, hc⟩ := (hs_iff rows hsr _).1 h
    obtain ⟨j, hj, rfl⟩ := (mem_iff_rw' _ _).1 hr
    have hjl : j = lwb rows (i : Nat) := lwb_unique rows _ j (by omega) (fun k hk => by have := hsr k j hk hj; omega) (fun _ => by omega)
    refine lwb_unique rows _ _ (by omega) (fun k hk => ?_) (fun hk => ?_)
    · rcases Nat.lt_or_ge k j with h2 | h2
      · have := hsr k j h2 hj; omega
      · obtain rfl : k = j := by omega
        omega
    · have := hsr j (lwb rows (i : Nat) + 1) (by omega) hk; omega
  · rw [if_neg h, Nat.add_zero]
    refine lwb_unique rows _ _ (by omega) (fun k hk => by have := lwb_lt rows (i : Nat) k hk; omega) (fun hk => ?_)
    have h2 := lwb_ge rows (i : Nat) hk
    rcases Int.lt_or_le ((rw' rows (lwb rows (i : Nat))).code : Int) ((i : Int) + 1) with h3 | h3
    · exact absurd ((hs_iff rows hsr _).2 ⟨_, mem_rw' _ _ hk, by omega⟩) h
    · omega
theorem lwb_first (rows : List Lk) (h : ∀ r ∈ rows, 257 ≤ r.code) : lwb rows ((257 : Nat) : Int) = 0 :=
  (lwb_unique rows _ 0 (by omega) (fun i hi => by omega) (fun hk => by have := h _ (mem_rw' rows 0 hk); omega)).symm
theorem lwb_last (rows : List Lk) (m : Nat) (h : ∀ r ∈ rows, r.code < m) : lwb rows (m : Nat) = rows.length :=
  (lwb_unique rows _ rows.length (Nat.le_refl _) (fun i hi => by have := h _ (mem_rw' rows i hi); omega) (fun hk => by omega)).symm
/-- the first free code behind Clear -/
theorem next_clear {s : LT} (h : s.ok) (k : Nat) (hk : k ≤ 400) (hm : ∀ r ∈ s.rows, r.code ≤ 256 + k) : ∃ n : Nat, s.clear.next = n ∧ 257 ≤ n ∧ n ≤ 257 + k ∧ hs s.clear.rows (n : Nat) = false ∧ ∀ j, 257 ≤ j → j < n → hs s.clear.rows (j : Nat) = true := by
  have hok := LT.clear_ok h
  have hha : ∀ c : Int, hs s.clear.rows c = true ↔ 0 ≤ atI s.clear.rows c := fun c => by rw [hs_iff _ hok.srt, atI_has _ hok.srt]
  have hfree : atI s.clear.rows ((257 + k : Nat) : Int) < 0 := by
    rcases Int.lt_or_le (atI s.clear.rows ((257 + k : Nat) : Int)) 0 with h1 | h1
    · exact h1
    · obtain ⟨r, hr, hc⟩ := (atI_has _ hok.srt _).1 h1
      have := hm r (List.mem_filter.1 hr).1
      omega
  rcases nxF_cases s.clear.rows 8192 (s.clear.last + 1) (by omega) with ⟨h1, h2⟩ | ⟨n, h1, h2, h3, h4, h5⟩
  · have := h2 (257 + k) (by show 257 ≤ _; omega) (by omega); omega
  · have hl : s.clear.last = 256 := rfl
    rw [hl] at h2 h5
    refine ⟨n, h1, by omega, ?_, ?_, fun j h6 h7 => (hha _).2 (h5 j (by omega) h7)⟩
    · rcases Nat.lt_or_ge (257 + k) n with h6 | h6
      · have := h5 (257 + k) (by omega) h6; omega
      · exact h6
    · cases hx : hs s.clear.rows (n : Nat) with
      | false => rfl
      | true => have := (hha _).1 hx; omega
end Go.Proofs.Ytkefidbokeifdaa
namespace Go.Proofs.Ytkefidbokeifdaa
set_option linter.unusedVariables false
set_option linter.unusedSimpArgs false

/-- what a code has -/
structure Slt where
  par : Nat
  byt : UInt8
  on : Bool
deriving DecidableEq
def Slt.no : Slt := ⟨0, 0, false⟩
def sloF (rows : List Lk) (c : Nat) : Slt := match lk rows (c : Int) with | some r => ⟨r.par, r.byt, true⟩ | none => Slt.no
theorem sloF_some {rows : List Lk} {c : Nat} {r : Lk} (h : lk rows (c : Int) = some r) : sloF rows c = ⟨r.par, r.byt, true⟩ := by unfold sloF; rw [h]
theorem sloF_none {rows : List Lk} {c : Nat} (h : lk rows (c : Int) = none) : sloF rows c = Slt.no := by unfold sloF; rw [h]
theorem sloF_on {rows : List Lk} {c : Nat} : (sloF rows c).on = decide (0 ≤ atI rows c) := by
  cases h : lk rows (c : Int) with
  | none => rw [sloF_none h]; have := (lk_at rows c).1 h; exact (decide_eq_false (by omega)).symm
  | some r =>
    rw [sloF_some h]
    refine (decide_eq_true ?_).symm
    rcases Int.lt_or_le (atI rows c) 0 with h1 | h1
    · rw [(lk_at rows c).2 h1] at h; cases h
    · exact h1
def slots (f : Nat → Slt) : List Slt := (List.range 8192).map f
theorem slots_len (f : Nat → Slt) : (slots f).length = 8192 := by unfold slots; rw [List.length_map, List.length_range]
theorem slots_at (f : Nat → Slt) (c : Nat) (h : c < 8192) : (slots f)[c]? = some (f c) := by
  unfold slots; rw [List.getElem?_map, List.getElem?_range h]; rfl
theorem slots_get (f : Nat → Slt) (c : Nat) (h : c < (slots f).length) : (slots f)[c] = f c := by
  have h2 := h
  rw [slots_len] at h2
  exact (List.getElem?_eq_some_iff.1 (slots_at f c h2)).2
theorem slots_set (f : Nat → Slt) (c : Nat) (x : Slt) : (slots f).set c x = slots fun k => if k = c then x else f k := by
  apply List.ext_getElem
  · rw [List.length_set, slots_len, slots_len]
  · intro i h1 h2
    rw [List.getElem_set, slots_get, slots_get]
    by_cases e : c = i
    · subst e; simp
    · rw [if_neg e, if_neg (fun h => e h.symm)]
theorem slots_congr {f g : Nat → Slt} (h : ∀ c, c < 8192 → f c = g c) : slots f = slots g := by
  unfold slots
  exact List.map_congr_left fun c hc => h c (List.mem_range.1 hc)
/-- gs are the codes that have links -/
def Gvn (rows : List Lk) (gs : List Nat) : Prop := gs.Perm (rows.map Lk.code)
theorem Gvn.len {rows : List Lk} {gs : List Nat} (h : Gvn rows gs) : gs.length = rows.length := by have := List.Perm.length_eq h; rwa [List.length_map] at this
theorem Gvn.mem {rows : List Lk} {gs : List Nat} (h : Gvn rows gs) (hs : srt rows) (c : Nat) : c ∈ gs ↔ ∃ r, lk rows (c : Int) = some r := by
  rw [List.Perm.mem_iff h, List.mem_map]
  constructor
  · rintro ⟨r, hr, rfl⟩; exact ⟨r, (lk_iff rows hs _ r).2 ⟨hr, rfl⟩⟩
  · rintro ⟨r, hr⟩
    obtain ⟨h1, h2⟩ := (lk_iff rows hs _ r).1 hr
    exact ⟨r, h1, by omega⟩
theorem Gvn.nodup {rows : List Lk} {gs : List Nat} (h : Gvn rows gs) (hs : srt rows) : gs.Nodup := by
  rw [List.Perm.nodup_iff h]
  have := (srt_pair rows).1 hs
  show List.Pairwise _ _
  rw [List.pairwise_map]
  exact this.imp fun h => by omega
theorem Gvn.nil : Gvn [] [] := List.Perm.nil
theorem Gvn.add {rows : List Lk} {gs : List Nat} (h : Gvn rows gs) (r : Lk) : Gvn (ins rows r) (gs ++ [r.code]) := by
  unfold Gvn ins at *
  rw [List.map_append, List.map_cons]
  have e : rows.map Lk.code = (rows.take (lwb rows r.code)).map Lk.code ++ (rows.drop (lwb rows r.code)).map Lk.code := by rw [← List.map_append, List.take_append_drop]
  rw [e] at h
  refine (List.perm_append_comm).trans ?_
  refine (List.Perm.cons r.code h).trans ?_
  exact List.perm_middle.symm
theorem Gvn.clear {s : LT} {gs : List Nat} (h : Gvn s.rows gs) : Gvn s.clear.rows (gs.filter (isPar s.rows)) := by
  unfold Gvn at *
  have e : (s.clear.rows).map Lk.code = (s.rows.map Lk.code).filter (isPar s.rows) := by
    rw [List.filter_map]; rfl
  rw [e]
  exact List.Perm.filter _ h
theorem Gvn.par {rows : List Lk} {gs : List Nat} (h : Gvn rows gs) (hs : srt rows) (c : Nat) : isPar rows c = true ↔ ∃ x, x ∈ gs ∧ (sloF rows x).par = c := by
  unfold isPar
  rw [List.any_eq_true]
  constructor
  · rintro ⟨r, hr, hp⟩
    have hl := (lk_iff rows hs (r.code : Nat) r).2 ⟨hr, rfl⟩
    exact ⟨r.code, (h.mem hs _).2 ⟨r, hl⟩, by rw [sloF_some hl]; simpa using hp⟩
  · rintro ⟨x, hx, hp⟩
    obtain ⟨r, hr⟩ := (h.mem hs x).1 hx
    rw [sloF_some hr] at hp
    exact ⟨r, ((lk_iff rows hs _ r).1 hr).1, by simpa using hp⟩
theorem sloF_small {s : LT} (h : s.ok) (c : Nat) : (sloF s.rows c).par < 8192 := by
  cases hl : lk s.rows (c : Int) with
  | none => rw [sloF_none hl]; decide
  | some r => rw [sloF_some hl]; have := (h.all r ((lk_iff _ h.srt _ r).1 hl).1).2.2.1; dsimp only; omega
theorem Gvn.small {s : LT} {gs : List Nat} (h : Gvn s.rows gs) (ho : s.ok) {c : Nat} (hc : c ∈ gs) : 257 ≤ c ∧ c < 8192 := by
  obtain ⟨r, hr⟩ := (h.mem ho.srt c).1 hc
  obtain ⟨h1, h2⟩ := (lk_iff _ ho.srt _ r).1 hr
  have := ho.all r h1
  omega
/-- slots behind Add -/
theorem sloF_ins {rows : List Lk} (hs : srt rows) (r : Lk) (hn : atI rows r.code < 0) (c : Nat) : sloF (ins rows r) c = if c = r.code then ⟨r.par, r.byt, true⟩ else sloF rows c := by
  by_cases e : c = r.code
  · rw [if_pos e, sloF_some ((lk_ins rows hs r hn (c : Int) r).2 (.inr ⟨rfl, by omega⟩))]
  · rw [if_neg e]
    cases hl : lk rows (c : Int) with
    | some x => rw [sloF_some hl, sloF_some ((lk_ins rows hs r hn (c : Int) x).2 (.inl hl))]
    | none =>
      rw [sloF_none hl]
      refine sloF_none ?_
      cases h2 : lk (ins rows r) (c : Int) with
      | none => rfl
      | some x =>
        rcases (lk_ins rows hs r hn (c : Int) x).1 h2 with h3 | ⟨_, h3⟩
        · rw [hl] at h3; cases h3
        · omega
/-- slots behind Clear -/
theorem sloF_clear {s : LT} (h : s.ok) (c : Nat) : sloF s.clear.rows c = if isPar s.rows c = true then sloF s.rows c else Slt.no := by
  cases hl : lk s.clear.rows (c : Int) with
  | some r =>
    obtain ⟨h1, h2⟩ := (lk_clear h (c : Int) r).1 hl
    have hc := ((lk_iff _ h.srt _ r).1 h1).2
    have e : r.code = c := by omega
    rw [e] at h2
    rw [sloF_some hl, if_pos h2, sloF_some h1]
  | none =>
    rw [sloF_none hl]
    split
    · next hp =>
      cases h1 : lk s.rows (c : Int) with
      | none => rw [sloF_none h1]
      | some r =>
        have hc := ((lk_iff _ h.srt _ r).1 h1).2
        have e : r.code = c := by omega
        rw [(lk_clear h (c : Int) r).2 ⟨h1, by rw [e]; exact hp⟩] at hl; cases hl
    · rfl
/-- slots, i codes into Clear -/
def cleF (rows : List Lk) (done : List Nat) (c : Nat) : Slt := if c ∈ done ∧ isPar rows c = false then Slt.no else sloF rows c
theorem cleF_nil (rows : List Lk) : cleF rows [] = sloF rows := by funext c; simp [cleF]
theorem cleF_keep {rows : List Lk} {done : List Nat} {c : Nat} (h : isPar rows c = true) : cleF rows (done ++ [c]) = cleF rows done := by
  funext k
  unfold cleF
  by_cases e : k = c
  · subst e; rw [if_neg (by rw [h]; simp), if_neg (by rw [h]; simp)]
  · simp [e]
theorem cleF_drop {rows : List Lk} {done : List Nat} {c : Nat} (h : isPar rows c = false) : cleF rows (done ++ [c]) = fun k => if k = c then Slt.no else cleF rows done k := by
  funext k
  unfold cleF
  by_cases e : k = c
  · subst e; rw [if_pos ⟨by simp, h⟩, if_pos rfl]
  · simp [e]
theorem cleF_all {s : LT} {gs : List Nat} (h : s.ok) (hg : Gvn s.rows gs) : cleF s.rows gs = sloF s.clear.rows := by
  funext c
  rw [sloF_clear h]
  unfold cleF
  cases hp : isPar s.rows c with
  | true => simp
  | false =>
    simp only [and_true, Bool.false_eq_true, if_false]
    split
    · rfl
    · next hn =>
      refine sloF_none ?_
      cases hl : lk s.rows (c : Int) with
      | none => rfl
      | some r => exact absurd ((hg.mem h.srt c).2 ⟨r, hl⟩) hn
/-- L tells the least of the codes that have a link -/
def Lst (rows : List Lk) (cs : List Nat) (L : Int → UInt8 → Option Nat) : Prop := ∀ p c, match L p c with
  | none => ∀ x ∈ cs, ¬ (((sloF rows x).par : Int) = p ∧ (sloF rows x).byt = c)
  | some m => m ∈ cs ∧ ((sloF rows m).par : Int) = p ∧ (sloF rows m).byt = c ∧ ∀ x ∈ cs, ((sloF rows x).par : Int) = p → (sloF rows x).byt = c → m ≤ x
theorem Lst.nil (rows : List Lk) : Lst rows [] fun _ _ => none := fun p c => by simp
theorem Lst.congr {rows rows' : List Lk} {cs : List Nat} {L : Int → UInt8 → Option Nat} (h : Lst rows cs L) (he : ∀ x ∈ cs, sloF rows' x = sloF rows x) : Lst rows' cs L := fun p c => by
  have h1 := h p c
  cases hL : L p c with
  | none =>
    rw [hL] at h1
    exact fun x hx => by rw [he x hx]; exact h1 x hx
  | some m =>
    rw [hL] at h1
    obtain ⟨h2, h3, h4, h5⟩ := h1
    exact ⟨h2, by rw [he m h2]; exact h3, by rw [he m h2]; exact h4, fun x hx => by rw [he x hx]; exact h5 x hx⟩
/-- one code more: the new one is the least -/
theorem Lst.put {rows : List Lk} {cs : List Nat} {L : Int → UInt8 → Option Nat} (h : Lst rows cs L) (x : Nat)
    (hx : L (sloF rows x).par (sloF rows x).byt = none ∨ ∃ m, L (sloF rows x).par (sloF rows x).byt = some m ∧ x < m) :
    Lst rows (cs ++ [x]) fun p c => if p = (sloF rows x).par ∧ c = (sloF rows x).byt then some x else L p c := fun p c => by
  by_cases e : p = (sloF rows x).par ∧ c = (sloF rows x).byt
  · obtain ⟨rfl, rfl⟩ := e
    simp only [and_self, if_true]
    refine ⟨by simp, trivial, trivial, fun y hy h1 h2 => ?_⟩
    rcases List.mem_append.1 hy with hy | hy
    · have h3 := h (sloF rows x).par (sloF rows x).byt
      rcases hx with hx | ⟨m, hx, hm⟩
      · rw [hx] at h3; exact absurd ⟨h1, h2⟩ (h3 y hy)
      · rw [hx] at h3
        have := h3.2.2.2 y hy h1 h2
        omega
    · simp at hy; omega
  · simp only [if_neg e]
    have h3 := h p c
    have hne : ¬ (((sloF rows x).par : Int) = p ∧ (sloF rows x).byt = c) := fun g => e ⟨g.1.symm, g.2.symm⟩
    cases hL : L p c with
    | none =>
      rw [hL] at h3
      intro y hy
      rcases List.mem_append.1 hy with hy | hy
      · exact h3 y hy
      · simp at hy; subst hy; exact hne
    | some m =>
      rw [hL] at h3
      obtain ⟨h4, h5, h6, h7⟩ := h3
      refine ⟨List.mem_append_left _ h4, h5, h6, fun y hy h1 h2 => ?_⟩
      rcases List.mem_append.1 hy with hy | hy
      · exact h7 y hy h1 h2
      · simp at hy; subst hy; exact absurd ⟨h1, h2⟩ hne
/-- one code more: another one is less -/
theorem Lst.skip {rows : List Lk} {cs : List Nat} {L : Int → UInt8 → Option Nat} (h : Lst rows cs L) (x m : Nat) (hx : L (sloF rows x).par (sloF rows x).byt = some m) (hm : m ≤ x) : Lst rows (cs ++ [x]) L := fun p c => by
  have h3 := h p c
  cases hL : L p c with
  | none =>
    rw [hL] at h3
    intro y hy
    rcases List.mem_append.1 hy with hy | hy
    · exact h3 y hy
    · simp at hy; subst hy
      rintro ⟨rfl, rfl⟩
      rw [hx] at hL; cases hL
  | some m' =>
    rw [hL] at h3
    obtain ⟨h4, h5, h6, h7⟩ := h3
    refine ⟨List.mem_append_left _ h4, h5, h6, fun y hy h1 h2 => ?_⟩
    rcases List.mem_append.1 hy with hy | hy
    · exact h7 y hy h1 h2
    · simp at hy; subst hy
      rw [← h1, ← h2, hx] at hL
      obtain rfl := Option.some.inj hL
      exact hm
theorem Lst.child {s : LT} {gs : List Nat} {L : Int → UInt8 → Option Nat} (ho : s.ok) (hg : Gvn s.rows gs) (h : Lst s.rows gs L) (p : Int) (c : UInt8) : s.child p c = match L p c with | some m => (m : Int) | none => -1 := by
  have h1 := h p c
  unfold LT.child
  cases hf : s.rows.find? fun r => decide ((r.par : Int) = p ∧ r.byt = c) with
  | none =>
    cases hL : L p c with
    | none => rfl
    | some m =>
      rw [hL] at h1
      obtain ⟨h2, h3, h4, _⟩ := h1
      obtain ⟨r, hr⟩ := (hg.mem ho.srt m).1 h2
      rw [sloF_some hr] at h3 h4
      have := List.find?_eq_none.1 hf r ((lk_iff _ ho.srt _ r).1 hr).1
      simp only [decide_eq_true_eq] at this
      exact absurd ⟨h3, h4⟩ this
  | some r =>
    obtain ⟨hpr, as, bs, hl, has⟩ := List.find?_eq_some_iff_append.1 hf
    simp only [decide_eq_true_eq] at hpr
    have hrm : r ∈ s.rows := by rw [hl]; simp
    have hlr := (lk_iff _ ho.srt (r.code : Nat) r).2 ⟨hrm, rfl⟩
    cases hL : L p c with
    | none =>
      rw [hL] at h1
      have := h1 r.code ((hg.mem ho.srt _).2 ⟨r, hlr⟩)
      rw [sloF_some hlr] at this
      exact absurd hpr this
    | some m =>
      rw [hL] at h1
      obtain ⟨h2, h3, h4, h5⟩ := h1
      obtain ⟨r2, hr2⟩ := (hg.mem ho.srt m).1 h2
      have hle := h5 r.code ((hg.mem ho.srt _).2 ⟨r, hlr⟩) (by rw [sloF_some hlr]; exact hpr.1) (by rw [sloF_some hlr]; exact hpr.2)
      rw [sloF_some hr2] at h3 h4
      obtain ⟨hm2, hc2⟩ := (lk_iff _ ho.srt _ r2).1 hr2
      have hpw := (srt_pair _).1 ho.srt
      rw [hl] at hpw hm2
      have hge : r.code ≤ r2.code := by
        rcases List.mem_append.1 hm2 with h6 | h6
        · have := has r2 h6
          simp only [Bool.not_eq_true', decide_eq_false_iff_not] at this
          exact absurd ⟨h3, h4⟩ this
        · rcases List.mem_cons.1 h6 with rfl | h6
          · exact Nat.le_refl _
          · exact Nat.le_of_lt ((List.pairwise_cons.1 (List.pairwise_append.1 hpw).2.1).1 r2 h6)
      show (r.code : Int) = (m : Int)
      omega
/-- a chain that ends goes through no code twice -/
structure Mn (rows : List Lk) (f : Nat) (c : Int) : Prop where
  yes : txF rows f c [] ≠ none
  no : ∀ g, g < f → txF rows g c [] = none
theorem txF_none {rows : List Lk} {f : Nat} {c : Int} {out out' : List UInt8} (h : txF rows f c out = none) : txF rows f c out' = none := by
  rw [txF_acc] at h ⊢
  rw [Option.map_eq_none_iff] at h ⊢
  exact h
theorem Mn.one {rows : List Lk} {f g : Nat} {c : Int} (h : Mn rows f c) (h' : Mn rows g c) : f = g := by
  rcases Nat.lt_trichotomy f g with h1 | h1 | h1
  · exact absurd (h'.no f h1) h.yes
  · exact h1
  · exact absurd (h.no g h1) h'.yes
theorem Mn.path {rows : List Lk} (hs : srt rows) (f : Nat) (c : Int) (h : Mn rows f c) : ∃ V : List Lk, V.Nodup ∧ (∀ r ∈ V, r ∈ rows) ∧ V.length + 1 = f ∧ ∀ r ∈ V, ∃ g, g ≤ f ∧ Mn rows g r.code := by
  induction f generalizing c with
  | zero => exact absurd rfl h.yes
  | succ f ih =>
    have hy := h.yes
    rw [txF_lk] at hy
    by_cases hb : 0 ≤ c ∧ c < 256
    · have h0 : f = 0 := by
        rcases Nat.eq_zero_or_pos f with h0 | h0
        · exact h0
        · have := h.no 1 (by omega)
          rw [txF_lk, if_pos hb] at this; cases this
      subst h0
      exact ⟨[], List.Pairwise.nil, by simp, rfl, by simp⟩
    · rw [if_neg hb] at hy
      cases hl : lk rows c with
      | none => rw [hl] at hy; exact absurd rfl hy
      | some r =>
        rw [hl] at hy
        obtain ⟨hm, hc⟩ := (lk_iff rows hs c r).1 hl
        have hmn : Mn rows f (r.par : Int) := ⟨fun e => hy (txF_none e), fun g hg => by
          have := h.no (g + 1) (by omega)
          rw [txF_lk, if_neg hb, hl] at this
          exact txF_none this⟩
        obtain ⟨V, h1, h2, h3, h4⟩ := ih _ hmn
        refine ⟨r :: V, List.nodup_cons.2 ⟨fun hr => ?_, h1⟩, fun x hx => ?_, by rw [List.length_cons]; omega, fun x hx => ?_⟩
        · obtain ⟨g, hg, hx⟩ := h4 r hr
          rw [hc] at hx
          have := h.one hx
          omega
        · rcases List.mem_cons.1 hx with rfl | hx
          · exact hm
          · exact h2 x hx
        · rcases List.mem_cons.1 hx with rfl | hx
          · exact ⟨f + 1, Nat.le_refl _, by rw [hc]; exact h⟩
          · obtain ⟨g, hg, hx⟩ := h4 x hx
            exact ⟨g, by omega, hx⟩
theorem nodup_le (V : List Lk) : ∀ rows : List Lk, V.Nodup → (∀ r ∈ V, r ∈ rows) → V.length ≤ rows.length := by
  induction V with
  | nil => intro _ _ _; simp
  | cons r V ih =>
    intro rows hn hm
    obtain ⟨h1, h2⟩ := List.nodup_cons.1 hn
    have hr := hm r (by simp)
    have := ih (rows.erase r) h2 (fun x hx => (List.mem_erase_of_ne (fun e => by subst e; exact h1 hx)).2 (hm x (by simp [hx])))
    rw [List.length_erase_of_mem hr] at this
    have : 0 < rows.length := List.length_pos_of_mem hr
    rw [List.length_cons]; omega
theorem txF_grow {rows : List Lk} {f d : Nat} {c : Int} {t : List UInt8} (h : txF rows f c [] = some t) : txF rows (f + d) c [] = some t := txF_mono rows rows (fun _ _ h => h) f d c [] t h
theorem txF_min {rows : List Lk} {f : Nat} {c : Int} (h : txF rows f c [] ≠ none) : ∃ g, g ≤ f ∧ Mn rows g c := by
  induction f with
  | zero => exact absurd rfl h
  | succ f ih =>
    by_cases h1 : txF rows f c [] = none
    · refine ⟨f + 1, Nat.le_refl _, h, fun g hg => ?_⟩
      cases hx : txF rows g c [] with
      | none => rfl
      | some t =>
        have := txF_grow (d := f - g) hx
        rw [show g + (f - g) = f by omega, h1] at this; cases this
    · obtain ⟨g, h2, h3⟩ := ih h1
      exact ⟨g, by omega, h3⟩
/-- so many steps are enough -/
theorem txF_enough {rows : List Lk} (hs : srt rows) (f : Nat) (c : Int) (hf : rows.length + 1 ≤ f) : txF rows f c [] = txF rows (rows.length + 1) c [] := by
  cases h : txF rows f c [] with
  | none =>
    cases h2 : txF rows (rows.length + 1) c [] with
    | none => rfl
    | some t =>
      have := txF_grow (d := f - (rows.length + 1)) h2
      rw [show rows.length + 1 + (f - (rows.length + 1)) = f by omega, h] at this; cases this
  | some t =>
    obtain ⟨g, hg, hm⟩ := txF_min (by rw [h]; simp : txF rows f c [] ≠ none)
    obtain ⟨V, h1, h2, h3, _⟩ := hm.path hs
    have hl := nodup_le V rows h1 h2
    cases hx : txF rows g c [] with
    | none => exact absurd hx hm.yes
    | some u =>
      have e1 := txF_grow (d := f - g) hx
      have e2 := txF_grow (d := rows.length + 1 - g) hx
      rw [show g + (f - g) = f by omega, h] at e1
      rw [show g + (rows.length + 1 - g) = rows.length + 1 by omega] at e2
      rw [e2, e1]
theorem txF_pos {rows : List Lk} {f : Nat} {c : Int} {out t : List UInt8} (h : txF rows f c out = some t) : out.length + 1 ≤ t.length := by
  induction f generalizing c out with
  | zero => cases h
  | succ f ih =>
    rw [txF_lk] at h
    split at h
    · obtain rfl := Option.some.inj h; simp
    · cases hl : lk rows c with
      | none => rw [hl] at h; cases h
      | some r =>
        rw [hl] at h
        have := ih h
        rw [List.length_cons] at this; omega
/-- how long a string is; 0: there is none -/
def lenO (o : Option (List UInt8)) : Nat := match o with | some t => t.length | none => 0
theorem lenO_acc (rows : List Lk) (f : Nat) (c : Int) (b : UInt8) : lenO (txF rows f c [b]) = if lenO (txF rows f c []) = 0 then 0 else lenO (txF rows f c []) + 1 := by
  rw [txF_acc]
  cases h : txF rows f c [] with
  | none => rfl
  | some t =>
    have := txF_pos h
    simp at this
    have e : lenO (some t) = t.length := rfl
    rw [e, if_neg (by omega)]
    simp [lenO]
/-- a string's length, counted on from n - 1 -/
def onF (rows : List Lk) (f : Nat) (c : Int) (n : Nat) : Nat := if lenO (txF rows f c []) = 0 then 0 else n + lenO (txF rows f c [])
theorem onF_byte (rows : List Lk) (f : Nat) (c n : Nat) (h : c < 256) : onF rows (f + 1) c n = n + 1 := by
  have e : txF rows (f + 1) c [] = some [UInt8.ofNat (c : Int).toNat] := by rw [txF_lk, if_pos ⟨by omega, by omega⟩]
  unfold onF; rw [e]; rfl
theorem onF_none (rows : List Lk) (f : Nat) (c n : Nat) (h : ¬ c < 256) (hl : (sloF rows c).on = false) : onF rows (f + 1) c n = 0 := by
  have h0 : lk rows (c : Int) = none := by
    cases h1 : lk rows (c : Int) with
    | none => rfl
    | some r => rw [sloF_some h1] at hl; cases hl
  have e : txF rows (f + 1) c [] = none := by rw [txF_lk, if_neg (by omega), h0]
  unfold onF; rw [e]; rfl
theorem onF_next (rows : List Lk) (f : Nat) (c n : Nat) (h : ¬ c < 256) (hl : (sloF rows c).on = true) : onF rows (f + 1) c n = onF rows f (sloF rows c).par (n + 1) := by
  cases h1 : lk rows (c : Int) with
  | none => rw [sloF_none h1] at hl; cases hl
  | some r =>
    rw [sloF_some h1]
    have e : txF rows (f + 1) c [] = txF rows f r.par [r.byt] := by rw [txF_lk, if_neg (by omega), h1]
    unfold onF
    rw [e, lenO_acc]
    generalize lenO (txF rows f r.par []) = m
    show (if (if m = 0 then 0 else m + 1) = 0 then 0 else n + (if m = 0 then 0 else m + 1)) = if m = 0 then 0 else n + 1 + m
    by_cases h0 : m = 0
    · simp [h0]
    · rw [if_neg h0, if_neg h0, if_neg (by omega)]; omega
theorem onF_zero (rows : List Lk) (c : Int) (n : Nat) : onF rows 0 c n = 0 := rfl
theorem onF_text {s : LT} (h : s.ok) (hl : s.rows.length ≤ 7935) (c : Int) : onF s.rows 7936 c 0 = lenO (s.text c) := by
  unfold onF LT.text
  rw [txF_enough h.srt 7936 c (by omega)]
  split <;> omega
/-- cc's string is what t begins with -/
def Bgn (rows : List Lk) (t : List UInt8) (cc at_ : Nat) : Prop := ∃ f, txF rows f cc [] = some (t.take (at_ + 1))
theorem Bgn.step {rows : List Lk} {t : List UInt8} {cc a : Nat} (h : Bgn rows t cc (a + 1)) (ha : a + 1 < t.length) : (sloF rows cc).byt = t.getD (a + 1) 0 ∧ Bgn rows t (sloF rows cc).par a ∧ (sloF rows cc).on = true := by
  obtain ⟨f, hf⟩ := h
  cases f with
  | zero => cases hf
  | succ f =>
    rw [txF_lk] at hf
    have hlen : (t.take (a + 1 + 1)).length = a + 2 := by rw [List.length_take]; omega
    split at hf
    · have := Option.some.inj hf
      rw [← this] at hlen
      simp at hlen
    · cases hl : lk rows (cc : Int) with
      | none => rw [hl] at hf; cases hf
      | some r =>
        rw [hl] at hf
        dsimp only at hf
        rw [txF_acc, Option.map_eq_some_iff] at hf
        obtain ⟨u, hu, he⟩ := hf
        rw [List.take_add_one] at he
        have hg : t[a + 1]? = some (t.getD (a + 1) 0) := by rw [List.getD_eq_getElem?_getD, List.getElem?_eq_getElem ha]; rfl
        rw [hg] at he
        obtain ⟨h1, h2⟩ := List.append_inj' he rfl
        rw [sloF_some hl]
        refine ⟨?_, ⟨f, by rw [hu, h1]⟩, rfl⟩
        simpa using h2
theorem Bgn.first {rows : List Lk} {t : List UInt8} {cc : Nat} (h : Bgn rows t cc 0) (ht : 0 < t.length) : cc < 256 ∧ t.getD 0 0 = UInt8.ofNat cc := by
  obtain ⟨f, hf⟩ := h
  cases f with
  | zero => cases hf
  | succ f =>
    rw [txF_lk] at hf
    obtain ⟨b, t', rfl⟩ : ∃ b t', t = b :: t' := by cases t with | nil => simp at ht | cons b t' => exact ⟨b, t', rfl⟩
    split at hf
    · next hb =>
      have := Option.some.inj hf
      refine ⟨by omega, ?_⟩
      simp at this
      simp [this]
    · cases hl : lk rows (cc : Int) with
      | none => rw [hl] at hf; cases hf
      | some r =>
        rw [hl] at hf
        have := txF_pos hf
        simp at this
end Go.Proofs.Ytkefidbokeifdaa
/- Numbers of layer 7: bytes told out of those that were told. -/
namespace Go.Proofs.Ytkefidbokeifdaa
set_option linter.unusedVariables false
set_option linter.unusedSimpArgs false

/-- the byte that stands d back -/
def back1 (b : List UInt8) (d : Nat) : UInt8 := if d ≤ b.length then b.getD (b.length - d) 0 else 0
/-- n bytes more, one by one, each the byte that stands d back then -/
def cpy (b : List UInt8) (d : Nat) : Nat → List UInt8
  | 0 => b
  | n + 1 => cpy b d n ++ [back1 (cpy b d n) d]
theorem cpy_len (b : List UInt8) (d n : Nat) : (cpy b d n).length = b.length + n := by
  induction n with
  | zero => rfl
  | succ n ih => rw [cpy, List.length_append, ih]; rfl
theorem cpy_add (b : List UInt8) (d n m : Nat) : cpy b d (n + m) = cpy (cpy b d n) d m := by
  induction m with
  | zero => rfl
  | succ m ih => rw [← Nat.add_assoc, cpy, ih, cpy]
theorem cpy_pre (b : List UInt8) (d n i : Nat) (h : i < b.length) : (cpy b d n)[i]? = b[i]? := by
  induction n with
  | zero => rfl
  | succ n ih => rw [cpy, List.getElem?_append_left (by rw [cpy_len]; omega), ih]
theorem cpy_take (b : List UInt8) (d n : Nat) : (cpy b d n).take b.length = b := by
  induction n with
  | zero => exact List.take_length
  | succ n ih => rw [cpy, List.take_append_of_le_length (by rw [cpy_len]; omega), ih]
theorem back1_get (b : List UInt8) (d : Nat) (h1 : 1 ≤ d) (h2 : d ≤ b.length) : b[b.length - d]? = some (back1 b d) := by
  unfold back1
  rw [if_pos h2, List.getD_eq_getElem?_getD, List.getElem?_eq_getElem (by omega)]; rfl
/-- a copy is a distance over and over -/
theorem cpy_over (b : List UInt8) (d n i : Nat) (h1 : 1 ≤ d) (h2 : d ≤ b.length) (hi : i < n) : (cpy b d n)[b.length + i]? = b[b.length - d + i % d]? := by
  induction n generalizing i with
  | zero => omega
  | succ n ih =>
    rw [cpy]
    by_cases e : i < n
    · rw [List.getElem?_append_left (by rw [cpy_len]; omega), ih i e]
    · obtain rfl : i = n := by omega
      rw [List.getElem?_append_right (by rw [cpy_len]; omega), cpy_len, Nat.sub_self]
      show some (back1 (cpy b d i) d) = _
      rw [← back1_get (cpy b d i) d h1 (by rw [cpy_len]; omega), cpy_len]
      by_cases hd : d ≤ i
      · rw [show b.length + i - d = b.length + (i - d) by omega, ih (i - d) (by omega)]
        congr 2
        exact (Nat.mod_eq_sub_mod hd).symm
      · rw [Nat.mod_eq_of_lt (by omega), show b.length + i - d = b.length - d + i by omega]
        exact cpy_pre b d i _ (by omega)
/-- an output: its window, how many bytes it may have, whether noughts stand ahead, its bytes -/
structure HS where
  win : Nat
  most : Nat
  nou : Bool
  b : List UInt8
def HS.lit (s : HS) (c : UInt8) : Nat × HS := if s.most ≤ s.b.length then (9, s) else (0, { s with b := s.b ++ [c] })
def HS.copy (s : HS) (d n : Int) : Nat × HS :=
  if d < 1 ∨ n < 0 then (2, s)
  else if (s.win : Int) < d ∨ ((s.b.length : Int) < d ∧ s.nou = false) then (8, s)
  else if (s.most : Int) - s.b.length < n then (9, s)
  else (0, { s with b := cpy s.b d.toNat n.toNat })
theorem HS.lit_len (s : HS) (c : UInt8) (h : s.b.length ≤ s.most) : (s.lit c).2.b.length ≤ s.most ∧ (s.lit c).2.win = s.win ∧ (s.lit c).2.most = s.most ∧ (s.lit c).2.nou = s.nou ∧ (s.lit c).2.b.length ≤ s.b.length + 1 ∧ (s.lit c).2.b.take s.b.length = s.b := by
  unfold HS.lit
  by_cases e : s.most ≤ s.b.length
  · rw [if_pos e]; exact ⟨h, rfl, rfl, rfl, by dsimp only; omega, List.take_length⟩
  · rw [if_neg e]; exact ⟨by simp; omega, rfl, rfl, rfl, by simp, by simp⟩
theorem HS.copy_len (s : HS) (d n : Int) (h : s.b.length ≤ s.most) : (s.copy d n).2.b.length ≤ s.most ∧ (s.copy d n).2.win = s.win ∧ (s.copy d n).2.most = s.most ∧ (s.copy d n).2.nou = s.nou ∧ ((s.copy d n).2.b.length : Int) ≤ s.b.length + max 0 n ∧ (s.copy d n).2.b.take s.b.length = s.b := by
  unfold HS.copy
  by_cases e1 : d < 1 ∨ n < 0
  · rw [if_pos e1]; exact ⟨h, rfl, rfl, rfl, by dsimp only; omega, List.take_length⟩
  rw [if_neg e1]
  by_cases e2 : (s.win : Int) < d ∨ ((s.b.length : Int) < d ∧ s.nou = false)
  · rw [if_pos e2]; exact ⟨h, rfl, rfl, rfl, by dsimp only; omega, List.take_length⟩
  rw [if_neg e2]
  by_cases e3 : (s.most : Int) - s.b.length < n
  · rw [if_pos e3]; exact ⟨h, rfl, rfl, rfl, by dsimp only; omega, List.take_length⟩
  rw [if_neg e3]
  refine ⟨by simp only [cpy_len]; omega, rfl, rfl, rfl, by simp only [cpy_len]; omega, cpy_take _ _ _⟩
end Go.Proofs.Ytkefidbokeifdaa
namespace Go.Proofs.Ytkefidbokeifdaa
set_option linter.unusedVariables false
set_option linter.unusedSimpArgs false

/-- what a copy has told so far, from its place on, is what it tells next -/
theorem cpy_piece (b : List UInt8) (d m j : Nat) (h1 : 1 ≤ d) (h2 : d ≤ b.length) (hm : m % d = 0) (hj : j ≤ m + d) : cpy b d (m + j) = cpy b d m ++ ((cpy b d m).drop (b.length - d)).take j := by
  apply List.ext_getElem?
  intro i
  by_cases hi : i < b.length + m
  · rw [cpy_add, cpy_pre _ _ _ _ (by rw [cpy_len]; exact hi), List.getElem?_append_left (by rw [cpy_len]; exact hi)]
  · by_cases hi2 : i < b.length + m + j
    · obtain ⟨k, rfl⟩ : ∃ k, i = b.length + (m + k) := ⟨i - b.length - m, by omega⟩
      rw [cpy_over b d (m + j) (m + k) h1 h2 (by omega), List.getElem?_append_right (by rw [cpy_len]; omega), cpy_len, show b.length + (m + k) - (b.length + m) = k by omega, List.getElem?_take, if_pos (by omega), List.getElem?_drop]
      have e : (m + k) % d = k % d := by rw [Nat.add_mod, hm, Nat.zero_add, Nat.mod_mod]
      rw [e]
      by_cases hk : k < d
      · rw [Nat.mod_eq_of_lt hk, cpy_pre b d m _ (by omega)]
      · rw [show b.length - d + k = b.length + (k - d) by omega, cpy_over b d m (k - d) h1 h2 (by omega)]
        congr 2
        exact Nat.mod_eq_sub_mod (by omega)
    · rw [List.getElem?_eq_none (by rw [cpy_len]; omega), List.getElem?_eq_none]
      rw [List.length_append, cpy_len, List.length_take, List.length_drop, cpy_len]; omega
theorem cpy_zeros (b : List UInt8) (d n : Nat) (h : b.length + n ≤ d) : cpy b d n = b ++ List.replicate n 0 := by
  induction n with
  | zero => simp [cpy]
  | succ n ih =>
    rw [cpy, ih (by omega)]
    unfold back1
    rw [if_neg (by rw [List.length_append, List.length_replicate]; omega), List.append_assoc, ← List.replicate_succ']
theorem cpy_none (b : List UInt8) (d : Nat) : cpy b d 0 = b := rfl
end Go.Proofs.Ytkefidbokeifdaa
/-! Bits of bytes, as numbers: plain lemmas. -/
namespace Go.Proofs.Ytkefidbokeifdaa
set_option linter.unusedVariables false
set_option linter.unusedSimpArgs false

def byteAt (l : List UInt8) (i : Nat) : Nat := (l.getD i 0).toNat
theorem byteAt_lt (l : List UInt8) (i : Nat) : byteAt l i < 256 := (l.getD i 0).toNat_lt
theorem byteAt_ge (l : List UInt8) (i : Nat) (h : l.length ≤ i) : byteAt l i = 0 := by
  unfold byteAt; rw [List.getD_eq_getElem?_getD, List.getElem?_eq_none h]; rfl
def bitAt (l : List UInt8) (i : Nat) : Nat := byteAt l (i / 8) / 2 ^ (i % 8) % 2
theorem bitAt_lt (l : List UInt8) (i : Nat) : bitAt l i < 2 := Nat.mod_lt _ (by decide)
theorem bitAt_ge (l : List UInt8) (i : Nat) (h : 8 * l.length ≤ i) : bitAt l i = 0 := by
  unfold bitAt; rw [byteAt_ge l _ (by omega)]; simp
/-- n bits from a place on, the lowest first -/
def num (l : List UInt8) (p : Nat) : Nat → Nat
  | 0 => 0
  | n + 1 => num l (p + 1) n * 2 + bitAt l p
def dig (l : List UInt8) (i : Nat) : Bool := bitAt l i == 1
theorem num_bit (l : List UInt8) (p n i : Nat) : (num l p n).testBit i = (decide (i < n) && dig l (p + i)) := by
  induction n generalizing p i with
  | zero => simp [num]
  | succ n ih =>
    have hb := bitAt_lt l p
    cases i with
    | zero =>
      have : bitAt l p = 0 ∨ bitAt l p = 1 := by omega
      rw [num, Nat.testBit_zero, show (num l (p + 1) n * 2 + bitAt l p) % 2 = bitAt l p by omega]
      rcases this with h | h <;> simp [dig, h]
    | succ i =>
      rw [num, Nat.testBit_succ, show (num l (p + 1) n * 2 + bitAt l p) / 2 = num l (p + 1) n by omega, ih]
      rw [show p + 1 + i = p + (i + 1) by omega]
      simp
theorem num_lt (l : List UInt8) (p n : Nat) : num l p n < 2 ^ n := by
  induction n generalizing p with
  | zero => simp [num]
  | succ n ih => have := ih (p + 1); have := bitAt_lt l p; rw [num, Nat.pow_succ]; omega
theorem num_add (l : List UInt8) (p a b : Nat) : num l p (a + b) = num l p a + 2 ^ a * num l (p + a) b := by
  induction a generalizing p with
  | zero => simp [num]
  | succ a ih =>
    rw [show a + 1 + b = (a + b) + 1 by omega, num, ih, num, Nat.pow_succ, show p + 1 + a = p + (a + 1) by omega]
    generalize num l (p + (a + 1)) b = q
    rw [Nat.mul_right_comm]; omega
theorem num_end (l : List UInt8) (p n : Nat) (h : 8 * l.length ≤ p) : num l p n = 0 := by
  induction n generalizing p with
  | zero => rfl
  | succ n ih => rw [num, ih (p + 1) (by omega), bitAt_ge l p h]
theorem bits8 (c : Nat) (hc : c < 256) : c = c / 1 % 2 + 2 * (c / 2 % 2) + 4 * (c / 4 % 2) + 8 * (c / 8 % 2) + 16 * (c / 16 % 2) + 32 * (c / 32 % 2) + 64 * (c / 64 % 2) + 128 * (c / 128 % 2) := by omega
theorem bitAt_byte (l : List UInt8) (p k : Nat) (hk : k < 8) : bitAt l (8 * p + k) = byteAt l p / 2 ^ k % 2 := by
  unfold bitAt; rw [show (8 * p + k) / 8 = p by omega, show (8 * p + k) % 8 = k by omega]
theorem num_byte (l : List UInt8) (p : Nat) : num l (8 * p) 8 = byteAt l p := by
  have h := bits8 (byteAt l p) (byteAt_lt l p)
  have h0 := bitAt_byte l p 0 (by omega)
  have h1 := bitAt_byte l p 1 (by omega)
  have h2 := bitAt_byte l p 2 (by omega)
  have h3 := bitAt_byte l p 3 (by omega)
  have h4 := bitAt_byte l p 4 (by omega)
  have h5 := bitAt_byte l p 5 (by omega)
  have h6 := bitAt_byte l p 6 (by omega)
  have h7 := bitAt_byte l p 7 (by omega)
  simp only [num, Nat.add_zero, Nat.add_assoc] at *
  simp only [Nat.reducePow, Nat.reduceAdd] at *
  rw [h0, h1, h2, h3, h4, h5, h6, h7]
  omega
theorem num_bytes (l : List UInt8) (p k : Nat) : num l (8 * p) (8 * (k + 1)) = num l (8 * p) (8 * k) + 2 ^ (8 * k) * byteAt l (p + k) := by
  rw [show 8 * (k + 1) = 8 * k + 8 by omega, num_add, show 8 * p + 8 * k = 8 * (p + k) by omega, num_byte]
/-- what is beyond the end adds nothing -/
theorem num_all (l : List UInt8) (p n m : Nat) (h : 8 * l.length ≤ p + n) (hm : n ≤ m) : num l p m = num l p n := by
  obtain ⟨k, rfl⟩ : ∃ k, m = n + k := ⟨m - n, by omega⟩
  rw [num_add, num_end l (p + n) k h]; simp
theorem num_mod (l : List UInt8) (p a n : Nat) (h : n ≤ a) : num l p a % 2 ^ n = num l p n := by
  obtain ⟨k, rfl⟩ : ∃ k, a = n + k := ⟨a - n, by omega⟩
  rw [num_add, Nat.add_mul_mod_self_left, Nat.mod_eq_of_lt (num_lt l p n)]
theorem num_div (l : List UInt8) (p a n : Nat) (h : n ≤ a) : num l p a / 2 ^ n = num l (p + n) (a - n) := by
  obtain ⟨k, rfl⟩ : ∃ k, a = n + k := ⟨a - n, by omega⟩
  rw [num_add, Nat.add_mul_div_left _ _ (Nat.two_pow_pos n), Nat.div_eq_of_lt (num_lt l p n)]
  simp
theorem num_cut (l : List UInt8) (p a n m : Nat) (h : m + n ≤ a) : num l p a / 2 ^ m % 2 ^ n = num l (p + m) n := by
  rw [num_div l p a m (by omega), num_mod l (p + m) (a - m) n (by omega)]
end Go.Proofs.Ytkefidbokeifdaa
/-! Rows of bits, as lists: plain lemmas. -/
namespace Go.Proofs.Ytkefidbokeifdaa
set_option linter.unusedVariables false
set_option linter.unusedSimpArgs false

/-- the lowest n bits of x, the lowest first -/
def bitsOf (x : Nat) : Nat → List Bool
  | 0 => []
  | n + 1 => (x % 2 == 1) :: bitsOf (x / 2) n
theorem bitsOf_length (x n : Nat) : (bitsOf x n).length = n := by induction n generalizing x <;> simp_all [bitsOf]
theorem bitsOf_add (x a b : Nat) : bitsOf x (a + b) = bitsOf x a ++ bitsOf (x / 2 ^ a) b := by
  induction a generalizing x with
  | zero => simp [bitsOf]
  | succ a ih => rw [show a + 1 + b = (a + b) + 1 by omega, bitsOf, ih, bitsOf, Nat.pow_succ, Nat.mul_comm, ← Nat.div_div_eq_div_mul]; rfl
theorem bitsOf_mod (x a : Nat) : bitsOf (x % 2 ^ a) a = bitsOf x a := by
  induction a generalizing x with
  | zero => rfl
  | succ a ih =>
    rw [bitsOf, bitsOf, Nat.pow_succ, Nat.mul_comm, show x % (2 * 2 ^ a) % 2 = x % 2 by rw [Nat.mod_mul_right_mod], Nat.mod_mul_right_div_self, ih]
theorem bitsOf_shift (a y h m : Nat) (ha : a < 2 ^ h) : bitsOf (a + y * 2 ^ h) (h + m) = bitsOf a h ++ bitsOf y m := by
  rw [bitsOf_add]
  congr 1
  · rw [← bitsOf_mod, Nat.add_mul_mod_self_right, Nat.mod_eq_of_lt ha]
  · rw [Nat.add_mul_div_right _ _ (Nat.two_pow_pos h), Nat.div_eq_of_lt ha, Nat.zero_add]
theorem bitsOf_zero (n : Nat) : bitsOf 0 n = List.replicate n false := by
  induction n with
  | zero => rfl
  | succ n ih => rw [bitsOf, Nat.zero_div, ih]; rfl
theorem bitsOf_pad (x a b : Nat) (h : x < 2 ^ a) : bitsOf x (a + b) = bitsOf x a ++ List.replicate b false := by
  rw [bitsOf_add, Nat.div_eq_of_lt h, bitsOf_zero]
theorem bitsOf_get (x n i : Nat) (h : i < n) : (bitsOf x n)[i]? = some (x.testBit i) := by
  induction n generalizing x i with
  | zero => omega
  | succ n ih =>
    cases i with
    | zero => simp [bitsOf, Nat.testBit_zero]; rcases Nat.mod_two_eq_zero_or_one x with h | h <;> simp [h]
    | succ i => rw [bitsOf, List.getElem?_cons_succ, ih _ _ (by omega), Nat.testBit_succ]
theorem bitsOf_inj (x y n : Nat) (hx : x < 2 ^ n) (hy : y < 2 ^ n) (h : bitsOf x n = bitsOf y n) : x = y := by
  induction n generalizing x y with
  | zero => simp at hx hy; omega
  | succ n ih =>
    simp only [bitsOf, List.cons.injEq] at h
    have h2 := ih (x / 2) (y / 2) (by rw [Nat.pow_succ] at hx; omega) (by rw [Nat.pow_succ] at hy; omega) h.2
    have h1 : x % 2 = y % 2 := by
      have := h.1
      rcases Nat.mod_two_eq_zero_or_one x with h | h <;> rcases Nat.mod_two_eq_zero_or_one y with h' | h' <;> simp_all
    omega

/-- the bits of bytes -/
def toBits : List UInt8 → List Bool
  | [] => []
  | c :: l => bitsOf c.toNat 8 ++ toBits l
theorem toBits_length (l : List UInt8) : (toBits l).length = 8 * l.length := by
  induction l with
  | nil => rfl
  | cons c l ih => simp [toBits, bitsOf_length, ih]; omega
theorem toBits_append (a b : List UInt8) : toBits (a ++ b) = toBits a ++ toBits b := by
  induction a with
  | nil => rfl
  | cons c l ih => simp [toBits, ih]
theorem toBits_inj (a b : List UInt8) (h : toBits a = toBits b) : a = b := by
  have hl : a.length = b.length := by have := congrArg List.length h; rw [toBits_length, toBits_length] at this; omega
  induction a generalizing b with
  | nil => cases b <;> simp_all
  | cons c a ih =>
    cases b with
    | nil => simp at hl
    | cons d b =>
      simp only [toBits] at h
      have := List.append_inj h (by rw [bitsOf_length, bitsOf_length])
      have h1 := bitsOf_inj _ _ 8 c.toNat_lt d.toNat_lt this.1
      rw [UInt8.toNat_inj.1 h1, ih b this.2 (by simpa using hl)]
/-- up to a byte's end -/
def pad8 (bs : List Bool) : List Bool := bs ++ List.replicate ((8 - bs.length % 8) % 8) false
theorem toBits_snoc (l : List UInt8) (r h : Nat) (hr : r < 2 ^ h) (h8 : h < 8) (h0 : 0 < h) : toBits (l ++ [UInt8.ofNat r]) = pad8 (toBits l ++ bitsOf r h) := by
  have e : (UInt8.ofNat r).toNat = r := by
    have : r < 256 := Nat.lt_of_lt_of_le hr (Nat.pow_le_pow_right (n := 2) (j := 8) (by decide) (by omega))
    simp [UInt8.toNat_ofNat']; omega
  have hp := bitsOf_pad r h (8 - h) hr
  rw [show h + (8 - h) = 8 by omega] at hp
  rw [toBits_append, pad8]
  simp only [toBits, e, List.append_nil, List.append_assoc, hp, List.length_append, toBits_length, bitsOf_length]
  rw [show (8 - (8 * l.length + h) % 8) % 8 = 8 - h by omega]
theorem pad8_whole (l : List UInt8) : pad8 (toBits l) = toBits l := by
  unfold pad8; rw [toBits_length, show (8 - 8 * l.length % 8) % 8 = 0 by omega]; simp
/-- m bits from a place on as a number; noughts behind the end -/
def nb (bs : List Bool) (p : Nat) : Nat := if bs.getD p false then 1 else 0
def nv (bs : List Bool) (p : Nat) : Nat → Nat
  | 0 => 0
  | m + 1 => nv bs (p + 1) m * 2 + nb bs p
theorem nb_lt (bs : List Bool) (p : Nat) : nb bs p < 2 := by unfold nb; split <;> omega
theorem nv_lt (bs : List Bool) (p m : Nat) : nv bs p m < 2 ^ m := by
  induction m generalizing p with
  | zero => simp [nv]
  | succ m ih => have := ih (p + 1); have := nb_lt bs p; rw [nv, Nat.pow_succ]; omega
theorem nv_bits (bs : List Bool) (p m : Nat) : bitsOf (nv bs p m) m = (List.range m).map fun i => bs.getD (p + i) false := by
  induction m generalizing p with
  | zero => rfl
  | succ m ih =>
    have h := nb_lt bs p
    rw [nv, bitsOf, show (nv bs (p + 1) m * 2 + nb bs p) % 2 = nb bs p by omega, show (nv bs (p + 1) m * 2 + nb bs p) / 2 = nv bs (p + 1) m by omega, ih, List.range_succ_eq_map]
    simp only [List.map_cons, List.map_map, Nat.add_zero]
    congr 1
    · unfold nb; cases bs.getD p false <;> rfl
    · apply List.map_congr_left
      intro i _
      simp only [Function.comp]
      congr 1; omega
theorem pad8_length (bs : List Bool) : (pad8 bs).length = (bs.length + 7) / 8 * 8 := by simp [pad8]; omega
theorem pad8_get (bs : List Bool) (i : Nat) (h : i < (pad8 bs).length) : (pad8 bs)[i]? = some (bs.getD i false) := by
  rw [pad8_length] at h
  unfold pad8
  by_cases hi : i < bs.length
  · rw [List.getElem?_append_left hi, List.getD_eq_getElem?_getD, List.getElem?_eq_getElem hi]; rfl
  · rw [List.getElem?_append_right (by omega), List.getElem?_replicate, if_pos (by omega), List.getD_eq_getElem?_getD, List.getElem?_eq_none (by omega)]; rfl
theorem pad8_seg (bs : List Bool) (j : Nat) (h : 8 * j < bs.length) : (pad8 bs).take (8 * (j + 1)) = (pad8 bs).take (8 * j) ++ bitsOf (nv bs (8 * j) 8) 8 := by
  have hl := pad8_length bs
  rw [show 8 * (j + 1) = 8 * j + 8 by omega, List.take_add]
  congr 1
  rw [nv_bits]
  apply List.ext_getElem?
  intro i
  by_cases hi : i < 8
  · rw [List.getElem?_take_of_lt hi, List.getElem?_drop, pad8_get _ _ (by omega)]
    simp [hi]
  · rw [List.getElem?_eq_none (by simp; omega), List.getElem?_eq_none (by simp; omega)]
theorem toBits_one (x : Nat) (h : x < 256) : toBits [UInt8.ofNat x] = bitsOf x 8 := by
  simp only [toBits, List.append_nil]
  congr 1
  simp [UInt8.toNat_ofNat']; omega
end Go.Proofs.Ytkefidbokeifdaa
namespace Go.Proofs.Ytkefidbokeifdaa
set_option linter.unusedVariables false
set_option linter.unusedSimpArgs false
theorem byteAt_zero (c : UInt8) (l : List UInt8) : byteAt (c :: l) 0 = c.toNat := rfl
theorem byteAt_succ (c : UInt8) (l : List UInt8) (i : Nat) : byteAt (c :: l) (i + 1) = byteAt l i := rfl
theorem toBits_get (l : List UInt8) (i : Nat) (h : i < 8 * l.length) : (toBits l)[i]? = some (dig l i) := by
  induction l generalizing i with
  | nil => simp at h
  | cons c l ih =>
    rw [toBits]
    by_cases hi : i < 8
    · rw [List.getElem?_append_left (by rw [bitsOf_length]; exact hi), bitsOf_get _ _ _ hi]
      unfold dig bitAt
      rw [show i / 8 = 0 by omega, show i % 8 = i by omega, byteAt_zero]
      rw [Nat.testBit_eq_decide_div_mod_eq]
      rfl
    · rw [List.getElem?_append_right (by rw [bitsOf_length]; omega), bitsOf_length, ih (i - 8) (by simp at h; omega)]
      unfold dig bitAt
      obtain ⟨j, rfl⟩ : ∃ j, i = j + 8 := ⟨i - 8, by omega⟩
      rw [show (j + 8) / 8 = j / 8 + 1 by omega, show (j + 8) % 8 = j % 8 by omega, byteAt_succ, show j + 8 - 8 = j by omega]
theorem bits_num (l : List UInt8) (p n : Nat) (h : p + n ≤ 8 * l.length) : bitsOf (num l p n) n = ((toBits l).drop p).take n := by
  apply List.ext_getElem?
  intro i
  by_cases hi : i < n
  · rw [bitsOf_get _ _ _ hi, num_bit, List.getElem?_take_of_lt hi, List.getElem?_drop, toBits_get _ _ (by omega)]
    simp [hi]
  · rw [List.getElem?_eq_none (by rw [bitsOf_length]; omega), List.getElem?_eq_none (by simp; omega)]
/-- a segment of bits that were written is read as it was -/
theorem num_seg (l : List UInt8) (pre post : List Bool) (x n : Nat) (h : toBits l = pre ++ bitsOf x n ++ post) : num l pre.length n = x % 2 ^ n := by
  have hl := congrArg List.length h
  simp only [toBits_length, List.length_append, bitsOf_length] at hl
  have := bits_num l pre.length n (by omega)
  rw [h, List.append_assoc, List.drop_left, List.take_left' (bitsOf_length x n)] at this
  exact bitsOf_inj _ _ n (num_lt _ _ _) (Nat.mod_lt _ (Nat.two_pow_pos n)) (by rw [this, bitsOf_mod])
theorem num_false (l : List UInt8) (pre post : List Bool) (n : Nat) (h : toBits l = pre ++ List.replicate n false ++ post) : num l pre.length n = 0 := by
  rw [← bitsOf_zero n] at h
  rw [num_seg l pre post 0 n h]; simp
end Go.Proofs.Ytkefidbokeifdaa
