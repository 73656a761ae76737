/- Numbers of layer 10: strings stay, a new code's string, what Clear leaves, codes given out one behind the other. -/
import Derived.Test.YtpjebbhjagllgaaLzMath
namespace Go.Proofs.Ytpjebbhjagllgaa
set_option linter.unusedVariables false
set_option linter.unusedSimpArgs false

/-- a code's row -/
def lk (rows : List Lk) (c : Int) : Option Lk := if atI rows c < 0 then none else some (rw' rows (atI rows c).toNat)
theorem lk_iff (rows : List Lk) (hs : srt rows) (c : Int) (r : Lk) : lk rows c = some r ↔ r ∈ rows ∧ (r.code : Int) = c := by
  unfold lk
  rcases atI_cases rows c with h | ⟨i, h1, h2, h3⟩
  · rw [if_pos (by omega)]
    constructor
    · intro h'; cases h'
    · rintro ⟨hm, hc⟩
      obtain ⟨i, hi, rfl⟩ := (mem_iff_rw' _ _).1 hm
      exact absurd hc ((atI_none rows hs c).1 (by omega) i hi)
  · rw [if_neg (by omega), h1, Int.toNat_natCast]
    constructor
    · intro h'
      obtain rfl : rw' rows i = r := by simpa using h'
      exact ⟨mem_rw' _ _ h2, h3⟩
    · rintro ⟨hm, hc⟩
      obtain ⟨j, hj, rfl⟩ := (mem_iff_rw' _ _).1 hm
      have := atI_of rows hs c j hj hc
      obtain rfl : i = j := by omega
      rfl
theorem lk_none (rows : List Lk) (hs : srt rows) (c : Int) : lk rows c = none ↔ ∀ r ∈ rows, (r.code : Int) ≠ c := by
  constructor
  · intro h r hr hc
    rw [(lk_iff rows hs c r).2 ⟨hr, hc⟩] at h; cases h
  · intro h
    cases hl : lk rows c with
    | none => rfl
    | some r => obtain ⟨h1, h2⟩ := (lk_iff rows hs c r).1 hl; exact absurd h2 (h r h1)
theorem lk_at (rows : List Lk) (c : Int) : lk rows c = none ↔ atI rows c < 0 := by
  unfold lk
  by_cases h : atI rows c < 0
  · rw [if_pos h]; simp [h]
  · rw [if_neg h]; simp [h]
theorem txF_lk (rows : List Lk) (f : Nat) (c : Int) (out : List UInt8) : txF rows (f + 1) c out = if 0 ≤ c ∧ c < 256 then some (UInt8.ofNat c.toNat :: out) else (match lk rows c with | none => none | some r => txF rows f r.par (r.byt :: out)) := by
  rw [txF]
  unfold lk
  split
  · rfl
  · split <;> rfl
theorem txF_acc (rows : List Lk) (f : Nat) (c : Int) (out : List UInt8) : txF rows f c out = (txF rows f c []).map (· ++ out) := by
  induction f generalizing c out with
  | zero => rfl
  | succ f ih =>
    rw [txF_lk, txF_lk]
    split
    · rfl
    · cases lk rows c with
      | none => rfl
      | some r =>
        dsimp only
        rw [ih r.par (r.byt :: out), ih r.par [r.byt]]
        cases txF rows f r.par [] <;> simp
theorem txF_mono (rows rows' : List Lk) (h : ∀ c r, lk rows c = some r → lk rows' c = some r) (f d : Nat) (c : Int) (out t : List UInt8) (ht : txF rows f c out = some t) : txF rows' (f + d) c out = some t := by
  induction f generalizing c out with
  | zero => cases ht
  | succ f ih =>
    rw [show f + 1 + d = (f + d) + 1 by omega, txF_lk]
    rw [txF_lk] at ht
    split at ht
    · next hb => rw [if_pos hb]; exact ht
    · next hb =>
      rw [if_neg hb]
      cases hl : lk rows c with
      | none => rw [hl] at ht; cases ht
      | some r =>
        rw [hl] at ht
        rw [h c r hl]
        exact ih _ _ ht
theorem ins_len (rows : List Lk) (r : Lk) : (ins rows r).length = rows.length + 1 := by
  unfold ins
  have := lwb_le rows r.code
  rw [List.length_append, List.length_cons, List.length_take, List.length_drop]; omega
/-- what Add makes of a table -/
theorem LT.add_yes {s : LT} (h : s.ok) (p : Int) (c : UInt8) (n : Nat) (hn : s.next = n) (hp : parOk p) : s.add p c = ((n : Int), ⟨ins s.rows ⟨n, p.toNat, c⟩, n⟩) ∧ atI s.rows (n : Nat) < 0 ∧ 257 ≤ n ∧ n < 8192 := by
  rcases s.next_cases h with h1 | ⟨m, h1, h2, h3, h4, _⟩
  · omega
  · obtain rfl : m = n := by omega
    have := h.last
    refine ⟨?_, h4, by omega, h3⟩
    unfold LT.add
    rw [if_neg (by rw [hn]; rintro (h' | h'); omega; exact h' hp), hn, Int.toNat_natCast]
theorem lk_ins (rows : List Lk) (hs : srt rows) (r : Lk) (hn : atI rows r.code < 0) (c : Int) (x : Lk) : lk (ins rows r) c = some x ↔ lk rows c = some x ∨ (x = r ∧ (r.code : Int) = c) := by
  rw [lk_iff _ (ins_srt rows r hs hn), lk_iff _ hs, ins_mem]
  constructor
  · rintro ⟨h1 | rfl, h2⟩
    · exact .inl ⟨h1, h2⟩
    · exact .inr ⟨rfl, h2⟩
  · rintro (⟨h1, h2⟩ | ⟨rfl, h2⟩)
    · exact ⟨.inl h1, h2⟩
    · exact ⟨.inr rfl, h2⟩
/-- strings that were told stay -/
theorem text_old {s : LT} (h : s.ok) (p : Int) (c : UInt8) (n : Nat) (hn : s.next = n) (hp : parOk p) (o : Int) (t : List UInt8) (ht : s.text o = some t) : (s.add p c).2.text o = some t := by
  obtain ⟨e, hf, _⟩ := LT.add_yes h p c n hn hp
  rw [e]
  unfold LT.text at *
  dsimp only
  rw [ins_len]
  exact txF_mono _ _ (fun c' r hr => (lk_ins s.rows h.srt ⟨n, p.toNat, c⟩ hf c' r).2 (.inl hr)) _ 1 _ _ _ ht
/-- a code that is given out has its parent's string with the byte behind it -/
theorem text_new {s : LT} (h : s.ok) (p : Int) (c : UInt8) (n : Nat) (hn : s.next = n) (hp : parOk p) (t : List UInt8) (ht : s.text p = some t) : (s.add p c).2.text n = some (t ++ [c]) := by
  obtain ⟨e, hf, h1, h2⟩ := LT.add_yes h p c n hn hp
  rw [e]
  unfold LT.text at *
  dsimp only
  rw [ins_len, txF_lk, if_neg (by omega), (lk_ins s.rows h.srt ⟨n, p.toNat, c⟩ hf n ⟨n, p.toNat, c⟩).2 (.inr ⟨rfl, rfl⟩)]
  dsimp only
  have hp' : ((p.toNat : Nat) : Int) = p := by unfold parOk at hp; omega
  rw [hp', txF_acc]
  have := txF_mono s.rows (ins s.rows ⟨n, p.toNat, c⟩) (fun c' r hr => (lk_ins s.rows h.srt ⟨n, p.toNat, c⟩ hf c' r).2 (.inl hr)) _ 0 _ _ _ ht
  rw [Nat.add_zero] at this
  rw [this]; rfl
theorem txF_len (rows : List Lk) (f : Nat) (c : Int) (out t : List UInt8) (h : txF rows f c out = some t) : t.length ≤ f + out.length := by
  induction f generalizing c out with
  | zero => cases h
  | succ f ih =>
    rw [txF_lk] at h
    split at h
    · obtain rfl := Option.some.inj h
      simp; omega
    · cases hl : lk rows c with
      | none => rw [hl] at h; cases h
      | some r =>
        rw [hl] at h
        have := ih _ _ h
        simp at this; omega
/-- codes 257 to i - 1 are given out, and none is a link's parent 257 -/
structure FullS (s : LT) (i : Nat) : Prop where
  ok : s.ok
  last : s.last + 1 = i
  all : ∀ c : Nat, (0 ≤ atI s.rows (c : Nat)) ↔ 257 ≤ c ∧ c < i
  len : s.rows.length + 257 = i
  par : ∀ r ∈ s.rows, r.par ≠ 257
theorem atI_nil (c : Int) : atI [] c = -1 := by
  rcases atI_cases [] c with h | ⟨i, _, h, _⟩
  · exact h
  · simp at h
theorem FullS.new : FullS LT.new 257 := ⟨LT.new_ok, rfl, fun c => by show 0 ≤ atI [] _ ↔ _; rw [atI_nil]; omega, rfl, fun r h => by simp [LT.new] at h⟩
theorem FullS.next {s : LT} {i : Nat} (h : FullS s i) (hi : i < 8192) : s.next = i := by
  rcases nxF_cases s.rows 8192 (s.last + 1) (by omega) with ⟨h1, h2⟩ | ⟨n, h1, h2, h3, h4, h5⟩
  · have := (h.all i).1 (h2 i (by have := h.last; omega) hi); omega
  · have hl := h.last
    have hni : n = i := by
      rcases Nat.lt_trichotomy n i with h6 | h6 | h6
      · omega
      · exact h6
      · have := (h.all i).1 (h5 i (by omega) h6); omega
    rw [← hni]; exact h1
theorem FullS.none {s : LT} (h : FullS s 8192) : s.next = -1 := by
  rcases nxF_cases s.rows 8192 (s.last + 1) (by omega) with ⟨h1, h2⟩ | ⟨n, h1, h2, h3, h4, h5⟩
  · exact h1
  · have := h.last; omega
theorem atI_has (rows : List Lk) (hs : srt rows) (c : Int) : 0 ≤ atI rows c ↔ ∃ r ∈ rows, (r.code : Int) = c := by
  constructor
  · intro h
    rcases atI_cases rows c with h1 | ⟨i, _, h2, h3⟩
    · omega
    · exact ⟨_, mem_rw' _ _ h2, h3⟩
  · rintro ⟨r, hr, hc⟩
    obtain ⟨i, hi, rfl⟩ := (mem_iff_rw' _ _).1 hr
    rw [atI_of rows hs c i hi hc]; omega
theorem FullS.add {s : LT} {i : Nat} (h : FullS s i) (hi : i < 8192) (p : Nat) (hp : parOk p) (hp2 : p ≠ 257) (c : UInt8) : (s.add p c).1 = i ∧ FullS (s.add p c).2 (i + 1) := by
  obtain ⟨e, hf, h1, h2⟩ := LT.add_yes h.ok p c i (h.next hi) hp
  have hok := LT.add_ok h.ok p c
  rw [e] at hok ⊢
  refine ⟨rfl, hok, rfl, fun c' => ?_, by dsimp only; rw [ins_len]; have := h.len; omega, fun r hr => ?_⟩
  · dsimp only
    rw [atI_has _ hok.srt]
    constructor
    · rintro ⟨r, hr, hc⟩
      rcases (ins_mem _ _ _).1 hr with h3 | rfl
      · have := (h.all r.code).1 ((atI_has _ h.ok.srt _).2 ⟨r, h3, rfl⟩); omega
      · dsimp only at hc; omega
    · rintro ⟨h3, h4⟩
      rcases Nat.lt_or_ge c' i with h5 | h5
      · obtain ⟨r, hr, hc⟩ := (atI_has _ h.ok.srt _).1 ((h.all c').2 ⟨h3, h5⟩)
        exact ⟨r, (ins_mem _ _ _).2 (.inl hr), hc⟩
      · exact ⟨_, (ins_mem _ _ _).2 (.inr rfl), by dsimp only; omega⟩
  · rcases (ins_mem _ _ _).1 hr with h3 | rfl
    · exact h.par r h3
    · simpa using hp2
/-- the first code is free behind Clear -/
theorem FullS.clear {s : LT} {i : Nat} (h : FullS s i) : s.clear.next = 257 := by
  have hok := LT.clear_ok h.ok
  have hfree : atI s.clear.rows ((257 : Nat) : Int) < 0 := by
    rcases Int.lt_or_le (atI s.clear.rows ((257 : Nat) : Int)) 0 with h1 | h1
    · exact h1
    · obtain ⟨r, hr, hc⟩ := (atI_has _ hok.srt _).1 h1
      have h2 := (List.mem_filter.1 hr).2
      unfold isPar at h2
      rw [List.any_eq_true] at h2
      obtain ⟨r', hr', h3⟩ := h2
      have h4 := h.par r' hr'
      simp at h3
      omega
  unfold LT.next
  rw [show s.clear.last + 1 = 257 from rfl]
  rw [nxF, if_pos (by decide), if_pos hfree]
  rfl
end Go.Proofs.Ytpjebbhjagllgaa
