/- Numbers of layer 10 over the landed code: slots by codes, the codes that have links, the least code of a link, how long a code's string is. -/
import Derived.Test.YtpjebbhjagllgaaLzMath3
namespace Go.Proofs.Ytpjebbhjagllgaa
set_option linter.unusedVariables false
set_option linter.unusedSimpArgs false

/-- what a code has -/
structure Slt where
  par : Nat
  byt : UInt8
  on : Bool
deriving DecidableEq
def Slt.no : Slt := ⟨0, 0, false⟩
def sloF (rows : List Lk) (c : Nat) : Slt := match lk rows (c : Int) with | some r => ⟨r.par, r.byt, true⟩ | none => Slt.no
theorem sloF_some {rows : List Lk} {c : Nat} {r : Lk} (h : lk rows (c : Int) = some r) : sloF rows c = ⟨r.par, r.byt, true⟩ := by unfold sloF; rw [h]
theorem sloF_none {rows : List Lk} {c : Nat} (h : lk rows (c : Int) = none) : sloF rows c = Slt.no := by unfold sloF; rw [h]
theorem sloF_on {rows : List Lk} {c : Nat} : (sloF rows c).on = decide (0 ≤ atI rows c) := by
  cases h : lk rows (c : Int) with
  | none => rw [sloF_none h]; have := (lk_at rows c).1 h; exact (decide_eq_false (by omega)).symm
  | some r =>
    rw [sloF_some h]
    refine (decide_eq_true ?_).symm
    rcases Int.lt_or_le (atI rows c) 0 with h1 | h1
    · rw [(lk_at rows c).2 h1] at h; cases h
    · exact h1
def slots (f : Nat → Slt) : List Slt := (List.range 8192).map f
theorem slots_len (f : Nat → Slt) : (slots f).length = 8192 := by unfold slots; rw [List.length_map, List.length_range]
theorem slots_at (f : Nat → Slt) (c : Nat) (h : c < 8192) : (slots f)[c]? = some (f c) := by
  unfold slots; rw [List.getElem?_map, List.getElem?_range h]; rfl
theorem slots_get (f : Nat → Slt) (c : Nat) (h : c < (slots f).length) : (slots f)[c] = f c := by
  have h2 := h
  rw [slots_len] at h2
  exact (List.getElem?_eq_some_iff.1 (slots_at f c h2)).2
theorem slots_set (f : Nat → Slt) (c : Nat) (x : Slt) : (slots f).set c x = slots fun k => if k = c then x else f k := by
  apply List.ext_getElem
  · rw [List.length_set, slots_len, slots_len]
  · intro i h1 h2
    rw [List.getElem_set, slots_get, slots_get]
    by_cases e : c = i
    · subst e; simp
    · rw [if_neg e, if_neg (fun h => e h.symm)]
theorem slots_congr {f g : Nat → Slt} (h : ∀ c, c < 8192 → f c = g c) : slots f = slots g := by
  unfold slots
  exact List.map_congr_left fun c hc => h c (List.mem_range.1 hc)
/-- gs are the codes that have links -/
def Gvn (rows : List Lk) (gs : List Nat) : Prop := gs.Perm (rows.map Lk.code)
theorem Gvn.len {rows : List Lk} {gs : List Nat} (h : Gvn rows gs) : gs.length = rows.length := by have := List.Perm.length_eq h; rwa [List.length_map] at this
theorem Gvn.mem {rows : List Lk} {gs : List Nat} (h : Gvn rows gs) (hs : srt rows) (c : Nat) : c ∈ gs ↔ ∃ r, lk rows (c : Int) = some r := by
  rw [List.Perm.mem_iff h, List.mem_map]
  constructor
  · rintro ⟨r, hr, rfl⟩; exact ⟨r, (lk_iff rows hs _ r).2 ⟨hr, rfl⟩⟩
  · rintro ⟨r, hr⟩
    obtain ⟨h1, h2⟩ := (lk_iff rows hs _ r).1 hr
    exact ⟨r, h1, by omega⟩
theorem Gvn.nodup {rows : List Lk} {gs : List Nat} (h : Gvn rows gs) (hs : srt rows) : gs.Nodup := by
  rw [List.Perm.nodup_iff h]
  have := (srt_pair rows).1 hs
  show List.Pairwise _ _
  rw [List.pairwise_map]
  exact this.imp fun h => by omega
theorem Gvn.nil : Gvn [] [] := List.Perm.nil
theorem Gvn.add {rows : List Lk} {gs : List Nat} (h : Gvn rows gs) (r : Lk) : Gvn (ins rows r) (gs ++ [r.code]) := by
  unfold Gvn ins at *
  rw [List.map_append, List.map_cons]
  have e : rows.map Lk.code = (rows.take (lwb rows r.code)).map Lk.code ++ (rows.drop (lwb rows r.code)).map Lk.code := by rw [← List.map_append, List.take_append_drop]
  rw [e] at h
  refine (List.perm_append_comm).trans ?_
  refine (List.Perm.cons r.code h).trans ?_
  exact List.perm_middle.symm
theorem Gvn.clear {s : LT} {gs : List Nat} (h : Gvn s.rows gs) : Gvn s.clear.rows (gs.filter (isPar s.rows)) := by
  unfold Gvn at *
  have e : (s.clear.rows).map Lk.code = (s.rows.map Lk.code).filter (isPar s.rows) := by
    rw [List.filter_map]; rfl
  rw [e]
  exact List.Perm.filter _ h
theorem Gvn.par {rows : List Lk} {gs : List Nat} (h : Gvn rows gs) (hs : srt rows) (c : Nat) : isPar rows c = true ↔ ∃ x, x ∈ gs ∧ (sloF rows x).par = c := by
  unfold isPar
  rw [List.any_eq_true]
  constructor
  · rintro ⟨r, hr, hp⟩
    have hl := (lk_iff rows hs (r.code : Nat) r).2 ⟨hr, rfl⟩
    exact ⟨r.code, (h.mem hs _).2 ⟨r, hl⟩, by rw [sloF_some hl]; simpa using hp⟩
  · rintro ⟨x, hx, hp⟩
    obtain ⟨r, hr⟩ := (h.mem hs x).1 hx
    rw [sloF_some hr] at hp
    exact ⟨r, ((lk_iff rows hs _ r).1 hr).1, by simpa using hp⟩
theorem sloF_small {s : LT} (h : s.ok) (c : Nat) : (sloF s.rows c).par < 8192 := by
  cases hl : lk s.rows (c : Int) with
  | none => rw [sloF_none hl]; decide
  | some r => rw [sloF_some hl]; have := (h.all r ((lk_iff _ h.srt _ r).1 hl).1).2.2.1; dsimp only; omega
theorem Gvn.small {s : LT} {gs : List Nat} (h : Gvn s.rows gs) (ho : s.ok) {c : Nat} (hc : c ∈ gs) : 257 ≤ c ∧ c < 8192 := by
  obtain ⟨r, hr⟩ := (h.mem ho.srt c).1 hc
  obtain ⟨h1, h2⟩ := (lk_iff _ ho.srt _ r).1 hr
  have := ho.all r h1
  omega
/-- slots behind Add -/
theorem sloF_ins {rows : List Lk} (hs : srt rows) (r : Lk) (hn : atI rows r.code < 0) (c : Nat) : sloF (ins rows r) c = if c = r.code then ⟨r.par, r.byt, true⟩ else sloF rows c := by
  by_cases e : c = r.code
  · rw [if_pos e, sloF_some ((lk_ins rows hs r hn (c : Int) r).2 (.inr ⟨rfl, by omega⟩))]
  · rw [if_neg e]
    cases hl : lk rows (c : Int) with
    | some x => rw [sloF_some hl, sloF_some ((lk_ins rows hs r hn (c : Int) x).2 (.inl hl))]
    | none =>
      rw [sloF_none hl]
      refine sloF_none ?_
      cases h2 : lk (ins rows r) (c : Int) with
      | none => rfl
      | some x =>
        rcases (lk_ins rows hs r hn (c : Int) x).1 h2 with h3 | ⟨_, h3⟩
        · rw [hl] at h3; cases h3
        · omega
/-- slots behind Clear -/
theorem sloF_clear {s : LT} (h : s.ok) (c : Nat) : sloF s.clear.rows c = if isPar s.rows c = true then sloF s.rows c else Slt.no := by
  cases hl : lk s.clear.rows (c : Int) with
  | some r =>
    obtain ⟨h1, h2⟩ := (lk_clear h (c : Int) r).1 hl
    have hc := ((lk_iff _ h.srt _ r).1 h1).2
    have e : r.code = c := by omega
    rw [e] at h2
    rw [sloF_some hl, if_pos h2, sloF_some h1]
  | none =>
    rw [sloF_none hl]
    split
    · next hp =>
      cases h1 : lk s.rows (c : Int) with
      | none => rw [sloF_none h1]
      | some r =>
        have hc := ((lk_iff _ h.srt _ r).1 h1).2
        have e : r.code = c := by omega
        rw [(lk_clear h (c : Int) r).2 ⟨h1, by rw [e]; exact hp⟩] at hl; cases hl
    · rfl
/-- slots, i codes into Clear -/
def cleF (rows : List Lk) (done : List Nat) (c : Nat) : Slt := if c ∈ done ∧ isPar rows c = false then Slt.no else sloF rows c
theorem cleF_nil (rows : List Lk) : cleF rows [] = sloF rows := by funext c; simp [cleF]
theorem cleF_keep {rows : List Lk} {done : List Nat} {c : Nat} (h : isPar rows c = true) : cleF rows (done ++ [c]) = cleF rows done := by
  funext k
  unfold cleF
  by_cases e : k = c
  · subst e; rw [if_neg (by rw [h]; simp), if_neg (by rw [h]; simp)]
  · simp [e]
theorem cleF_drop {rows : List Lk} {done : List Nat} {c : Nat} (h : isPar rows c = false) : cleF rows (done ++ [c]) = fun k => if k = c then Slt.no else cleF rows done k := by
  funext k
  unfold cleF
  by_cases e : k = c
  · subst e; rw [if_pos ⟨by simp, h⟩, if_pos rfl]
  · simp [e]
theorem cleF_all {s : LT} {gs : List Nat} (h : s.ok) (hg : Gvn s.rows gs) : cleF s.rows gs = sloF s.clear.rows := by
  funext c
  rw [sloF_clear h]
  unfold cleF
  cases hp : isPar s.rows c with
  | true => simp
  | false =>
    simp only [and_true, Bool.false_eq_true, if_false]
    split
    · rfl
    · next hn =>
      refine sloF_none ?_
      cases hl : lk s.rows (c : Int) with
      | none => rfl
      | some r => exact absurd ((hg.mem h.srt c).2 ⟨r, hl⟩) hn
/-- L tells the least of the codes that have a link -/
def Lst (rows : List Lk) (cs : List Nat) (L : Int → UInt8 → Option Nat) : Prop := ∀ p c, match L p c with
  | none => ∀ x ∈ cs, ¬ (((sloF rows x).par : Int) = p ∧ (sloF rows x).byt = c)
  | some m => m ∈ cs ∧ ((sloF rows m).par : Int) = p ∧ (sloF rows m).byt = c ∧ ∀ x ∈ cs, ((sloF rows x).par : Int) = p → (sloF rows x).byt = c → m ≤ x
theorem Lst.nil (rows : List Lk) : Lst rows [] fun _ _ => none := fun p c => by simp
theorem Lst.congr {rows rows' : List Lk} {cs : List Nat} {L : Int → UInt8 → Option Nat} (h : Lst rows cs L) (he : ∀ x ∈ cs, sloF rows' x = sloF rows x) : Lst rows' cs L := fun p c => by
  have h1 := h p c
  cases hL : L p c with
  | none =>
    rw [hL] at h1
    exact fun x hx => by rw [he x hx]; exact h1 x hx
  | some m =>
    rw [hL] at h1
    obtain ⟨h2, h3, h4, h5⟩ := h1
    exact ⟨h2, by rw [he m h2]; exact h3, by rw [he m h2]; exact h4, fun x hx => by rw [he x hx]; exact h5 x hx⟩
/-- one code more: the new one is the least -/
theorem Lst.put {rows : List Lk} {cs : List Nat} {L : Int → UInt8 → Option Nat} (h : Lst rows cs L) (x : Nat)
    (hx : L (sloF rows x).par (sloF rows x).byt = none ∨ ∃ m, L (sloF rows x).par (sloF rows x).byt = some m ∧ x < m) :
    Lst rows (cs ++ [x]) fun p c => if p = (sloF rows x).par ∧ c = (sloF rows x).byt then some x else L p c := fun p c => by
  by_cases e : p = (sloF rows x).par ∧ c = (sloF rows x).byt
  · obtain ⟨rfl, rfl⟩ := e
    simp only [and_self, if_true]
    refine ⟨by simp, trivial, trivial, fun y hy h1 h2 => ?_⟩
    rcases List.mem_append.1 hy with hy | hy
    · have h3 := h (sloF rows x).par (sloF rows x).byt
      rcases hx with hx | ⟨m, hx, hm⟩
      · rw [hx] at h3; exact absurd ⟨h1, h2⟩ (h3 y hy)
      · rw [hx] at h3
        have := h3.2.2.2 y hy h1 h2
        omega
    · simp at hy; omega
  · simp only [if_neg e]
    have h3 := h p c
    have hne : ¬ (((sloF rows x).par : Int) = p ∧ (sloF rows x).byt = c) := fun g => e ⟨g.1.symm, g.2.symm⟩
    cases hL : L p c with
    | none =>
      rw [hL] at h3
      intro y hy
      rcases List.mem_append.1 hy with hy | hy
      · exact h3 y hy
      · simp at hy; subst hy; exact hne
    | some m =>
      rw [hL] at h3
      obtain ⟨h4, h5, h6, h7⟩ := h3
      refine ⟨List.mem_append_left _ h4, h5, h6, fun y hy h1 h2 => ?_⟩
      rcases List.mem_append.1 hy with hy | hy
      · exact h7 y hy h1 h2
      · simp at hy; subst hy; exact absurd ⟨h1, h2⟩ hne
/-- one code more: another one is less -/
theorem Lst.skip {rows : List Lk} {cs : List Nat} {L : Int → UInt8 → Option Nat} (h : Lst rows cs L) (x m : Nat) (hx : L (sloF rows x).par (sloF rows x).byt = some m) (hm : m ≤ x) : Lst rows (cs ++ [x]) L := fun p c => by
  have h3 := h p c
  cases hL : L p c with
  | none =>
    rw [hL] at h3
    intro y hy
    rcases List.mem_append.1 hy with hy | hy
    · exact h3 y hy
    · simp at hy; subst hy
      rintro ⟨rfl, rfl⟩
      rw [hx] at hL; cases hL
  | some m' =>
    rw [hL] at h3
    obtain ⟨h4, h5, h6, h7⟩ := h3
    refine ⟨List.mem_append_left _ h4, h5, h6, fun y hy h1 h2 => ?_⟩
    rcases List.mem_append.1 hy with hy | hy
    · exact h7 y hy h1 h2
    · simp at hy; subst hy
      rw [← h1, ← h2, hx] at hL
      obtain rfl := Option.some.inj hL
      exact hm
theorem Lst.child {s : LT} {gs : List Nat} {L : Int → UInt8 → Option Nat} (ho : s.ok) (hg : Gvn s.rows gs) (h : Lst s.rows gs L) (p : Int) (c : UInt8) : s.child p c = match L p c with | some m => (m : Int) | none => -1 := by
  have h1 := h p c
  unfold LT.child
  cases hf : s.rows.find? fun r => decide ((r.par : Int) = p ∧ r.byt = c) with
  | none =>
    cases hL : L p c with
    | none => rfl
    | some m =>
      rw [hL] at h1
      obtain ⟨h2, h3, h4, _⟩ := h1
      obtain ⟨r, hr⟩ := (hg.mem ho.srt m).1 h2
      rw [sloF_some hr] at h3 h4
      have := List.find?_eq_none.1 hf r ((lk_iff _ ho.srt _ r).1 hr).1
      simp only [decide_eq_true_eq] at this
      exact absurd ⟨h3, h4⟩ this
  | some r =>
    obtain ⟨hpr, as, bs, hl, has⟩ := List.find?_eq_some_iff_append.1 hf
    simp only [decide_eq_true_eq] at hpr
    have hrm : r ∈ s.rows := by rw [hl]; simp
    have hlr := (lk_iff _ ho.srt (r.code : Nat) r).2 ⟨hrm, rfl⟩
    cases hL : L p c with
    | none =>
      rw [hL] at h1
      have := h1 r.code ((hg.mem ho.srt _).2 ⟨r, hlr⟩)
      rw [sloF_some hlr] at this
      exact absurd hpr this
    | some m =>
      rw [hL] at h1
      obtain ⟨h2, h3, h4, h5⟩ := h1
      obtain ⟨r2, hr2⟩ := (hg.mem ho.srt m).1 h2
      have hle := h5 r.code ((hg.mem ho.srt _).2 ⟨r, hlr⟩) (by rw [sloF_some hlr]; exact hpr.1) (by rw [sloF_some hlr]; exact hpr.2)
      rw [sloF_some hr2] at h3 h4
      obtain ⟨hm2, hc2⟩ := (lk_iff _ ho.srt _ r2).1 hr2
      have hpw := (srt_pair _).1 ho.srt
      rw [hl] at hpw hm2
      have hge : r.code ≤ r2.code := by
        rcases List.mem_append.1 hm2 with h6 | h6
        · have := has r2 h6
          simp only [Bool.not_eq_true', decide_eq_false_iff_not] at this
          exact absurd ⟨h3, h4⟩ this
        · rcases List.mem_cons.1 h6 with rfl | h6
          · exact Nat.le_refl _
          · exact Nat.le_of_lt ((List.pairwise_cons.1 (List.pairwise_append.1 hpw).2.1).1 r2 h6)
      show (r.code : Int) = (m : Int)
      omega
/-- a chain that ends goes through no code twice -/
structure Mn (rows : List Lk) (f : Nat) (c : Int) : Prop where
  yes : txF rows f c [] ≠ none
  no : ∀ g, g < f → txF rows g c [] = none
theorem txF_none {rows : List Lk} {f : Nat} {c : Int} {out out' : List UInt8} (h : txF rows f c out = none) : txF rows f c out' = none := by
  rw [txF_acc] at h ⊢
  rw [Option.map_eq_none_iff] at h ⊢
  exact h
theorem Mn.one {rows : List Lk} {f g : Nat} {c : Int} (h : Mn rows f c) (h' : Mn rows g c) : f = g := by
  rcases Nat.lt_trichotomy f g with h1 | h1 | h1
  · exact absurd (h'.no f h1) h.yes
  · exact h1
  · exact absurd (h.no g h1) h'.yes
theorem Mn.path {rows : List Lk} (hs : srt rows) (f : Nat) (c : Int) (h : Mn rows f c) : ∃ V : List Lk, V.Nodup ∧ (∀ r ∈ V, r ∈ rows) ∧ V.length + 1 = f ∧ ∀ r ∈ V, ∃ g, g ≤ f ∧ Mn rows g r.code := by
  induction f generalizing c with
  | zero => exact absurd rfl h.yes
  | succ f ih =>
    have hy := h.yes
    rw [txF_lk] at hy
    by_cases hb : 0 ≤ c ∧ c < 256
    · have h0 : f = 0 := by
        rcases Nat.eq_zero_or_pos f with h0 | h0
        · exact h0
        · have := h.no 1 (by omega)
          rw [txF_lk, if_pos hb] at this; cases this
      subst h0
      exact ⟨[], List.Pairwise.nil, by simp, rfl, by simp⟩
    · rw [if_neg hb] at hy
      cases hl : lk rows c with
      | none => rw [hl] at hy; exact absurd rfl hy
      | some r =>
        rw [hl] at hy
        obtain ⟨hm, hc⟩ := (lk_iff rows hs c r).1 hl
        have hmn : Mn rows f (r.par : Int) := ⟨fun e => hy (txF_none e), fun g hg => by
          have := h.no (g + 1) (by omega)
          rw [txF_lk, if_neg hb, hl] at this
          exact txF_none this⟩
        obtain ⟨V, h1, h2, h3, h4⟩ := ih _ hmn
        refine ⟨r :: V, List.nodup_cons.2 ⟨fun hr => ?_, h1⟩, fun x hx => ?_, by rw [List.length_cons]; omega, fun x hx => ?_⟩
        · obtain ⟨g, hg, hx⟩ := h4 r hr
          rw [hc] at hx
          have := h.one hx
          omega
        · rcases List.mem_cons.1 hx with rfl | hx
          · exact hm
          · exact h2 x hx
        · rcases List.mem_cons.1 hx with rfl | hx
          · exact ⟨f + 1, Nat.le_refl _, by rw [hc]; exact h⟩
          · obtain ⟨g, hg, hx⟩ := h4 x hx
            exact ⟨g, by omega, hx⟩
theorem nodup_le (V : List Lk) : ∀ rows : List Lk, V.Nodup → (∀ r ∈ V, r ∈ rows) → V.length ≤ rows.length := by
  induction V with
  | nil => intro _ _ _; simp
  | cons r V ih =>
    intro rows hn hm
    obtain ⟨h1, h2⟩ := List.nodup_cons.1 hn
    have hr := hm r (by simp)
    have := ih (rows.erase r) h2 (fun x hx => (List.mem_erase_of_ne (fun e => by subst e; exact h1 hx)).2 (hm x (by simp [hx])))
    rw [List.length_erase_of_mem hr] at this
    have : 0 < rows.length := List.length_pos_of_mem hr
    rw [List.length_cons]; omega
theorem txF_grow {rows : List Lk} {f d : Nat} {c : Int} {t : List UInt8} (h : txF rows f c [] = some t) : txF rows (f + d) c [] = some t := txF_mono rows rows (fun _ _ h => h) f d c [] t h
theorem txF_min {rows : List Lk} {f : Nat} {c : Int} (h : txF rows f c [] ≠ none) : ∃ g, g ≤ f ∧ Mn rows g c := by
  induction f with
  | zero => exact absurd rfl h
  | succ f ih =>
    by_cases h1 : txF rows f c [] = none
    · refine ⟨f + 1, Nat.le_refl _, h, fun g hg => ?_⟩
      cases hx : txF rows g c [] with
      | none => rfl
      | some t =>
        have := txF_grow (d := f - g) hx
        rw [show g + (f - g) = f by omega, h1] at this; cases this
    · obtain ⟨g, h2, h3⟩ := ih h1
      exact ⟨g, by omega, h3⟩
/-- so many steps are enough -/
theorem txF_enough {rows : List Lk} (hs : srt rows) (f : Nat) (c : Int) (hf : rows.length + 1 ≤ f) : txF rows f c [] = txF rows (rows.length + 1) c [] := by
  cases h : txF rows f c [] with
  | none =>
    cases h2 : txF rows (rows.length + 1) c [] with
    | none => rfl
    | some t =>
      have := txF_grow (d := f - (rows.length + 1)) h2
      rw [show rows.length + 1 + (f - (rows.length + 1)) = f by omega, h] at this; cases this
  | some t =>
    obtain ⟨g, hg, hm⟩ := txF_min (by rw [h]; simp : txF rows f c [] ≠ none)
    obtain ⟨V, h1, h2, h3, _⟩ := hm.path hs
    have hl := nodup_le V rows h1 h2
    cases hx : txF rows g c [] with
    | none => exact absurd hx hm.yes
    | some u =>
      have e1 := txF_grow (d := f - g) hx
      have e2 := txF_grow (d := rows.length + 1 - g) hx
      rw [show g + (f - g) = f by omega, h] at e1
      rw [show g + (rows.length + 1 - g) = rows.length + 1 by omega] at e2
      rw [e2, e1]
theorem txF_pos {rows : List Lk} {f : Nat} {c : Int} {out t : List UInt8} (h : txF rows f c out = some t) : out.length + 1 ≤ t.length := by
  induction f generalizing c out with
  | zero => cases h
  | succ f ih =>
    rw [txF_lk] at h
    split at h
    · obtain rfl := Option.some.inj h; simp
    · cases hl : lk rows c with
      | none => rw [hl] at h; cases h
      | some r =>
        rw [hl] at h
        have := ih h
        rw [List.length_cons] at this; omega
/-- how long a string is; 0: there is none -/
def lenO (o : Option (List UInt8)) : Nat := match o with | some t => t.length | none => 0
theorem lenO_acc (rows : List Lk) (f : Nat) (c : Int) (b : UInt8) : lenO (txF rows f c [b]) = if lenO (txF rows f c []) = 0 then 0 else lenO (txF rows f c []) + 1 := by
  rw [txF_acc]
  cases h : txF rows f c [] with
  | none => rfl
  | some t =>
    have := txF_pos h
    simp at this
    have e : lenO (some t) = t.length := rfl
    rw [e, if_neg (by omega)]
    simp [lenO]
/-- a string's length, counted on from n - 1 -/
def onF (rows : List Lk) (f : Nat) (c : Int) (n : Nat) : Nat := if lenO (txF rows f c []) = 0 then 0 else n + lenO (txF rows f c [])
theorem onF_byte (rows : List Lk) (f : Nat) (c n : Nat) (h : c < 256) : onF rows (f + 1) c n = n + 1 := by
  have e : txF rows (f + 1) c [] = some [UInt8.ofNat (c : Int).toNat] := by rw [txF_lk, if_pos ⟨by omega, by omega⟩]
  unfold onF; rw [e]; rfl
theorem onF_none (rows : List Lk) (f : Nat) (c n : Nat) (h : ¬ c < 256) (hl : (sloF rows c).on = false) : onF rows (f + 1) c n = 0 := by
  have h0 : lk rows (c : Int) = none := by
    cases h1 : lk rows (c : Int) with
    | none => rfl
    | some r => rw [sloF_some h1] at hl; cases hl
  have e : txF rows (f + 1) c [] = none := by rw [txF_lk, if_neg (by omega), h0]
  unfold onF; rw [e]; rfl
theorem onF_next (rows : List Lk) (f : Nat) (c n : Nat) (h : ¬ c < 256) (hl : (sloF rows c).on = true) : onF rows (f + 1) c n = onF rows f (sloF rows c).par (n + 1) := by
  cases h1 : lk rows (c : Int) with
  | none => rw [sloF_none h1] at hl; cases hl
  | some r =>
    rw [sloF_some h1]
    have e : txF rows (f + 1) c [] = txF rows f r.par [r.byt] := by rw [txF_lk, if_neg (by omega), h1]
    unfold onF
    rw [e, lenO_acc]
    generalize lenO (txF rows f r.par []) = m
    show (if (if m = 0 then 0 else m + 1) = 0 then 0 else n + (if m = 0 then 0 else m + 1)) = if m = 0 then 0 else n + 1 + m
    by_cases h0 : m = 0
    · simp [h0]
    · rw [if_neg h0, if_neg h0, if_neg (by omega)]; omega
theorem onF_zero (rows : List Lk) (c : Int) (n : Nat) : onF rows 0 c n = 0 := rfl
theorem onF_text {s : LT} (h : s.ok) (hl : s.rows.length ≤ 7935) (c : Int) : onF s.rows 7936 c 0 = lenO (s.text c) := by
  unfold onF LT.text
  rw [txF_enough h.srt 7936 c (by omega)]
  split <;> omega
/-- cc's string is what t begins with -/
def Bgn (rows : List Lk) (t : List UInt8) (cc at_ : Nat) : Prop := ∃ f, txF rows f cc [] = some (t.take (at_ + 1))
theorem Bgn.step {rows : List Lk} {t : List UInt8} {cc a : Nat} (h : Bgn rows t cc (a + 1)) (ha : a + 1 < t.length) : (sloF rows cc).byt = t.getD (a + 1) 0 ∧ Bgn rows t (sloF rows cc).par a ∧ (sloF rows cc).on = true := by
  obtain ⟨f, hf⟩ := h
  cases f with
  | zero => cases hf
  | succ f =>
    rw [txF_lk] at hf
    have hlen : (t.take (a + 1 + 1)).length = a + 2 := by rw [List.length_take]; omega
    split at hf
    · have := Option.some.inj hf
      rw [← this] at hlen
      simp at hlen
    · cases hl : lk rows (cc : Int) with
      | none => rw [hl] at hf; cases hf
      | some r =>
        rw [hl] at hf
        dsimp only at hf
        rw [txF_acc, Option.map_eq_some_iff] at hf
        obtain ⟨u, hu, he⟩ := hf
        rw [List.take_add_one] at he
        have hg : t[a + 1]? = some (t.getD (a + 1) 0) := by rw [List.getD_eq_getElem?_getD, List.getElem?_eq_getElem ha]; rfl
        rw [hg] at he
        obtain ⟨h1, h2⟩ := List.append_inj' he rfl
        rw [sloF_some hl]
        refine ⟨?_, ⟨f, by rw [hu, h1]⟩, rfl⟩
        simpa using h2
theorem Bgn.first {rows : List Lk} {t : List UInt8} {cc : Nat} (h : Bgn rows t cc 0) (ht : 0 < t.length) : cc < 256 ∧ t.getD 0 0 = UInt8.ofNat cc := by
  obtain ⟨f, hf⟩ := h
  cases f with
  | zero => cases hf
  | succ f =>
    rw [txF_lk] at hf
    obtain ⟨b, t', rfl⟩ : ∃ b t', t = b :: t' := by cases t with | nil => simp at ht | cons b t' => exact ⟨b, t', rfl⟩
    split at hf
    · next hb =>
      have := Option.some.inj hf
      refine ⟨by omega, ?_⟩
      simp at this
      simp [this]
    · cases hl : lk rows (cc : Int) with
      | none => rw [hl] at hf; cases hf
      | some r =>
        rw [hl] at hf
        have := txF_pos hf
        simp at this
end Go.Proofs.Ytpjebbhjagllgaa
