/- Texts put together: InfMath3 InfMath4 RefDyn2 RefDyn3 RefDyn4 RefDyn5 StRef StRw RefDyn6 RefInf1 RefInf2 RefInf3 DynMath5 RefInf4 RefInf5 RefInf6 InfMath5 -/
import Derived.Test.YtokfcgloogdeiaaGreatDoorPart11
import Derived.Test.YtokfcgloogdeiaaGreatDoorPart1
import Derived.Test.YtokfcgloogdeiaaGreatDoorPart12
import Derived.Test.YtokfcgloogdeiaaGreatDoorPart3
import Derived.Test.YtokfcgloogdeiaaGreatDoorPart16
import Derived.Test.YtokfcgloogdeiaaGreatDoorPart4
import Derived.Deep.LoopGhost
namespace Go.Proofs.YtokfcgloogdeiaaGreatDoor
set_option linter.unusedVariables false
set_option linter.unusedSimpArgs false

/-- a step of inflate -/
structure Adv (s s' : SI) (b : Nat) : Prop where
  fw : Fwd s.r s'.r b
  win : s'.o.win = s.o.win
  most : s'.o.most = s.o.most
  nou : s'.o.nou = s.o.nou
  grow : s.o.b.length ≤ s'.o.b.length
  len : s'.o.b.length ≤ s'.o.most
  n : s'.n + s.r.pos ≤ s.n + s'.r.pos
theorem Adv.trans {a b c : SI} {n m : Nat} (h : Adv a b n) (k : Adv b c m) : Adv a c (n + m) :=
  ⟨h.fw.trans k.fw, k.win.trans h.win, k.most.trans h.most, k.nou.trans h.nou, Nat.le_trans h.grow k.grow, k.len, by have := h.n; have := k.n; omega⟩
theorem Adv.weak {a b : SI} {n m : Nat} (h : Adv a b n) (k : m ≤ n) : Adv a b m := ⟨h.fw.weak k, h.win, h.most, h.nou, h.grow, h.len, h.n⟩
/-- a state that may be -/
def SI.ok (s : SI) : Prop := s.r.E = 0 ∧ s.r.pos ≤ 8 * s.r.l.length ∧ s.o.b.length ≤ s.o.most
theorem Adv.ok {a b : SI} {n : Nat} (h : Adv a b n) : b.ok := ⟨h.fw.E1, h.fw.hp, h.len⟩
theorem Adv.refl (s : SI) (h : s.ok) : Adv s s 0 := ⟨Fwd.refl _ h.1 h.2.1, rfl, rfl, rfl, Nat.le_refl _, h.2.2, Nat.le_refl _⟩
theorem lit_ok {o : HS} {c : UInt8} (h : (o.lit c).1 = 0) : (o.lit c).2 = { o with b := o.b ++ [c] } ∧ o.b.length < o.most := by
  unfold HS.lit at h ⊢
  by_cases e : o.most ≤ o.b.length
  · rw [if_pos e] at h; simp at h
  · rw [if_neg e]; exact ⟨rfl, by omega⟩
theorem copy_ok {o : HS} {d n : Int} (h : (o.copy d n).1 = 0) : (o.copy d n).2 = { o with b := cpy o.b d.toNat n.toNat } ∧ 1 ≤ d ∧ 0 ≤ n ∧ d ≤ o.win ∧ (o.nou = false → d ≤ o.b.length) ∧ n ≤ (o.most : Int) - o.b.length := by
  unfold HS.copy at h ⊢
  by_cases e1 : d < 1 ∨ n < 0
  · rw [if_pos e1] at h; simp at h
  rw [if_neg e1] at h ⊢
  by_cases e2 : (o.win : Int) < d ∨ ((o.b.length : Int) < d ∧ o.nou = false)
  · rw [if_pos e2] at h; simp at h
  rw [if_neg e2] at h ⊢
  by_cases e3 : (o.most : Int) - o.b.length < n
  · rw [if_pos e3] at h; simp at h
  rw [if_neg e3]
  refine ⟨rfl, by omega, by omega, by omega, fun hn => ?_, by omega⟩
  rcases Int.lt_or_le (o.b.length : Int) d with g | g
  · exact absurd (.inr ⟨g, hn⟩) e2
  · exact g
theorem adv_lit (r r' : RS) (o : HS) (n m k : Nat) (c : UInt8) (f : Fwd r r' k) (h : (o.lit c).1 = 0) (hm : m + r.pos ≤ n + r'.pos) : Adv ⟨r, o, n⟩ ⟨r', (o.lit c).2, m⟩ k := by
  obtain ⟨e, hl⟩ := lit_ok h
  rw [e]
  exact ⟨f, rfl, rfl, rfl, by dsimp only; rw [List.length_append]; omega, by dsimp only; rw [List.length_append, List.length_singleton]; omega, hm⟩
theorem adv_copy (r r' : RS) (o : HS) (n m k : Nat) (d x : Int) (f : Fwd r r' k) (h : (o.copy d x).1 = 0) (hm : m + r.pos ≤ n + r'.pos) : Adv ⟨r, o, n⟩ ⟨r', (o.copy d x).2, m⟩ k := by
  obtain ⟨e, h1, h2, h3, h4, h5⟩ := copy_ok h
  rw [e]
  exact ⟨f, rfl, rfl, rfl, by dsimp only; rw [cpy_len]; omega, by dsimp only; rw [cpy_len]; omega, hm⟩
theorem plL_adv (k : Nat) (s : SI) (h : (plL k s).1 = 0) (hs : s.ok) : Adv s (plL k s).2 0 := by
  induction k generalizing s with
  | zero => rw [plL]; exact Adv.refl s hs
  | succ k ih =>
    rw [plL] at h ⊢
    by_cases h1 : (s.r.bits 8).2.E = 0
    · rw [if_neg (by simpa using h1)] at h ⊢
      by_cases h2 : (s.o.lit (UInt8.ofNat (s.r.bits 8).1)).1 = 0
      · rw [if_neg (by simpa using h2)] at h ⊢
        have f := fwd_bits s.r 8 h1 hs.2.1
        have a := adv_lit s.r (s.r.bits 8).2 s.o s.n (s.n + 1) 8 _ f h2 (by have := f.p; have e8 : ((8 : Nat) : Int) = 8 := rfl; rw [e8] at this; omega)
        exact (a.trans (ih _ h a.ok)).weak (by omega)
      · rw [if_pos h2] at h; exact absurd h h2
    · rw [if_pos h1] at h; exact absurd h h1
theorem plain_adv (s : SI) (h : (plain18 s).1 = 0) (hs : s.ok) : Adv s (plain18 s).2 0 := by
  unfold plain18 at h ⊢
  by_cases h1 : ((s.r.align.bits 16).2.bits 16).2.E = 0
  · rw [if_neg (by simpa using h1)] at h ⊢
    by_cases h2 : (s.r.align.bits 16).1 + ((s.r.align.bits 16).2.bits 16).1 = 65535
    · rw [if_neg (by simpa using h2)] at h ⊢
      have f0 := fwd_align s.r hs.1 hs.2.1
      have h0 := (bits_good0 _ 16 h1).1
      have f1 := f0.trans (fwd_bits s.r.align 16 h0 f0.hp)
      have f2 := f1.trans (fwd_bits _ 16 h1 f1.hp)
      have a : Adv s { s with r := ((s.r.align.bits 16).2.bits 16).2 } 0 := ⟨f2.weak (by omega), rfl, rfl, rfl, Nat.le_refl _, hs.2.2, by have := f2.p; have e16 : ((16 : Nat) : Int) = 16 := rfl; rw [e16] at this; dsimp only at this ⊢; omega⟩
      exact (a.trans (plL_adv _ _ h a.ok)).weak (by omega)
    · rw [if_pos h2] at h; simp at h
  · rw [if_pos h1] at h; exact absurd h h1
theorem lenX_ok (large : Bool) (x : Int) (r : RS) (h : (lenX large x r).1 = 0) (hp : r.pos ≤ 8 * r.l.length) : Fwd r (lenX large x r).2.2 0 := by
  unfold lenX at h ⊢
  split at h
  · simp at h
  · rename_i h1
    rw [if_neg h1]
    split at h
    · rename_i h2; exact absurd h h2
    · rename_i h2
      rw [if_neg h2]
      exact (fwd_bits r _ (by simpa using h2) hp).weak (by omega)
theorem dstX_ok (large : Bool) (LD : List Nat) (hL : ∀ x ∈ LD, x ≤ 16) (r : RS) (h : (dstX large LD r).1 = 0) (hp : r.pos ≤ 8 * r.l.length) : Fwd r (dstX large LD r).2.2 1 := by
  unfold dstX at h ⊢
  split at h
  · rename_i h1; exact absurd h h1
  · rename_i h1
    rw [if_neg h1]
    split at h
    · simp at h
    · rename_i h2
      rw [if_neg h2]
      split at h
      · rename_i h3; exact absurd h h3
      · rename_i h3
        rw [if_neg h3]
        have a := fwd_next LD hL r (by simpa using h1) hp
        exact (a.trans (fwd_bits _ _ (by simpa using h3) a.hp)).weak (by omega)
theorem copy18_adv (large : Bool) (LD : List Nat) (hL : ∀ x ∈ LD, x ≤ 16) (x : Int) (s : SI) (h : (copy18 large LD x s).1 = 0) (hs : s.ok) : Adv s (copy18 large LD x s).2 1 := by
  unfold copy18 at h ⊢
  split at h
  · rename_i h1; exact absurd h h1
  · rename_i h1
    rw [if_neg h1]
    split at h
    · rename_i h2; exact absurd h h2
    · rename_i h2
      rw [if_neg h2]
      have a := lenX_ok large x s.r (by simpa using h1) hs.2.1
      have b := (a.trans (dstX_ok large LD hL _ (by simpa using h2) a.hp)).weak (show 1 ≤ 0 + 1 by omega)
      exact adv_copy s.r _ s.o s.n s.n 1 _ _ b h (by have := b.p; omega)
theorem tok18_adv (large : Bool) (LD : List Nat) (hL : ∀ x ∈ LD, x ≤ 16) (x : Int) (s : SI) (h : (tok18 large LD x s).1 = 0) (hs : s.ok) : Adv s (tok18 large LD x s).2 0 := by
  unfold tok18 at h ⊢
  by_cases h1 : x < 256
  · rw [if_pos h1] at h ⊢
    exact adv_lit s.r s.r s.o s.n s.n 0 _ (Fwd.refl _ hs.1 hs.2.1) h (Nat.le_refl _)
  · rw [if_neg h1] at h ⊢
    exact (copy18_adv large LD hL x s h hs).weak (by omega)
theorem words18_adv (large : Bool) (LL LD : List Nat) (h1 : ∀ x ∈ LL, x ≤ 16) (h2 : ∀ x ∈ LD, x ≤ 16) (F : Nat) (s : SI) (h : (words18 large LL LD F s).1 = 0) (hs : s.ok) : Adv s (words18 large LL LD F s).2 1 := by
  induction F generalizing s with
  | zero => rw [words18] at h; simp at h
  | succ F ih =>
    rw [words18] at h ⊢
    by_cases e1 : (s.r.next LL).2.1 = 0
    · rw [if_neg (by simpa using e1)] at h ⊢
      have f := fwd_next LL h1 s.r e1 hs.2.1
      have a : Adv s ⟨(s.r.next LL).2.2, s.o, s.n + 1⟩ 1 := ⟨f, rfl, rfl, rfl, Nat.le_refl _, hs.2.2, by have := f.p; dsimp only; omega⟩
      by_cases e2 : (s.r.next LL).1 = 256
      · rw [if_pos e2]; exact a
      · rw [if_neg e2] at h ⊢
        by_cases e3 : (tok18 large LD (s.r.next LL).1 ⟨(s.r.next LL).2.2, s.o, s.n + 1⟩).1 = 0
        · rw [if_neg (by simpa using e3)] at h ⊢
          have b := a.trans (tok18_adv large LD h2 _ _ e3 a.ok)
          exact (b.trans (ih _ h b.ok)).weak (by omega)
        · rw [if_pos e3] at h; exact absurd h e3
    · rw [if_pos e1] at h; exact absurd h e1
theorem head18_fwd (r : RS) (h : (head18 r).2.2.E = 0) (hp : r.pos ≤ 8 * r.l.length) : Fwd r (head18 r).2.2 3 := by
  have h0 := (bits_good0 (r.bits 1).2 2 h).1
  have f := fwd_bits r 1 h0 hp
  exact f.trans (fwd_bits _ 2 h f.hp)
theorem block18_adv (large : Bool) (F : Nat) (s : SI) (h : (block18 large F s).2.1 = 0) (hs : s.ok) : Adv s (block18 large F s).2.2 3 := by
  unfold block18 at h ⊢
  by_cases e1 : (head18 s.r).2.2.E = 0
  · rw [if_neg (by simpa using e1)] at h ⊢
    have f := head18_fwd s.r e1 hs.2.1
    have a : Adv s ⟨(head18 s.r).2.2, s.o, s.n + 1⟩ 3 := ⟨f, rfl, rfl, rfl, Nat.le_refl _, hs.2.2, by have := f.p; dsimp only; omega⟩
    by_cases e2 : (head18 s.r).2.1 = 0
    · rw [if_pos e2] at h ⊢
      exact (a.trans (plain_adv _ h a.ok)).weak (by omega)
    · rw [if_neg e2] at h ⊢
      by_cases e3 : (head18 s.r).2.1 = 3
      · rw [if_pos e3] at h; simp at h
      · rw [if_neg e3] at h ⊢
        by_cases e4 : (codes18 large (head18 s.r).2.1 (head18 s.r).2.2).1 = 0
        · rw [if_neg (by simpa using e4)] at h ⊢
          obtain ⟨g1, g2, g3⟩ := codes18_ok large _ _ e4 f.E1 f.hp
          have b : Adv s ⟨(codes18 large (head18 s.r).2.1 (head18 s.r).2.2).2.2.2, s.o, s.n + 1⟩ 3 := ⟨(f.trans g1), rfl, rfl, rfl, Nat.le_refl _, hs.2.2, by have := (f.trans g1).p; dsimp only; omega⟩
          exact (b.trans (words18_adv large _ _ g2.2 g3.2 F _ h b.ok)).weak (by omega)
        · rw [if_pos e4] at h; exact absurd h e4
  · rw [if_pos e1] at h; exact absurd h e1
theorem blocks18_adv (large : Bool) (F0 F : Nat) (s : SI) (h : (blocks18 large F0 F s).1 = 0) (hs : s.ok) : Adv s (blocks18 large F0 F s).2 3 := by
  induction F generalizing s with
  | zero => rw [blocks18] at h; simp at h
  | succ F ih =>
    rw [blocks18] at h ⊢
    by_cases e1 : (block18 large F0 s).2.1 = 0
    · rw [if_neg (by simpa using e1)] at h ⊢
      have a := block18_adv large F0 s e1 hs
      by_cases e2 : (block18 large F0 s).1 = true
      · rw [if_pos e2]; exact a
      · rw [if_neg e2] at h ⊢
        exact (a.trans (ih _ h a.ok)).weak (by omega)
    · rw [if_pos e1] at h; exact absurd h e1
/-- just size bytes, or nothing; no more steps than bits -/
theorem dec18_ok (b : List UInt8) (large : Bool) (size : Int) (h : (dec18 b large size).2.2 = 0) : ((dec18 b large size).1.length : Int) = size ∧ (dec18 b large size).2.1 ≤ 8 * b.length := by
  unfold dec18 at h ⊢
  by_cases e0 : size < 0
  · rw [if_pos e0] at h; simp at h
  rw [if_neg e0] at h ⊢
  by_cases e1 : (run18 b large size.toNat).1 = 0
  · rw [if_neg (by simpa using e1)] at h ⊢
    by_cases e2 : (run18 b large size.toNat).2.o.b.length = size.toNat
    · rw [if_neg (by simpa using e2)] at h ⊢
      by_cases e3 : 8 ≤ (run18 b large size.toNat).2.r.left
      · rw [if_pos e3] at h; simp at h
      · rw [if_neg e3]
        have a := blocks18_adv large _ _ _ e1 ⟨rfl, Nat.zero_le _, Nat.zero_le _⟩
        have h1 := a.n
        have h2 := a.fw.le
        dsimp only at h1 h2 ⊢
        have h3 : (run18 b large size.toNat).2.n ≤ (run18 b large size.toNat).2.r.pos := by unfold run18; omega
        have h4 : (run18 b large size.toNat).2.r.pos ≤ 8 * b.length := h2
        exact ⟨by omega, by omega⟩
    · rw [if_pos e2] at h; simp at h
  · rw [if_pos e1] at h; exact absurd h e1
theorem dec18_err (b : List UInt8) (large : Bool) (size : Int) (h : (dec18 b large size).2.2 ≠ 0) : (dec18 b large size).1 = [] ∧ (dec18 b large size).2.1 = 0 := by
  unfold dec18 at h ⊢
  by_cases e0 : size < 0
  · rw [if_pos e0]; exact ⟨rfl, rfl⟩
  rw [if_neg e0] at h ⊢
  by_cases e1 : (run18 b large size.toNat).1 = 0
  · rw [if_neg (by simpa using e1)] at h ⊢
    by_cases e2 : (run18 b large size.toNat).2.o.b.length = size.toNat
    · rw [if_neg (by simpa using e2)] at h ⊢
      by_cases e3 : 8 ≤ (run18 b large size.toNat).2.r.left
      · rw [if_pos e3]; exact ⟨rfl, rfl⟩
      · rw [if_neg e3] at h; exact absurd rfl h
    · rw [if_pos e2]; exact ⟨rfl, rfl⟩
  · rw [if_pos e1]; exact ⟨rfl, rfl⟩
/-! ### with large, too -/
def SI.up (s : SI) : SI := ⟨s.r, { s.o with win := 65536 }, s.n⟩
theorem lit_up (o : HS) (c : UInt8) : ({ o with win := 65536 } : HS).lit c = ((o.lit c).1, { (o.lit c).2 with win := 65536 }) := by
  unfold HS.lit
  by_cases e : o.most ≤ o.b.length
  · rw [if_pos e, if_pos (show ({ o with win := 65536 } : HS).most ≤ ({ o with win := 65536 } : HS).b.length from e)]
  · rw [if_neg e, if_neg (show ¬ ({ o with win := 65536 } : HS).most ≤ ({ o with win := 65536 } : HS).b.length from e)]
theorem copy_up (o : HS) (d n : Int) (hw : o.win = 32768) (h : (o.copy d n).1 = 0) : ({ o with win := 65536 } : HS).copy d n = (0, { (o.copy d n).2 with win := 65536 }) := by
  obtain ⟨e, h1, h2, h3, h4, h5⟩ := copy_ok h
  rw [e]
  unfold HS.copy
  rw [if_neg (by omega), if_neg (by
    rintro (g | ⟨g, g2⟩)
    · have : ((65536 : Nat) : Int) < d := g; rw [hw] at h3; omega
    · have := h4 g2; have g' : (o.b.length : Int) < d := g; omega), if_neg (by show ¬ (o.most : Int) - o.b.length < n; omega)]
theorem plL_up (k : Nat) (s : SI) (h : (plL k s).1 = 0) : plL k s.up = (0, (plL k s).2.up) := by
  induction k generalizing s with
  | zero => rfl
  | succ k ih =>
    rw [plL] at h ⊢
    by_cases h1 : (s.r.bits 8).2.E = 0
    · rw [if_neg (by simpa using h1)] at h
      by_cases h2 : (s.o.lit (UInt8.ofNat (s.r.bits 8).1)).1 = 0
      · rw [if_neg (by simpa using h2)] at h
        have := ih _ h
        rw [show s.up.r = s.r from rfl, show s.up.o = { s.o with win := 65536 } from rfl, show s.up.n = s.n from rfl, lit_up, if_neg (show ¬ (s.r.bits 8).2.E ≠ 0 by simpa using h1), plL]
        dsimp only
        rw [if_neg (show ¬ (s.r.bits 8).2.E ≠ 0 by simpa using h1), if_neg (show ¬ (s.o.lit (UInt8.ofNat (s.r.bits 8).1)).1 ≠ 0 by simpa using h2), if_neg (show ¬ (s.o.lit (UInt8.ofNat (s.r.bits 8).1)).1 ≠ 0 by simpa using h2)]
        exact this
      · rw [if_pos h2] at h; exact absurd h h2
    · rw [if_pos h1] at h; exact absurd h h1
theorem plain_up (s : SI) (h : (plain18 s).1 = 0) : plain18 s.up = (0, (plain18 s).2.up) := by
  unfold plain18 at h ⊢
  have e : s.up.r = s.r := rfl
  rw [e]
  split at h
  · rename_i h1; exact absurd h h1
  · rename_i h1
    rw [if_neg h1, if_neg h1]
    split at h
    · simp at h
    · rename_i h2
      rw [if_neg h2, if_neg h2]
      exact plL_up _ _ h
theorem lenX_up (x : Int) (r : RS) (h : (lenX false x r).1 = 0) (hx : x ≠ 285) : lenX true x r = lenX false x r := by
  have e : lenOf x true = lenOf x false := by unfold lenOf; repeat' split
                                              all_goals first | rfl | (exfalso; omega)
  unfold lenX
  rw [e]
theorem lenX_258 (r : RS) (h : (lenX false 285 r).1 = 0) : (lenX false 285 r).2.1 = 258 + (r.bits 0).1 := by
  have e : lenOf 285 false = (258, 0, true) := by decide
  unfold lenX at h ⊢
  rw [e] at h ⊢
  dsimp only at h ⊢
  rw [if_neg (by simp)] at h ⊢
  split at h
  · rename_i h1; exact absurd h h1
  · rename_i h1; rw [if_neg h1]; rfl
theorem dstX_up (LD : List Nat) (r : RS) (h : (dstX false LD r).1 = 0) : dstX true LD r = dstX false LD r := by
  have key : (dstOf (r.next LD).1 false).2.2 ≠ false → dstOf (r.next LD).1 true = dstOf (r.next LD).1 false := by
    intro g
    unfold dstOf at g ⊢
    by_cases a : (r.next LD).1 < 0 ∨ 31 < (r.next LD).1 ∨ (29 < (r.next LD).1 ∧ false = false)
    · rw [if_pos a] at g; exact absurd rfl g
    · rw [if_neg a, if_neg (by
        rintro (b | b | ⟨b, c⟩)
        · exact a (.inl b)
        · exact a (.inr (.inl b))
        · simp at c)]
  unfold dstX at h ⊢
  split at h
  · rename_i h1; exact absurd h h1
  · rename_i h1
    split at h
    · simp at h
    · rename_i h2
      rw [key h2]
theorem copy18_up (LD : List Nat) (x : Int) (s : SI) (hw : s.o.win = 32768) (hm : s.o.most < 258) (h : (copy18 false LD x s).1 = 0) : copy18 true LD x s.up = (0, (copy18 false LD x s).2.up) := by
  unfold copy18 at h ⊢
  have e : s.up.r = s.r := rfl
  have e2 : s.up.o = { s.o with win := 65536 } := rfl
  have e3 : s.up.n = s.n := rfl
  rw [e, e2, e3]
  split at h
  · rename_i h1; exact absurd h h1
  · rename_i h1
    have h1' : (lenX false x s.r).1 = 0 := by simpa using h1
    split at h
    · rename_i h2; exact absurd h h2
    · rename_i h2
      have hx : x ≠ 285 := by
        rintro rfl
        have := lenX_258 s.r h1'
        obtain ⟨_, _, _, _, _, h5⟩ := copy_ok h
        rw [this] at h5
        omega
      rw [lenX_up x s.r h1' hx, if_neg h1, dstX_up LD _ (by simpa using h2), if_neg h2, if_neg h1, if_neg h2, copy_up s.o _ _ hw h]
      rfl
theorem tok18_up (LD : List Nat) (x : Int) (s : SI) (hw : s.o.win = 32768) (hm : s.o.most < 258) (h : (tok18 false LD x s).1 = 0) : tok18 true LD x s.up = (0, (tok18 false LD x s).2.up) := by
  unfold tok18 at h ⊢
  by_cases h1 : x < 256
  · rw [if_pos h1] at h ⊢
    rw [if_pos h1, show s.up.o = { s.o with win := 65536 } from rfl, lit_up, h]
    rfl
  · rw [if_neg h1] at h ⊢
    rw [if_neg h1]
    exact copy18_up LD x s hw hm h
theorem words18_up (LL LD : List Nat) (g1 : ∀ x ∈ LL, x ≤ 16) (g2 : ∀ x ∈ LD, x ≤ 16) (F : Nat) (s : SI) (hs : s.ok) (hw : s.o.win = 32768) (hm : s.o.most < 258) (h : (words18 false LL LD F s).1 = 0) : words18 true LL LD F s.up = (0, (words18 false LL LD F s).2.up) := by
  induction F generalizing s with
  | zero => rw [words18] at h; simp at h
  | succ F ih =>
    rw [words18] at h ⊢
    rw [words18]
    have e : s.up.r = s.r := rfl
    rw [e]
    by_cases e1 : (s.r.next LL).2.1 = 0
    · rw [if_neg (show ¬ (s.r.next LL).2.1 ≠ 0 by simpa using e1)] at h ⊢
      rw [if_neg (show ¬ (s.r.next LL).2.1 ≠ 0 by simpa using e1)]
      have f := fwd_next LL g1 s.r e1 hs.2.1
      have a : Adv s ⟨(s.r.next LL).2.2, s.o, s.n + 1⟩ 1 := ⟨f, rfl, rfl, rfl, Nat.le_refl _, hs.2.2, by have := f.p; dsimp only; omega⟩
      by_cases e2 : (s.r.next LL).1 = 256
      · rw [if_pos e2, if_pos e2]; rfl
      · rw [if_neg e2] at h ⊢
        rw [if_neg e2]
        by_cases e3 : (tok18 false LD (s.r.next LL).1 ⟨(s.r.next LL).2.2, s.o, s.n + 1⟩).1 = 0
        · rw [if_neg (show ¬ (tok18 false LD (s.r.next LL).1 ⟨(s.r.next LL).2.2, s.o, s.n + 1⟩).1 ≠ 0 by simpa using e3)] at h ⊢
          have t := tok18_up LD _ ⟨(s.r.next LL).2.2, s.o, s.n + 1⟩ hw hm e3
          have t' : tok18 true LD (s.r.next LL).1 ⟨(s.r.next LL).2.2, s.up.o, s.up.n + 1⟩ = (0, (tok18 false LD (s.r.next LL).1 ⟨(s.r.next LL).2.2, s.o, s.n + 1⟩).2.up) := t
          have b := tok18_adv false LD g2 _ _ e3 a.ok
          rw [t', if_neg (by simp)]
          exact ih _ b.ok (b.win.trans hw) (by rw [b.most]; exact hm) h
        · rw [if_pos e3] at h; exact absurd h e3
    · rw [if_pos e1] at h; exact absurd h e1
theorem right17_up (l d : List Int) (h : right17 l d false = true) : right17 l d true = true := by
  unfold right17 at h ⊢
  simp only [Bool.and_eq_true, decide_eq_true_eq] at h ⊢
  obtain ⟨⟨a, b, c, e⟩, f⟩ := h
  exact ⟨⟨a, b, c, by show d.length ≤ if True then 32 else 30; simp only [if_true]; split at e <;> omega⟩, f⟩
theorem rd17_up (s : RS) (h : (rd17 s false).2.2.1 = 0) : rd17 s true = rd17 s false := by
  obtain ⟨x1, s1, h1⟩ : ∃ x1 s1, s.bits 5 = (x1, s1) := ⟨_, _, rfl⟩
  obtain ⟨x2, s2, h2⟩ : ∃ x2 s2, s1.bits 5 = (x2, s2) := ⟨_, _, rfl⟩
  obtain ⟨x3, s3, h3⟩ : ∃ x3 s3, s2.bits 4 = (x3, s3) := ⟨_, _, rfl⟩
  obtain ⟨T, s4, h4⟩ : ∃ T s4, th17 s3 (x3 + 4) = (T, s4) := ⟨_, _, rfl⟩
  obtain ⟨al, er, s5, h5⟩ : ∃ al er s5, ls17 (Ln T) (x1 + 257 + (x2 + 1)) (x1 + 257 + (x2 + 1) + 1) [] s4 = (al, er, s5) := ⟨_, _, _, rfl⟩
  obtain ⟨k1, k2, k3⟩ := rd17_cases s false x1 s1 x2 s2 x3 s3 T s4 al er s5 h1 h2 h3 h4 h5
  obtain ⟨-, -, j3⟩ := rd17_cases s true x1 s1 x2 s2 x3 s3 T s4 al er s5 h1 h2 h3 h4 h5
  generalize rd17 s false = R at h k1 k2 k3 ⊢
  by_cases e1 : s3.E = 0
  rotate_left
  · rw [k1 e1] at h; exact absurd h e1
  by_cases e2 : 286 < x1 + 257 ∨ (30 < x2 + 1 ∧ false = false)
  · rw [k2 e1 e2] at h; simp at h
  obtain ⟨k4, k5⟩ := k3 e1 e2
  obtain ⟨-, j5⟩ := j3 e1 (by
    rintro (g | ⟨g, g2⟩)
    · exact e2 (.inl g)
    · simp at g2)
  by_cases e3 : s4.E = 0
  rotate_left
  · rw [k4 e3] at h; exact absurd h e3
  obtain ⟨k6, k7⟩ := k5 e3
  obtain ⟨-, j7⟩ := j5 e3
  by_cases e4 : chk T = 1
  rotate_left
  · rw [k6 e4] at h; simp at h
  obtain ⟨k8, k9⟩ := k7 e4
  obtain ⟨-, j9⟩ := j7 e4
  by_cases e5 : er = 0
  rotate_left
  · rw [k8 e5] at h; exact absurd h e5
  by_cases e6 : right17 (al.take (x1 + 257)) (al.drop (x1 + 257)) false = false
  · rw [k9 e5, if_pos e6] at h; simp at h
  · have e7 := right17_up _ _ (by simpa using e6)
    rw [j9 e5, k9 e5, if_neg e6, e7, if_neg (by simp)]
theorem block18_up (F : Nat) (s : SI) (hs : s.ok) (hw : s.o.win = 32768) (hm : s.o.most < 258) (h : (block18 false F s).2.1 = 0) : block18 true F s.up = ((block18 false F s).1, 0, (block18 false F s).2.2.up) := by
  unfold block18 at h ⊢
  have e : s.up.r = s.r := rfl
  rw [e]
  by_cases e1 : (head18 s.r).2.2.E = 0
  · rw [if_neg (show ¬ (head18 s.r).2.2.E ≠ 0 by simpa using e1)] at h ⊢
    rw [if_neg (show ¬ (head18 s.r).2.2.E ≠ 0 by simpa using e1)]
    have f := head18_fwd s.r e1 hs.2.1
    have a : Adv s ⟨(head18 s.r).2.2, s.o, s.n + 1⟩ 3 := ⟨f, rfl, rfl, rfl, Nat.le_refl _, hs.2.2, by have := f.p; dsimp only; omega⟩
    by_cases e2 : (head18 s.r).2.1 = 0
    · rw [if_pos e2] at h ⊢
      rw [if_pos e2]
      have := plain_up ⟨(head18 s.r).2.2, s.o, s.n + 1⟩ h
      exact congrArg (Prod.mk _) this
    · rw [if_neg e2] at h ⊢
      rw [if_neg e2]
      by_cases e3 : (head18 s.r).2.1 = 3
      · rw [if_pos e3] at h; simp at h
      · rw [if_neg e3] at h ⊢
        rw [if_neg e3]
        by_cases e4 : (codes18 false (head18 s.r).2.1 (head18 s.r).2.2).1 = 0
        · have ec : codes18 true (head18 s.r).2.1 (head18 s.r).2.2 = codes18 false (head18 s.r).2.1 (head18 s.r).2.2 := by
            unfold codes18 at e4 ⊢
            by_cases e5 : (head18 s.r).2.1 = 2
            · rw [if_pos e5] at e4 ⊢
              rw [if_pos e5, rd17_up _ e4]
            · rw [if_neg e5, if_neg e5]
          rw [if_neg (show ¬ (codes18 false (head18 s.r).2.1 (head18 s.r).2.2).1 ≠ 0 by simpa using e4)] at h ⊢
          rw [ec, if_neg (show ¬ (codes18 false (head18 s.r).2.1 (head18 s.r).2.2).1 ≠ 0 by simpa using e4)]
          obtain ⟨g1, g2, g3⟩ := codes18_ok false _ _ e4 f.E1 f.hp
          have b : Adv s ⟨(codes18 false (head18 s.r).2.1 (head18 s.r).2.2).2.2.2, s.o, s.n + 1⟩ 3 := ⟨(f.trans g1), rfl, rfl, rfl, Nat.le_refl _, hs.2.2, by have := (f.trans g1).p; dsimp only; omega⟩
          have := words18_up _ _ g2.2 g3.2 F ⟨(codes18 false (head18 s.r).2.1 (head18 s.r).2.2).2.2.2, s.o, s.n + 1⟩ b.ok hw hm h
          exact congrArg (Prod.mk _) this
        · rw [if_pos e4] at h; exact absurd h e4
  · rw [if_pos e1] at h; exact absurd h e1
theorem blocks18_up (F0 F : Nat) (s : SI) (hs : s.ok) (hw : s.o.win = 32768) (hm : s.o.most < 258) (h : (blocks18 false F0 F s).1 = 0) : blocks18 true F0 F s.up = (0, (blocks18 false F0 F s).2.up) := by
  induction F generalizing s with
  | zero => rw [blocks18] at h; simp at h
  | succ F ih =>
    rw [blocks18] at h ⊢
    rw [blocks18]
    by_cases e1 : (block18 false F0 s).2.1 = 0
    · have b := block18_up F0 s hs hw hm e1
      have a := block18_adv false F0 s e1 hs
      rw [if_neg (show ¬ (block18 false F0 s).2.1 ≠ 0 by simpa using e1)] at h ⊢
      rw [b]
      dsimp only
      rw [if_neg (by simp)]
      by_cases e2 : (block18 false F0 s).1 = true
      · rw [if_pos e2, if_pos e2]
      · rw [if_neg e2] at h ⊢
        rw [if_neg e2]
        exact ih _ a.ok (a.win.trans hw) (by rw [a.most]; exact hm) h
    · rw [if_pos e1] at h; exact absurd h e1
/-- what Deflate tells of fewer than 258 bytes is told with large, too -/
theorem dec18_up (b : List UInt8) (size : Int) (hz : size < 258) (h : (dec18 b false size).2.2 = 0) : dec18 b true size = dec18 b false size := by
  unfold dec18 at h ⊢
  by_cases e0 : size < 0
  · rw [if_pos e0] at h; simp at h
  rw [if_neg e0] at h ⊢
  rw [if_neg e0]
  by_cases e1 : (run18 b false size.toNat).1 = 0
  · have hr : run18 b true size.toNat = (0, (run18 b false size.toNat).2.up) :=
      blocks18_up _ _ ⟨⟨b, 0, true, 0⟩, ⟨win18 false, size.toNat, false, []⟩, 0⟩ ⟨rfl, Nat.zero_le _, Nat.zero_le _⟩ rfl (by dsimp only; omega) e1
    rw [hr, if_neg (by simp), if_neg (show ¬ (run18 b false size.toNat).1 ≠ 0 by simpa using e1)]
    rfl
  · rw [if_pos e1] at h; exact absurd h e1
end Go.Proofs.YtokfcgloogdeiaaGreatDoor
namespace Go.Proofs.YtokfcgloogdeiaaGreatDoor
set_option linter.unusedVariables false
set_option linter.unusedSimpArgs false

def SI.cap (s : SI) : Prop := s.o.b.length ≤ 100000 * s.n
theorem plL_cap (k : Nat) (s : SI) (h : (plL k s).1 = 0) (hc : s.cap) : (plL k s).2.cap := by
  induction k generalizing s with
  | zero => exact hc
  | succ k ih =>
    rw [plL] at h ⊢
    by_cases h1 : (s.r.bits 8).2.E = 0
    · rw [if_neg (by simpa using h1)] at h ⊢
      by_cases h2 : (s.o.lit (UInt8.ofNat (s.r.bits 8).1)).1 = 0
      · rw [if_neg (by simpa using h2)] at h ⊢
        refine ih _ h ?_
        unfold SI.cap at hc ⊢
        rw [(lit_ok h2).1]; dsimp only; rw [List.length_append, List.length_singleton]; omega
      · rw [if_pos h2] at h; exact absurd h h2
    · rw [if_pos h1] at h; exact absurd h h1
theorem plain_cap (s : SI) (h : (plain18 s).1 = 0) (hc : s.cap) : (plain18 s).2.cap := by
  unfold plain18 at h ⊢
  split at h
  · rename_i h1; exact absurd h h1
  · rename_i h1
    rw [if_neg h1]
    split at h
    · simp at h
    · rename_i h2
      rw [if_neg h2]
      exact plL_cap _ _ h hc
theorem bits_lt18 (r : RS) (e : Nat) (h : e ≤ 16) : (r.bits e).1 < 65536 := by
  have := bits_lt15 r e (by omega)
  have h2 : 2 ^ e ≤ 2 ^ 16 := Nat.pow_le_pow_right (by decide) h
  omega
theorem lenX_le (large : Bool) (x : Int) (r : RS) (hx : (lenOf x large).1 ≤ 258 ∧ (lenOf x large).2.1 ≤ 16) : (lenX large x r).2.1 ≤ 66000 := by
  have := bits_lt18 r _ hx.2
  unfold lenX
  repeat' split
  all_goals (dsimp only; omega)
theorem lenOf_le18 (x : Int) (large : Bool) : (lenOf x large).1 ≤ 258 ∧ (lenOf x large).2.1 ≤ 16 := by
  unfold lenOf
  by_cases h1 : x < 257 ∨ 285 < x
  · rw [if_pos h1]; decide
  · rw [if_neg h1]
    by_cases h2 : x = 285
    · rw [if_pos h2]; cases large <;> decide
    · rw [if_neg h2]
      obtain ⟨m, rfl⟩ : ∃ m : Nat, x = m := ⟨x.toNat, by omega⟩
      have := lbs_le ⟨m - 257, by omega⟩
      dsimp only at this ⊢
      rw [show 257 + (m - 257) = m by omega] at this
      rw [Int.toNat_natCast]
      omega
theorem tok18_cap (large : Bool) (LD : List Nat) (x : Int) (s : SI) (h : (tok18 large LD x s).1 = 0) : (tok18 large LD x s).2.o.b.length ≤ s.o.b.length + 100000 ∧ (tok18 large LD x s).2.n = s.n := by
  unfold tok18 at h ⊢
  by_cases h1 : x < 256
  · rw [if_pos h1] at h ⊢
    dsimp only at h ⊢
    rw [(lit_ok h).1]
    refine ⟨?_, rfl⟩
    dsimp only; rw [List.length_append, List.length_singleton]; omega
  · rw [if_neg h1] at h ⊢
    unfold copy18 at h ⊢
    split at h
    · rename_i h2; exact absurd h h2
    · rename_i h2
      rw [if_neg h2]
      split at h
      · rename_i h3; exact absurd h h3
      · rename_i h3
        rw [if_neg h3]
        dsimp only at h ⊢
        have hl := lenX_le large x s.r (lenOf_le18 x large)
        obtain ⟨e, _, _, _, _, _⟩ := copy_ok h
        rw [e]
        refine ⟨?_, rfl⟩
        dsimp only; rw [cpy_len]; omega
theorem words18_cap (large : Bool) (LL LD : List Nat) (F : Nat) (s : SI) (h : (words18 large LL LD F s).1 = 0) (hc : s.cap) : (words18 large LL LD F s).2.cap := by
  induction F generalizing s with
  | zero => rw [words18] at h; simp at h
  | succ F ih =>
    rw [words18] at h ⊢
    split at h
    · rename_i h1; exact absurd h h1
    · rename_i h1
      rw [if_neg h1]
      split at h
      · rename_i h2
        rw [if_pos h2]
        unfold SI.cap at hc ⊢; dsimp only; omega
      · rename_i h2
        rw [if_neg h2]
        split at h
        · rename_i h3; exact absurd h h3
        · rename_i h3
          rw [if_neg h3]
          obtain ⟨a, b⟩ := tok18_cap large LD _ _ (by simpa using h3)
          refine ih _ h ?_
          unfold SI.cap at hc ⊢
          rw [b]; dsimp only at a ⊢; omega
theorem block18_cap (large : Bool) (F : Nat) (s : SI) (h : (block18 large F s).2.1 = 0) (hc : s.cap) : (block18 large F s).2.2.cap := by
  have hc1 : ∀ r, (⟨r, s.o, s.n + 1⟩ : SI).cap := fun r => by unfold SI.cap at hc ⊢; dsimp only; omega
  unfold block18 at h ⊢
  split at h
  · rename_i h1; exact absurd h h1
  · rename_i h1
    rw [if_neg h1]
    split at h
    · rename_i h2; rw [if_pos h2]; exact plain_cap _ h (hc1 _)
    · rename_i h2
      rw [if_neg h2]
      split at h
      · simp at h
      · rename_i h3
        rw [if_neg h3]
        split at h
        · rename_i h4; exact absurd h h4
        · rename_i h4
          rw [if_neg h4]
          exact words18_cap _ _ _ _ _ h (hc1 _)
end Go.Proofs.YtokfcgloogdeiaaGreatDoor
namespace Go.Proofs.YtokfcgloogdeiaaGreatDoor
set_option linter.unusedVariables false
set_option linter.unusedSimpArgs false
set_option maxRecDepth 100000
open Go.ChangeShapes Go.WideShapes Go.ChangeAt Go.RowKit

def wd17 (l : List Int) : Nat := l.countP (fun z => decide (0 < z))
def on17 (l : List Int) : Nat := l.countP (fun z => decide (z = 1))
theorem wd17_le (l : List Int) : wd17 l ≤ l.length := List.countP_le_length
theorem on17_le (l : List Int) : on17 l ≤ l.length := List.countP_le_length
theorem wd17_take (l : List Int) (k : Nat) (h : k < l.length) : wd17 (l.take (k + 1)) = wd17 (l.take k) + (if 0 < l[k] then 1 else 0) := by
  unfold wd17
  rw [List.take_succ_eq_append_getElem h, List.countP_append]
  simp [List.countP_cons]
theorem on17_take (l : List Int) (k : Nat) (h : k < l.length) : on17 (l.take (k + 1)) = on17 (l.take k) + (if l[k] = 1 then 1 else 0) := by
  unfold on17
  rw [List.take_succ_eq_append_getElem h, List.countP_append]
  simp [List.countP_cons]
theorem whole17_bad (l : List Int) (none : Bool) (k : Nat) (h : k < l.length) (hb : l[k] < 0 ∨ 15 < l[k]) : whole17 l none = false := by
  unfold whole17
  rw [Bool.and_eq_false_iff]
  left
  rw [List.all_eq_false]
  exact ⟨l[k], List.getElem_mem h, by simp; omega⟩
theorem whole17_ok (l : List Int) (none : Bool) (h : ∀ i (hi : i < l.length), 0 ≤ l[i] ∧ l[i] ≤ 15) : whole17 l none = if wd17 l = 0 then none else (decide (wd17 l = 1) && decide (on17 l = 1)) || decide (chk l = 1) := by
  unfold whole17
  have : (l.all fun z => decide (0 ≤ z) && decide (z ≤ 15)) = true := by
    rw [List.all_eq_true]
    intro x hx
    obtain ⟨i, hi, rfl⟩ := List.getElem_of_mem hx
    have := h i hi
    simp; omega
  rw [this, Bool.true_and]
  rfl
set_option maxHeartbeats 1000000 in
theorem rwhole17_c (w : World) (v : Value) (zs : List Int) (none : Bool) (h : Is .i64 w v zs) (hn : zs.length ≤ 400) : Calls Tryz.prog 40 #[v, .bool none] w fun e w' => e = .returned (.bool (whole17 zs none)) ∧ ∃ n, w' = w.drewN n := by
  obtain ⟨R, hR⟩ : ∃ R, whole17 zs none = R := ⟨_, rfl⟩
  rw [hR]
  have HR := Lib.hid hR
  clear hR
  have HI := Lib.hid (fun i hi => h.at i hi)
  have HC := Lib.hid (fun n => refcheck_c (w.drewN n) v zs (h.drewN n))
  have hl := h.len
  obtain ⟨a, cap, rfl, _, _⟩ := h.shape
  clear h
  go_enter Tryz.func40, Tryz.ntmps40
  go_wp2_with fail
  go_loopw [5, 6, 7] (fun wv ov iv wr => ∃ (k y o : Nat), k ≤ zs.length ∧ iv = .int .i64 k ∧ wv = .int .i64 y ∧ ov = .int .i64 o ∧ Hid (y = wd17 (zs.take k)) ∧ Hid (o = on17 (zs.take k)) ∧ y ≤ k ∧ o ≤ k ∧ Hid (∀ j (hj : j < zs.length), j < k → 0 ≤ zs[j] ∧ zs[j] ≤ 15) ∧ ∃ n, wr = w.drewN n) (fun _ _ i _ => zs.length - (intOf i).toNat)
  case atStart => exact ⟨0, 0, 0, by omega, rfl, rfl, rfl, by simp [Hid, wd17], by simp [Hid, on17], by omega, by omega, fun j _ hj => by omega, 0, rfl⟩
  case round =>
    obtain ⟨k, y, o, hk, rfl, rfl, rfl, HY, HO, hy, ho, HB, n, rfl⟩ := hrel
    by_cases hlt : k < zs.length
    · obtain ⟨b, off, cap', hv, e1⟩ := HI.out k hlt
      simp only [Value.slice.injEq] at hv
      obtain ⟨rfl, _, rfl⟩ := hv
      by_cases hbad : zs[k] < 0 ∨ 15 < zs[k]
      · have hc := whole17_bad zs none k hlt hbad
        rw [HR.out] at hc
        have HCC := Lib.hid hc
        clear hc
        generalize zs[k] = z at e1 hbad
        by_cases hneg : z < 0
        · have t1 : decide (z < 0) = true := by simpa using hneg
          clear hbad hneg
          go_wp2_with fail
          go_ret
          exact ⟨by rw [HCC.out]; rfl, _, rfl⟩
        · have t1 : decide (z < 0) = false := by simpa using hneg
          have t2 : decide (15 < z) = true := by simp; omega
          clear hbad hneg
          go_wp2_with fail
          go_ret
          exact ⟨by rw [HCC.out]; rfl, _, rfl⟩
      · have HB2 : Hid (∀ j (hj : j < zs.length), j < k + 1 → 0 ≤ zs[j] ∧ zs[j] ≤ 15) := by
          intro j hj hjk
          by_cases e : j = k
          · subst e; omega
          · exact HB.out j hj (by omega)
        have HW := Lib.hid (wd17_take zs k hlt)
        have HO2 := Lib.hid (on17_take zs k hlt)
        obtain ⟨z, hz⟩ : ∃ z : Nat, zs[k] = z := ⟨zs[k].toNat, by omega⟩
        have hz2 : z ≤ 15 := by omega
        rw [hz] at e1 HW HO2
        have hs1 : IntKind.i64.wrap ((k : Int) + 1) = ((k + 1 : Nat) : Int) := by rw [IntKind.wrap_i64]; omega
        have hs2 : IntKind.i64.wrap ((y : Int) + 1) = ((y + 1 : Nat) : Int) := by rw [IntKind.wrap_i64]; omega
        have hs3 : IntKind.i64.wrap ((o : Int) + 1) = ((o + 1 : Nat) : Int) := by rw [IntKind.wrap_i64]; omega
        have t1 : decide ((z : Int) < 0) = false := by simp
        have t2 : decide (15 < (z : Int)) = false := by simp; omega
        have t2' : decide (15 < z) = false := by simp; omega
        have HK : Hid (k < zs.length) := hlt
        clear hbad hz
        by_cases hz0 : z = 0
        · have t3 : decide (0 < (z : Int)) = false := by simp; omega
          have t3' : decide (0 < z) = false := by simp; omega
          have t4 : ((z : Int) == 1) = false := by simp; omega
          have t4' : (z == 1) = false := by simp; omega
          have HY2 : Hid (y = wd17 (zs.take (k + 1))) := by unfold Hid; rw [HW.out, if_neg (by omega), HY.out]; rfl
          have HO3 : Hid (o = on17 (zs.take (k + 1))) := by unfold Hid; rw [HO2.out, if_neg (by omega), HO.out]; rfl
          clear hz0 hlt
          go_wp2_with fail
          go_roundw
          case rel => have := HK.out; exact ⟨k + 1, y, o, by omega, rfl, rfl, rfl, HY2, HO3, by omega, by omega, HB2, _, rfl⟩
          case measure => have := HK.out; simp [intOf]; omega
        · have t3 : decide (0 < (z : Int)) = true := by simp; omega
          have t3' : decide (0 < z) = true := by simp; omega
          have HY2 : Hid (y + 1 = wd17 (zs.take (k + 1))) := by unfold Hid; rw [HW.out, if_pos (by omega), HY.out]
          by_cases hz1 : z = 1
          · have t4 : ((z : Int) == 1) = true := by simp; omega
            have t4' : (z == 1) = true := by simp; omega
            have HO3 : Hid (o + 1 = on17 (zs.take (k + 1))) := by unfold Hid; rw [HO2.out, if_pos (by omega), HO.out]
            clear hz0 hz1 hlt
            go_wp2_with fail
            go_roundw
            case rel => have := HK.out; exact ⟨k + 1, y + 1, o + 1, by omega, rfl, rfl, rfl, HY2, HO3, by omega, by omega, HB2, _, rfl⟩
            case measure => have := HK.out; simp [intOf]; omega
          · have t4 : ((z : Int) == 1) = false := by simp; omega
            have t4' : (z == 1) = false := by simp; omega
            have HO3 : Hid (o = on17 (zs.take (k + 1))) := by unfold Hid; rw [HO2.out, if_neg (by omega), HO.out]; rfl
            clear hz0 hz1 hlt
            go_wp2_with fail
            go_roundw
            case rel => have := HK.out; exact ⟨k + 1, y + 1, o, by omega, rfl, rfl, rfl, HY2, HO3, by omega, by omega, HB2, _, rfl⟩
            case measure => have := HK.out; simp [intOf]; omega
    · have hfull : zs.take k = zs := List.take_of_length_le (by omega)
      have hv := whole17_ok zs none (fun i hi => HB.out i hi (by omega))
      rw [HR.out] at hv
      rw [hfull] at HY HO
      rw [← HY.out, ← HO.out] at hv
      have t0 : decide (k < zs.length) = false := by simpa using hlt
      have HV := Lib.hid hv
      clear hv hfull hlt HY HO
      by_cases hy0 : y = 0
      · subst hy0
        have HV4 : Hid (R = none) := by unfold Hid; rw [HV.out, if_pos rfl]
        clear HV
        go_wp2_with fail
        go_ret
        exact ⟨by rw [HV4.out]; rfl, _, rfl⟩
      · have t1 : ((y : Int) == 0) = false := by simp; omega
        have t1' : (y == 0) = false := by simp; omega
        have HV2 : Hid (R = ((decide (y = 1) && decide (o = 1)) || decide (chk zs = 1))) := by unfold Hid; rw [HV.out, if_neg hy0]
        clear HV hy0
        obtain ⟨c, hc⟩ : ∃ c, chk zs = c := ⟨_, rfl⟩
        rw [hc] at HV2 HC
        clear hc
        by_cases hy1 : y = 1
        · have t2 : ((y : Int) == 1) = true := by simp; omega
          have t2' : (y == 1) = true := by simp; omega
          by_cases ho1 : o = 1
          · have t3 : ((o : Int) == 1) = true := by simp; omega
            have t3' : (o == 1) = true := by simp; omega
            have hv3 : R = true := by rw [HV2.out]; simp [hy1, ho1]
            have HV3 := Lib.hid hv3
            clear hv3 hy1 ho1
            go_wp2_with fail
            go_ret
            exact ⟨by rw [HV3.out]; rfl, _, rfl⟩
          · have t3 : ((o : Int) == 1) = false := by simp; omega
            have t3' : (o == 1) = false := by simp; omega
            have hv3 : R = ((c : Int) == 1) := by rw [HV2.out]; simp [ho1]; rw [Bool.eq_iff_iff]; simp; omega
            have HV3 := Lib.hid hv3
            clear hv3 hy1 ho1
            go_wp2_with fail
            refine (HC.out _).mono ?_; rintro e w1 ⟨rfl, n1, rfl⟩
            go_wp2_with fail
            go_ret
            exact ⟨by rw [HV3.out]; rfl, _, rfl⟩
        · have t2 : ((y : Int) == 1) = false := by simp; omega
          have t2' : (y == 1) = false := by simp; omega
          have hv3 : R = ((c : Int) == 1) := by rw [HV2.out]; simp [hy1]; rw [Bool.eq_iff_iff]; simp; omega
          have HV3 := Lib.hid hv3
          clear hv3 hy1
          go_wp2_with fail
          refine (HC.out _).mono ?_; rintro e w1 ⟨rfl, n1, rfl⟩
          go_wp2_with fail
          go_ret
          exact ⟨by rw [HV3.out]; rfl, _, rfl⟩
set_option maxHeartbeats 1000000 in
theorem rright17_c (w : World) (v1 v2 : Value) (l d : List Int) (large : Bool) (h1 : Is .i64 w v1 l) (h2 : Is .i64 w v2 d) : Calls Tryz.prog 15 #[v1, v2, .bool large] w fun e w' => e = .returned (.bool (right17 l d large)) ∧ ∃ n, w' = w.drewN n := by
  obtain ⟨R, hR⟩ : ∃ R, right17 l d large = R := ⟨_, rfl⟩
  rw [hR]
  have hdef : R = (decide (257 ≤ l.length ∧ l.length ≤ 286 ∧ 1 ≤ d.length ∧ d.length ≤ (if large then 32 else 30)) && (decide (0 < l.getD 256 0) && (whole17 l false && whole17 d true))) := by rw [← hR]; rfl
  clear hR
  have HI := Lib.hid (fun i hi => h1.at i hi)
  have H1 := Lib.hid (fun (hn : l.length ≤ 400) => rwhole17_c w v1 l false h1 hn)
  have H2 := Lib.hid (fun n (hn : d.length ≤ 400) => rwhole17_c (w.drewN n) v2 d true (h2.drewN n) hn)
  have hl1 := h1.len
  have hl2 := h2.len
  obtain ⟨a1, cap1, rfl, _, _⟩ := h1.shape
  obtain ⟨a2, cap2, rfl, _, _⟩ := h2.shape
  obtain ⟨B1, hB1⟩ : ∃ B, whole17 l false = B := ⟨_, rfl⟩
  obtain ⟨B2, hB2⟩ : ∃ B, whole17 d true = B := ⟨_, rfl⟩
  rw [hB1] at H1 hdef
  rw [hB2] at H2 hdef
  clear h1 h2 hB1 hB2
  cases large
  · have HD : Hid (R = (decide (257 ≤ l.length ∧ l.length ≤ 286 ∧ 1 ≤ d.length ∧ d.length ≤ 30) && (decide (0 < l.getD 256 0) && (B1 && B2)))) := hdef
    clear hdef
    by_cases hb : 257 ≤ l.length ∧ l.length ≤ 286 ∧ 1 ≤ d.length ∧ d.length ≤ 30
    · obtain ⟨b1, b2, b3, b4⟩ := hb
      have t1 : decide (l.length < 257) = false := decide_eq_false (by omega)
      have t1' : decide ((l.length : Int) < 257) = false := decide_eq_false (by omega)
      have t2 : decide (286 < l.length) = false := decide_eq_false (by omega)
      have t2' : decide (286 < (l.length : Int)) = false := decide_eq_false (by omega)
      have t3 : decide (d.length < 1) = false := decide_eq_false (by omega)
      have t3' : decide ((d.length : Int) < 1) = false := decide_eq_false (by omega)
      have t4 : decide (30 < d.length) = false := decide_eq_false (by omega)
      have t4' : decide (30 < (d.length : Int)) = false := decide_eq_false (by omega)
      have hx : 256 < l.length := by omega
      obtain ⟨b, off, cap', hv, e1⟩ := HI.out 256 hx
      simp only [Value.slice.injEq] at hv
      obtain ⟨rfl, _, rfl⟩ := hv
      have hg : l.getD 256 0 = l[256] := by rw [List.getD_eq_getElem?_getD, List.getElem?_eq_getElem hx]; rfl
      obtain ⟨z, hz⟩ : ∃ z, l[256] = z := ⟨_, rfl⟩
      rw [hz] at e1 hg
      have HD2 : Hid (R = (decide (0 < z) && (B1 && B2))) := by unfold Hid; rw [HD.out, hg, decide_eq_true ⟨b1, b2, b3, b4⟩, Bool.true_and]
      have H1' := Lib.hid (H1.out (by omega))
      have H2' := Lib.hid (fun n => H2.out n (by omega))
      clear HD hz hg H1 H2 HI
      by_cases hp : 0 < z
      · have t5 : decide (0 < z) = true := by simpa using hp
        cases B1 with
        | false =>
          have hR : R = false := by rw [HD2.out]; simp
          have HR := Lib.hid hR
          clear hR hp HD2
          go_enter Tryz.func15, Tryz.ntmps15
          go_wp2_with fail
          refine H1'.out.mono ?_; rintro e w1 ⟨rfl, n1, rfl⟩
          go_wp2_with fail
          go_ret
          exact ⟨by rw [HR.out]; rfl, _, rfl⟩
        | true =>
          have hR : R = B2 := by rw [HD2.out]; simp [hp]
          have HR := Lib.hid hR
          clear hR hp HD2
          go_enter Tryz.func15, Tryz.ntmps15
          go_wp2_with fail
          refine H1'.out.mono ?_; rintro e w1 ⟨rfl, n1, rfl⟩
          go_wp2_with fail
          refine (H2'.out _).mono ?_; rintro e w1 ⟨rfl, n2, rfl⟩
          go_wp2_with fail
          go_ret
          exact ⟨by rw [HR.out]; rfl, _, rfl⟩
      · have t5 : decide (0 < z) = false := by simpa using hp
        have hR : R = false := by rw [HD2.out, t5]; rfl
        have HR := Lib.hid hR
        clear hR hp HD2
        go_enter Tryz.func15, Tryz.ntmps15
        go_wp2_with fail
        go_ret
        exact ⟨by rw [HR.out]; rfl, 0, rfl⟩
    · have hR : R = false := by rw [HD.out, decide_eq_false hb, Bool.false_and]
      have HR := Lib.hid hR
      clear HD hR H1 H2 HI
      by_cases c1 : l.length < 257
      · have t1 : decide (l.length < 257) = true := decide_eq_true c1
        have t1' : decide ((l.length : Int) < 257) = true := decide_eq_true (by omega)
        clear hb c1
        go_enter Tryz.func15, Tryz.ntmps15
        go_wp2_with fail
        go_ret
        exact ⟨by rw [HR.out]; rfl, 0, rfl⟩
      · have t1 : decide (l.length < 257) = false := decide_eq_false c1
        have t1' : decide ((l.length : Int) < 257) = false := decide_eq_false (by omega)
        by_cases c2 : 286 < l.length
        · have t2 : decide (286 < l.length) = true := decide_eq_true c2
          have t2' : decide (286 < (l.length : Int)) = true := decide_eq_true (by omega)
          clear hb c1 c2
          go_enter Tryz.func15, Tryz.ntmps15
          go_wp2_with fail
          go_ret
          exact ⟨by rw [HR.out]; rfl, 0, rfl⟩
        · have t2 : decide (286 < l.length) = false := decide_eq_false c2
          have t2' : decide (286 < (l.length : Int)) = false := decide_eq_false (by omega)
          by_cases c3 : d.length < 1
          · have t3 : decide (d.length < 1) = true := decide_eq_true c3
            have t3' : decide ((d.length : Int) < 1) = true := decide_eq_true (by omega)
            clear hb c1 c2 c3
            go_enter Tryz.func15, Tryz.ntmps15
            go_wp2_with fail
            go_ret
            exact ⟨by rw [HR.out]; rfl, 0, rfl⟩
          · have t3 : decide (d.length < 1) = false := decide_eq_false c3
            have t3' : decide ((d.length : Int) < 1) = false := decide_eq_false (by omega)
            have t4 : decide (30 < d.length) = true := decide_eq_true (by omega)
            have t4' : decide (30 < (d.length : Int)) = true := decide_eq_true (by omega)
            clear hb c1 c2 c3
            go_enter Tryz.func15, Tryz.ntmps15
            go_wp2_with fail
            go_ret
            exact ⟨by rw [HR.out]; rfl, 0, rfl⟩
  · have HD : Hid (R = (decide (257 ≤ l.length ∧ l.length ≤ 286 ∧ 1 ≤ d.length ∧ d.length ≤ 32) && (decide (0 < l.getD 256 0) && (B1 && B2)))) := hdef
    clear hdef
    by_cases hb : 257 ≤ l.length ∧ l.length ≤ 286 ∧ 1 ≤ d.length ∧ d.length ≤ 32
    · obtain ⟨b1, b2, b3, b4⟩ := hb
      have t1 : decide (l.length < 257) = false := decide_eq_false (by omega)
      have t1' : decide ((l.length : Int) < 257) = false := decide_eq_false (by omega)
      have t2 : decide (286 < l.length) = false := decide_eq_false (by omega)
      have t2' : decide (286 < (l.length : Int)) = false := decide_eq_false (by omega)
      have t3 : decide (d.length < 1) = false := decide_eq_false (by omega)
      have t3' : decide ((d.length : Int) < 1) = false := decide_eq_false (by omega)
      have t4 : decide (32 < d.length) = false := decide_eq_false (by omega)
      have t4' : decide (32 < (d.length : Int)) = false := decide_eq_false (by omega)
      have hx : 256 < l.length := by omega
      obtain ⟨b, off, cap', hv, e1⟩ := HI.out 256 hx
      simp only [Value.slice.injEq] at hv
      obtain ⟨rfl, _, rfl⟩ := hv
      have hg : l.getD 256 0 = l[256] := by rw [List.getD_eq_getElem?_getD, List.getElem?_eq_getElem hx]; rfl
      obtain ⟨z, hz⟩ : ∃ z, l[256] = z := ⟨_, rfl⟩
      rw [hz] at e1 hg
      have HD2 : Hid (R = (decide (0 < z) && (B1 && B2))) := by unfold Hid; rw [HD.out, hg, decide_eq_true ⟨b1, b2, b3, b4⟩, Bool.true_and]
      have H1' := Lib.hid (H1.out (by omega))
      have H2' := Lib.hid (fun n => H2.out n (by omega))
      clear HD hz hg H1 H2 HI
      by_cases hp : 0 < z
      · have t5 : decide (0 < z) = true := by simpa using hp
        cases B1 with
        | false =>
          have hR : R = false := by rw [HD2.out]; simp
          have HR := Lib.hid hR
          clear hR hp HD2
          go_enter Tryz.func15, Tryz.ntmps15
          go_wp2_with fail
          refine H1'.out.mono ?_; rintro e w1 ⟨rfl, n1, rfl⟩
          go_wp2_with fail
          go_ret
          exact ⟨by rw [HR.out]; rfl, _, rfl⟩
        | true =>
          have hR : R = B2 := by rw [HD2.out]; simp [hp]
          have HR := Lib.hid hR
          clear hR hp HD2
          go_enter Tryz.func15, Tryz.ntmps15
          go_wp2_with fail
          refine H1'.out.mono ?_; rintro e w1 ⟨rfl, n1, rfl⟩
          go_wp2_with fail
          refine (H2'.out _).mono ?_; rintro e w1 ⟨rfl, n2, rfl⟩
          go_wp2_with fail
          go_ret
          exact ⟨by rw [HR.out]; rfl, _, rfl⟩
      · have t5 : decide (0 < z) = false := by simpa using hp
        have hR : R = false := by rw [HD2.out, t5]; rfl
        have HR := Lib.hid hR
        clear hR hp HD2
        go_enter Tryz.func15, Tryz.ntmps15
        go_wp2_with fail
        go_ret
        exact ⟨by rw [HR.out]; rfl, 0, rfl⟩
    · have hR : R = false := by rw [HD.out, decide_eq_false hb, Bool.false_and]
      have HR := Lib.hid hR
      clear HD hR H1 H2 HI
      by_cases c1 : l.length < 257
      · have t1 : decide (l.length < 257) = true := decide_eq_true c1
        have t1' : decide ((l.length : Int) < 257) = true := decide_eq_true (by omega)
        clear hb c1
        go_enter Tryz.func15, Tryz.ntmps15
        go_wp2_with fail
        go_ret
        exact ⟨by rw [HR.out]; rfl, 0, rfl⟩
      · have t1 : decide (l.length < 257) = false := decide_eq_false c1
        have t1' : decide ((l.length : Int) < 257) = false := decide_eq_false (by omega)
        by_cases c2 : 286 < l.length
        · have t2 : decide (286 < l.length) = true := decide_eq_true c2
          have t2' : decide (286 < (l.length : Int)) = true := decide_eq_true (by omega)
          clear hb c1 c2
          go_enter Tryz.func15, Tryz.ntmps15
          go_wp2_with fail
          go_ret
          exact ⟨by rw [HR.out]; rfl, 0, rfl⟩
        · have t2 : decide (286 < l.length) = false := decide_eq_false c2
          have t2' : decide (286 < (l.length : Int)) = false := decide_eq_false (by omega)
          by_cases c3 : d.length < 1
          · have t3 : decide (d.length < 1) = true := decide_eq_true c3
            have t3' : decide ((d.length : Int) < 1) = true := decide_eq_true (by omega)
            clear hb c1 c2 c3
            go_enter Tryz.func15, Tryz.ntmps15
            go_wp2_with fail
            go_ret
            exact ⟨by rw [HR.out]; rfl, 0, rfl⟩
          · have t3 : decide (d.length < 1) = false := decide_eq_false c3
            have t3' : decide ((d.length : Int) < 1) = false := decide_eq_false (by omega)
            have t4 : decide (32 < d.length) = true := decide_eq_true (by omega)
            have t4' : decide (32 < (d.length : Int)) = true := decide_eq_true (by omega)
            clear hb c1 c2 c3
            go_enter Tryz.func15, Tryz.ntmps15
            go_wp2_with fail
            go_ret
            exact ⟨by rw [HR.out]; rfl, 0, rfl⟩
end Go.Proofs.YtokfcgloogdeiaaGreatDoor
namespace Go.Proofs.YtokfcgloogdeiaaGreatDoor
set_option linter.unusedVariables false
set_option linter.unusedSimpArgs false
set_option maxRecDepth 100000
open Go.ChangeShapes Go.WideShapes Go.ChangeAt Go.RowKit

theorem Is.pre {w : World} {a : Option Addr} {l : List Int} {cap : Nat} (h : Is .i64 w (.slice a l.length cap) l) (n : Nat) (hn : n ≤ l.length) : Is .i64 w (.slice a n cap) (l.take n) := by
  obtain ⟨a', cap', hv, h1, h2, h3, h4, h5⟩ := h
  simp only [Value.slice.injEq] at hv
  obtain ⟨rfl, _, rfl⟩ := hv
  have e : (l.take n).length = n := by rw [List.length_take]; omega
  refine ⟨a, cap, by rw [e], by omega, h2, h3, fun x hx i hi => ?_, fun z hz => h5 z (List.mem_of_mem_take hz)⟩
  rw [e] at hi
  rw [h4 x hx i (by omega)]; simp
theorem Is.lit17 (w : World) (l : List Int) (cs : Array Value) (n : Nat) (hc : cs.toList = ints64 l) (hn : l.length = n) (hl : n ≤ maxLen) (hz : ∀ z ∈ l, (Lit.int .i64 z).wf = true) : Is .i64 (w.alloc (.cells cs 3)) (.slice (some ⟨w.heap.size, 0, none⟩) n n) l := by
  subst hn
  refine ⟨some ⟨w.heap.size, 0, none⟩, l.length, rfl, Nat.le_refl _, hl, (fun h => nomatch h), fun x hx i hi => ?_, hz⟩
  obtain rfl : (⟨w.heap.size, 0, none⟩ : Addr) = x := by simpa using hx
  rw [show (⟨w.heap.size, 0, none⟩ : Addr).add i = ⟨w.heap.size, i, none⟩ by unfold Addr.add; split <;> simp_all]
  refine (Blk.new w cs 3).cell i _ ?_
  rw [← Array.getElem?_toList, hc]
  simp [ints64, hi]
def ordI : List Int := [16, 17, 18, 0, 8, 7, 9, 6, 10, 5, 11, 4, 12, 3, 13, 2, 14, 1, 15]
theorem ordI_at : ∀ i : Fin 19, ordI.getD i.val 0 = (ordD.getD i.val 0 : Int) ∧ ordD.getD i.val 0 < 19 := by decide
theorem rorder17_c (w : World) : Calls Tryz.prog 53 #[] w fun e w' => ∃ q, e = .returned (.slice (some ⟨q, 0, none⟩) 19 19) ∧ Is .i64 w' (.slice (some ⟨q, 0, none⟩) 19 19) ordI ∧ w.heap.size ≤ q ∧ Keep [] w w' := by
  have hb := Is.lit17 w ordI #[.int .i64 16, .int .i64 17, .int .i64 18, .int .i64 0, .int .i64 8, .int .i64 7, .int .i64 9, .int .i64 6, .int .i64 10, .int .i64 5, .int .i64 11, .int .i64 4, .int .i64 12, .int .i64 3, .int .i64 13, .int .i64 2, .int .i64 14, .int .i64 1, .int .i64 15] 19 rfl rfl (by decide) (by decide)
  have hk := (Keep.refl [] w).alloc (.cells #[.int .i64 16, .int .i64 17, .int .i64 18, .int .i64 0, .int .i64 8, .int .i64 7, .int .i64 9, .int .i64 6, .int .i64 10, .int .i64 5, .int .i64 11, .int .i64 4, .int .i64 12, .int .i64 3, .int .i64 13, .int .i64 2, .int .i64 14, .int .i64 1, .int .i64 15] 3)
  have HB := Lib.hid hb
  have HK := Lib.hid hk
  clear hb hk
  go_enter Tryz.func53, Tryz.ntmps53
  go_wp2_with fail
  go_ret
  exact ⟨_, rfl, HB.out, Nat.le_refl _, HK.out⟩
end Go.Proofs.YtokfcgloogdeiaaGreatDoor
namespace Go.Proofs.YtokfcgloogdeiaaGreatDoor
set_option linter.unusedVariables false
set_option linter.unusedSimpArgs false
set_option maxRecDepth 100000
open Go.ChangeShapes Go.WideShapes Go.ChangeAt Go.RowKit

theorem Is.one17 (w : World) (x : Int) (hx : (Lit.int .i64 x).wf = true) : Is .i64 (w.alloc (.cells #[.int .i64 x] 3)) (.slice (some ⟨w.heap.size, 0, none⟩) 1 1) [x] := by
  refine ⟨some ⟨w.heap.size, 0, none⟩, 1, rfl, by simp, by simp [maxLen], (fun h => nomatch h), fun y hy i hi => ?_, by simpa using hx⟩
  obtain rfl : (⟨w.heap.size, 0, none⟩ : Addr) = y := by simpa using hy
  obtain rfl : i = 0 := by simpa using hi
  exact (Blk.new w #[.int .i64 x] 3).cell 0 _ rfl
theorem bits_lt17 (s : RS) : (s.bits 2).1 < 4 ∧ (s.bits 3).1 < 8 ∧ (s.bits 7).1 < 128 := by
  refine ⟨?_, ?_, ?_⟩
  all_goals
    unfold RS.bits
    split
    · simp
    · split
      · simp
      · split
        · simp
        · first | exact num_lt s.l s.pos 2 | exact num_lt s.l s.pos 3 | exact num_lt s.l s.pos 7
theorem bits_l17 (r : RS) (n : Int) : (r.bits n).2.l = r.l := by
  unfold RS.bits RS.fail
  repeat' split
  all_goals rfl
theorem next_l17 (r : RS) (L : List Nat) : (r.next L).2.2.l = r.l := by
  unfold RS.next
  repeat' split
  all_goals rfl
theorem next_in (L : List Nat) (hL : ∀ x ∈ L, x ≤ 16) (s : RS) (h : (s.next L).2.1 = 0) : ∃ i, i < L.length ∧ (s.next L).1 = ((i : Nat) : Int) := by
  by_cases hE : s.E = 0
  · cases hp : pick L (tr 16 (num s.l s.pos 16) 0) (min 16 s.left) with
    | some i =>
      have := ((pick_some L _ _ i hL).1 hp).1.1
      exact ⟨i, this, by rw [RS.next_hit L s hE i hp]⟩
    | none =>
      rw [RS.next_none L s hE hp] at h
      dsimp only at h
      split at h <;> omega
  · rw [RS.next_err L s hE] at h
    exact absurd h hE
/-- a reader and a row of one's own, since W -/
structure UnY (w : World) (q : Nat) (v : Value) (s : RS) (l : Value) (L : List Int) (wr : World) : Prop where
  rd : Rr wr q v s
  own : OwnI wr l L
  keep : Keep [q] w wr
  bb : ∀ x, l.ownBlock = some x → w.heap.size ≤ x
section
variable {LL : List Nat} {N F : Nat} {M : List Int} {sk s2 s3 : RS} {y : Int} {og er : Nat}
theorem ls17_end (h : N ≤ M.length) : ls17 LL N (F + 1) M sk = (M, 0, sk) := by rw [ls17, if_pos h]
theorem ls17_err (h : M.length < N) (hn : sk.next LL = (y, er, s2)) (he : er ≠ 0) : ls17 LL N (F + 1) M sk = ([], er, s2) := by
  rw [ls17, if_neg (by omega), hn]; exact if_pos he
theorem ls17_err2 (h : M.length < N) (hn : sk.next LL = (y, 0, s2)) (ho : often17 y s2 = (og, s3)) (he : s3.E ≠ 0) : ls17 LL N (F + 1) M sk = ([], s3.E, s3) := by
  rw [ls17, if_neg (by omega), hn, if_neg (by simp), ho]; exact if_pos he
theorem ls17_code (h : M.length < N) (hn : sk.next LL = (y, 0, s2)) (ho : often17 y s2 = (og, s3)) (he : s3.E = 0) (h1 : y = 16 ∧ M = []) : ls17 LL N (F + 1) M sk = ([], 7, s3) := by
  rw [ls17, if_neg (by omega), hn, if_neg (by simp), ho]; dsimp only; rw [if_neg (by rw [he]; simp), if_pos h1]
theorem ls17_form (h : M.length < N) (hn : sk.next LL = (y, 0, s2)) (ho : often17 y s2 = (og, s3)) (he : s3.E = 0) (h1 : ¬ (y = 16 ∧ M = [])) (h2 : N - M.length < og) : ls17 LL N (F + 1) M sk = ([], 4, s3) := by
  rw [ls17, if_neg (by omega), hn, if_neg (by simp), ho]; dsimp only; rw [if_neg (by rw [he]; simp), if_neg h1, if_pos h2]
theorem ls17_go (h : M.length < N) (hn : sk.next LL = (y, 0, s2)) (ho : often17 y s2 = (og, s3)) (he : s3.E = 0) (h1 : ¬ (y = 16 ∧ M = [])) (h2 : ¬ N - M.length < og) : ls17 LL N (F + 1) M sk = ls17 LL N F (M ++ List.replicate og (what17 M y)) s3 := by
  rw [ls17, if_neg (by omega), hn, if_neg (by simp), ho]; dsimp only; rw [if_neg (by rw [he]; simp), if_neg h1, if_neg h2]
end
theorem what17_z17 (M : List Int) : what17 M ((17 : Nat) : Int) = 0 := by unfold what17; rw [if_neg (by decide), if_pos (.inl rfl)]
theorem what17_z16 (M : List Int) : what17 M ((16 : Nat) : Int) = M.getLastD 0 := by unfold what17; rw [if_pos (by decide)]
theorem what17_zi (M : List Int) (i : Nat) (h1 : i ≠ 16) (h2 : i ≠ 17) (h3 : i ≠ 18) : what17 M (i : Int) = i := by unfold what17; rw [if_neg (by omega), if_neg (by omega)]
theorem what17_z18 (M : List Int) : what17 M ((18 : Nat) : Int) = 0 := by unfold what17; rw [if_neg (by decide), if_pos (.inr rfl)]
set_option maxHeartbeats 8000000 in
theorem rlists17_c (w : World) (q : Nat) (v cv : Value) (s : RS) (LL : List Nat) (N : Nat) (hL : ∀ x ∈ LL, x ≤ 16) (hwt : wt LL ≤ 65536) (hLL : LL.length ≤ 100) (hN : N ≤ 400) (hc : Cds w cv LL) (hcq : ∀ b, cv.ownBlock = some b → b ≠ q) (hr : Rr w q v s) : Calls Tryz.prog 71 #[.pointer (some ⟨q, 0, none⟩), cv, .int .i64 N] w fun e w' => ∃ v', e = .returned (.tuple #[v', .int .i64 (ls17 LL N (N + 1) [] s).2.1]) ∧ OwnI w' v' (ls17 LL N (N + 1) [] s).1 ∧ Rr w' q v (ls17 LL N (N + 1) [] s).2.2 ∧ Keep [q] w w' ∧ ∀ b, v'.ownBlock = some b → w.heap.size ≤ b := by
  obtain ⟨R, hR⟩ : ∃ R, ls17 LL N (N + 1) [] s = R := ⟨_, rfl⟩
  rw [hR]
  have HR := Lib.hid hR
  have hql := hr.1.lt
  have hvl := Lib.hid (fun hl => hr.2.1.lt hl)
  have HVL : Hid (s.l ≠ [] → ∀ b, v.ownBlock = some b → b < w.heap.size) := by intro hl; exact hvl.out hl
  have HNX := Lib.hid (fun W sk (hR : Rr W q v sk) (hk : Keep [q] w W) => refnext_c W q v cv sk LL hL hwt (hc.keep hk (fun b hb hm => hcq b hb (by simpa using hm))) hR)
  have HIN := Lib.hid (fun sk => next_in LL hL sk)
  have hS0 : Hid (UnY w q v s (.slice none 0 0) [] w) := ⟨hr, OwnI.nil w, Keep.refl _ w, by simp [Value.ownBlock]⟩
  clear hr hvl hR hc hcq hL hwt
  go_enter Tryz.func71, Tryz.ntmps71
  go_wp2_with fail
  go_loopw [8] (fun al wr => ∃ (M : List Int) (sk : RS) (F : Nat) (a : Option Addr) (c : Nat), al = .slice a M.length c ∧ Hid (UnY w q v sk (.slice a M.length c) M wr) ∧ Hid (ls17 LL N F M sk = R) ∧ N + 1 ≤ F + M.length ∧ M.length ≤ N ∧ Hid (sk.l = s.l)) (fun al _ => match al with | .slice _ n _ => N - n | _ => 0)
  case atStart => exact ⟨[], s, N + 1, none, 0, rfl, hS0, HR, by simp, by simp, rfl⟩
  case round =>
    clear hS0
    obtain ⟨M, sk, F1, a, c, rfl, HS, HRk, hF, hM, hl⟩ := hrel
    obtain ⟨m, hm⟩ : ∃ m, M.length = m := ⟨_, rfl⟩
    by_cases hlt : m < N
    · obtain ⟨F, rfl⟩ : ∃ F, F1 = F + 1 := ⟨F1 - 1, by omega⟩
      have t0 : decide (m < N) = true := by simpa using hlt
      obtain ⟨⟨y, er, s2⟩, hnx⟩ : ∃ x, sk.next LL = x := ⟨_, rfl⟩
      have hcall := HNX.out wr sk HS.out.rd HS.out.keep
      have hi := HIN.out sk
      have hl2 : Hid (s2.l = s.l) := by unfold Hid; have := next_l17 sk LL; rw [hnx] at this; rw [← hl.out]; exact this
      rw [hnx] at hcall hi
      have HCALL := Lib.hid hcall
      have HNK := Lib.hid hnx
      have HM := Lib.hid hm
      have HLT : Hid (m < N) := hlt
      clear hcall hnx
      rw [hm] at HS ⊢ hF hM
      clear hm
      go_wp2_with fail
      refine HCALL.out.mono ?_; rintro e w2 ⟨rfl, hr2, hk2⟩
      have K2 : Keep [q] w w2 := HS.out.keep.trans hk2 (fun b hb => .inl hb)
      have hO2 := HS.out.own.keep hk2 (fun b hb hm => by have := HS.out.bb b hb; simp at hm; omega)
      have HS2 : Hid (UnY w q v s2 (.slice a m c) M w2) := ⟨hr2, hO2, K2, HS.out.bb⟩
      clear hr2 hk2 HS K2 hO2 HCALL
      by_cases he : er = 0
      · subst he
        obtain ⟨i, hi1, hi2⟩ := hi rfl
        subst hi2
        by_cases h17 : i = 17
        · subst h17
          have hb := (bits_lt17 s2).2.1
          have hof : often17 ((17 : Nat) : Int) s2 = (3 + (s2.bits 3).1, (s2.bits 3).2) := by unfold often17; rw [if_neg (by decide), if_pos (by decide)]
          have hl3 := bits_l17 s2 3
          have hcall := rbits_c w2 q v s2 3 HS2.out.rd
          obtain ⟨bn, hbn⟩ : ∃ bn, (s2.bits 3).1 = bn := ⟨_, rfl⟩
          obtain ⟨s3, hs3⟩ : ∃ s3, (s2.bits 3).2 = s3 := ⟨_, rfl⟩
          rw [hbn] at hb hof hcall
          rw [hs3] at hof hl3 hcall
          obtain ⟨og, hog⟩ : ∃ og, 3 + bn = og := ⟨_, rfl⟩
          rw [hog] at hof
          have hw1 : IntKind.i64.wrap (bn : Int) = (bn : Int) := by rw [IntKind.wrap_i64]; omega
          have hw2 : IntKind.i64.wrap (3 + (bn : Int)) = (og : Int) := by rw [IntKind.wrap_i64]; omega
          have hog2 : og ≤ 138 := by omega
          have HO1 : Hid (1 ≤ og) := by unfold Hid; omega
          have HOF := Lib.hid hof
          have HC3 := Lib.hid hcall
          have hl3' : Hid (s3.l = s.l) := by unfold Hid; rw [hl3]; exact hl2.out
          clear hb hof hcall hbn hs3 hog hl3 hi1
          go_wp2_with fail
          refine HC3.out.mono ?_; rintro e w3 ⟨rfl, hr3, hk3⟩
          have K3 : Keep [q] w w3 := HS2.out.keep.trans hk3 (fun b hb => .inl hb)
          have hO3 := HS2.out.own.keep hk3 (fun b hb hm => by have := HS2.out.bb b hb; simp at hm; omega)
          have HS3 : Hid (UnY w q v s3 (.slice a m c) M w3) := ⟨hr3, hO3, K3, HS2.out.bb⟩
          clear hr3 hk3 HS2 K3 hO3 HC3

          have hr3c := HS3.out.rd
          have c2 := hr3c.1.cell 2 _ rfl
          have hEr := hr3c.E
          clear hr3c
          by_cases hE : s3.E = 0
          · have herr : ((s3.err : Int) != 0) = false := by simp; omega
            have HE : Hid (s3.E = 0) := hE
            clear hE hEr
            have HC1 : Hid (¬ (((17 : Nat) : Int) = 16 ∧ M = [])) := by
              intro h
              have := h.1
              omega
            by_cases hf : N - m < og
            · have hRR := ls17_form (F := F) (by rw [HM.out]; exact HLT.out) HNK.out HOF.out HE.out HC1.out (by rw [HM.out]; exact hf)
              rw [HRk.out] at hRR
              have t8 : decide ((N : Int) - (m : Int) < (og : Int)) = true := decide_eq_true (by omega)
              have hw8 : IntKind.i64.wrap ((N : Int) - (m : Int)) = (N : Int) - (m : Int) := by rw [IntKind.wrap_i64]; omega
              have HRR := Lib.hid hRR
              clear hRR hf
              go_wp2_with fail
              go_ret2
              rw [HRR.out]
              exact ⟨_, rfl, OwnI.nil _, HS3.out.rd, HS3.out.keep, by simp [Value.ownBlock]⟩
            · have hRR := ls17_go (F := F) (by rw [HM.out]; exact HLT.out) HNK.out HOF.out HE.out HC1.out (by rw [HM.out]; exact hf)
              rw [HRk.out, what17_z17] at hRR
              have t8 : decide ((N : Int) - (m : Int) < (og : Int)) = false := decide_eq_false (by omega)
              have hw8 : IntKind.i64.wrap ((N : Int) - (m : Int)) = (N : Int) - (m : Int) := by rw [IntKind.wrap_i64]; omega
              have HRR := Lib.hid hRR
              have HOG : Hid (m + og ≤ N) := by unfold Hid; omega
              have HWF : Hid ((Lit.int .i64 0).wf = true) := Lib.hid (by decide)
              have HII := Lib.hid (fun (u : World) => Is.one17 u 0 HWF.out)
              clear hRR hf
              go_wp2_with fail
              go_loopw [8, 13] (fun al jv wr => ∃ (p : Nat) (a : Option Addr) (c : Nat), p ≤ og ∧ jv = .int .i64 p ∧ al = .slice a (m + p) c ∧ Hid (UnY w q v s3 (.slice a (m + p) c) (M ++ List.replicate p 0) wr)) (fun _ jv _ => og - (intOf jv).toNat)
              case atStart => exact ⟨0, a, c, by omega, rfl, rfl, by first | simpa using HS3 | simpa [UnY] using HS3⟩
              case round =>
                clear HS3
                obtain ⟨p, a4, c4, hp, rfl, rfl, HX⟩ := hrel
                by_cases hpx : p < og
                · have t9 : decide (p < og) = true := by simpa using hpx
                  have hs9 : IntKind.i64.wrap ((p : Int) + 1) = ((p + 1 : Nat) : Int) := by rw [IntKind.wrap_i64]; omega
                  have hle2 : (M ++ List.replicate p 0).length = m + p := by simp; exact HM.out
                  have hlen2 : (M ++ List.replicate p 0).length + 1 ≤ 17592186044416 := by rw [hle2]; have := HOG.out; omega
                  have HL2 := Lib.hid hlen2; have HLE := Lib.hid hle2
                  have HPX : Hid (p < og) := hpx
                  have hsn : Hid ((M ++ List.replicate p 0) ++ [0] = M ++ List.replicate (p + 1) 0) := by
                    unfold Hid; rw [List.append_assoc, ← List.replicate_succ']
                  have hO3 := Lib.hid (fun o => (HX.out.own.keep ((Keep.refl [] wr).alloc o) (by simp)))
                  have hR3 := Lib.hid (fun o => (HX.out.rd.keep ((Keep.refl [] wr).alloc o) (by simp) (by simp)))
                  have hK3 := Lib.hid (fun o => (HX.out.keep.trans ((Keep.refl [] wr).alloc o) (by simp)))
                  have hbb := Lib.hid HX.out.bb
                  clear hlen2 hle2 HX hpx
                  obtain ⟨MM, hMM⟩ : ∃ MM, M ++ List.replicate p 0 = MM := ⟨_, rfl⟩
                  rw [hMM] at hO3 HL2 HLE hsn
                  clear hMM
                  go_wp2_with (at_builtin; (refine wpList_appendI (.tmp 81) (.tmp 83) rfl rfl (.slice a4 (m + p) c4) MM rfl (hO3.out _) _ [0] rfl (HII.out _) HL2.out ?_); (intro v4 w4 ho4 hk4 hb4 hz4))
                  obtain ⟨a5, c5, rfl, hl5⟩ := ho4.is.sh
                  have e5 : (MM ++ [0]).length = m + (p + 1) := by simp; have := HLE.out; omega
                  rw [e5] at hb4 ho4
                  rw [hsn.out] at ho4
                  have := HPX.out
                  refine ⟨⟨p + 1, a5, c5, by omega, by simp, by rw [e5], ?_⟩, by simp [intOf]; omega⟩
                  refine ⟨(hR3.out _).keep hk4 (fun hm => ?_) ?_, ho4, (hK3.out _).trans hk4 (fun b hb => .inr (hbb.out b (by simpa using hb))), fun b hb => ?_⟩
                  · have := hbb.out q (by simpa using hm); omega
                  · intro hl b hb hm
                    have h1 := HVL.out (by rw [← hl3'.out]; exact hl) b hb
                    have h2 := hbb.out b (by simpa using hm)
                    omega
                  · rcases hb4 b hb with h | h
                    · exact hbb.out b h
                    · rw [h]; exact (hK3.out _).size
                · have t9 : decide (p < og) = false := by simpa using hpx
                  have hp2 : og = p := by omega
                  have HOG2 : Hid (m + p ≤ N) := by unfold Hid; have := HOG.out; omega
                  have HP1 : Hid (1 ≤ p) := by unfold Hid; have := HO1.out; omega
                  have hRR := HRR.out
                  rw [hp2] at hRR
                  have HRR2 := Lib.hid hRR
                  have hfl : Hid ((M ++ List.replicate p 0).length = m + p) := by unfold Hid; simp; exact HM.out
                  clear hpx hp2 hRR HRR
                  go_wp2_with fail
                  go_roundw
                  case rel => have := HOG2.out; have := HP1.out; have e9 := hfl.out; exact ⟨M ++ List.replicate p 0, s3, F, a4, c4, by rw [e9], by rw [e9]; exact HX.out, HRR2.out.symm, by rw [e9]; omega, by rw [e9]; omega, hl3'⟩
                  case measure => have := HOG2.out; have := HP1.out; simp; omega

          · have herr : ((s3.err : Int) != 0) = true := by simp; omega
            have hRR := ls17_err2 (F := F) (by rw [HM.out]; exact HLT.out) HNK.out HOF.out hE
            rw [HRk.out, hEr] at hRR
            have HRR := Lib.hid hRR
            clear hRR hE hEr
            go_wp2_with fail
            go_quiet (fail)
            go_wp2_with fail
            go_ret2
            rw [HRR.out]
            exact ⟨_, rfl, OwnI.nil _, HS3.out.rd.drewN _, HS3.out.keep.drewN _, by simp [Value.ownBlock]⟩
        · by_cases h18 : i = 18
          · subst h18
            have hb := (bits_lt17 s2).2.2
            have hof : often17 ((18 : Nat) : Int) s2 = (11 + (s2.bits 7).1, (s2.bits 7).2) := by unfold often17; rw [if_neg (by decide), if_neg (by decide), if_pos (by decide)]
            have hl3 := bits_l17 s2 7
            have hcall := rbits_c w2 q v s2 7 HS2.out.rd
            obtain ⟨bn, hbn⟩ : ∃ bn, (s2.bits 7).1 = bn := ⟨_, rfl⟩
            obtain ⟨s3, hs3⟩ : ∃ s3, (s2.bits 7).2 = s3 := ⟨_, rfl⟩
            rw [hbn] at hb hof hcall
            rw [hs3] at hof hl3 hcall
            obtain ⟨og, hog⟩ : ∃ og, 11 + bn = og := ⟨_, rfl⟩
            rw [hog] at hof
            have hw1 : IntKind.i64.wrap (bn : Int) = (bn : Int) := by rw [IntKind.wrap_i64]; omega
            have hw2 : IntKind.i64.wrap (11 + (bn : Int)) = (og : Int) := by rw [IntKind.wrap_i64]; omega
            have hog2 : og ≤ 138 := by omega
            have HO1 : Hid (1 ≤ og) := by unfold Hid; omega
            have HOF := Lib.hid hof
            have HC3 := Lib.hid hcall
            have hl3' : Hid (s3.l = s.l) := by unfold Hid; rw [hl3]; exact hl2.out
            clear hb hof hcall hbn hs3 hog hl3 hi1
            go_wp2_with fail
            refine HC3.out.mono ?_; rintro e w3 ⟨rfl, hr3, hk3⟩
            have K3 : Keep [q] w w3 := HS2.out.keep.trans hk3 (fun b hb => .inl hb)
            have hO3 := HS2.out.own.keep hk3 (fun b hb hm => by have := HS2.out.bb b hb; simp at hm; omega)
            have HS3 : Hid (UnY w q v s3 (.slice a m c) M w3) := ⟨hr3, hO3, K3, HS2.out.bb⟩
            clear hr3 hk3 HS2 K3 hO3 HC3

            have hr3c := HS3.out.rd
            have c2 := hr3c.1.cell 2 _ rfl
            have hEr := hr3c.E
            clear hr3c
            by_cases hE : s3.E = 0
            · have herr : ((s3.err : Int) != 0) = false := by simp; omega
              have HE : Hid (s3.E = 0) := hE
              clear hE hEr
              have HC1 : Hid (¬ (((18 : Nat) : Int) = 16 ∧ M = [])) := by
                intro h
                have := h.1
                omega
              by_cases hf : N - m < og
              · have hRR := ls17_form (F := F) (by rw [HM.out]; exact HLT.out) HNK.out HOF.out HE.out HC1.out (by rw [HM.out]; exact hf)
                rw [HRk.out] at hRR
                have t8 : decide ((N : Int) - (m : Int) < (og : Int)) = true := decide_eq_true (by omega)
                have hw8 : IntKind.i64.wrap ((N : Int) - (m : Int)) = (N : Int) - (m : Int) := by rw [IntKind.wrap_i64]; omega
                have HRR := Lib.hid hRR
                clear hRR hf
                go_wp2_with fail
                go_ret2
                rw [HRR.out]
                exact ⟨_, rfl, OwnI.nil _, HS3.out.rd, HS3.out.keep, by simp [Value.ownBlock]⟩
              · have hRR := ls17_go (F := F) (by rw [HM.out]; exact HLT.out) HNK.out HOF.out HE.out HC1.out (by rw [HM.out]; exact hf)
                rw [HRk.out, what17_z18] at hRR
                have t8 : decide ((N : Int) - (m : Int) < (og : Int)) = false := decide_eq_false (by omega)
                have hw8 : IntKind.i64.wrap ((N : Int) - (m : Int)) = (N : Int) - (m : Int) := by rw [IntKind.wrap_i64]; omega
                have HRR := Lib.hid hRR
                have HOG : Hid (m + og ≤ N) := by unfold Hid; omega
                have HWF : Hid ((Lit.int .i64 0).wf = true) := Lib.hid (by decide)
                have HII := Lib.hid (fun (u : World) => Is.one17 u 0 HWF.out)
                clear hRR hf
                go_wp2_with fail
                go_loopw [8, 13] (fun al jv wr => ∃ (p : Nat) (a : Option Addr) (c : Nat), p ≤ og ∧ jv = .int .i64 p ∧ al = .slice a (m + p) c ∧ Hid (UnY w q v s3 (.slice a (m + p) c) (M ++ List.replicate p 0) wr)) (fun _ jv _ => og - (intOf jv).toNat)
                case atStart => exact ⟨0, a, c, by omega, rfl, rfl, by first | simpa using HS3 | simpa [UnY] using HS3⟩
                case round =>
                  clear HS3
                  obtain ⟨p, a4, c4, hp, rfl, rfl, HX⟩ := hrel
                  by_cases hpx : p < og
                  · have t9 : decide (p < og) = true := by simpa using hpx
                    have hs9 : IntKind.i64.wrap ((p : Int) + 1) = ((p + 1 : Nat) : Int) := by rw [IntKind.wrap_i64]; omega
                    have hle2 : (M ++ List.replicate p 0).length = m + p := by simp; exact HM.out
                    have hlen2 : (M ++ List.replicate p 0).length + 1 ≤ 17592186044416 := by rw [hle2]; have := HOG.out; omega
                    have HL2 := Lib.hid hlen2; have HLE := Lib.hid hle2
                    have HPX : Hid (p < og) := hpx
                    have hsn : Hid ((M ++ List.replicate p 0) ++ [0] = M ++ List.replicate (p + 1) 0) := by
                      unfold Hid; rw [List.append_assoc, ← List.replicate_succ']
                    have hO3 := Lib.hid (fun o => (HX.out.own.keep ((Keep.refl [] wr).alloc o) (by simp)))
                    have hR3 := Lib.hid (fun o => (HX.out.rd.keep ((Keep.refl [] wr).alloc o) (by simp) (by simp)))
                    have hK3 := Lib.hid (fun o => (HX.out.keep.trans ((Keep.refl [] wr).alloc o) (by simp)))
                    have hbb := Lib.hid HX.out.bb
                    clear hlen2 hle2 HX hpx
                    obtain ⟨MM, hMM⟩ : ∃ MM, M ++ List.replicate p 0 = MM := ⟨_, rfl⟩
                    rw [hMM] at hO3 HL2 HLE hsn
                    clear hMM
                    go_wp2_with (at_builtin; (refine wpList_appendI (.tmp 81) (.tmp 83) rfl rfl (.slice a4 (m + p) c4) MM rfl (hO3.out _) _ [0] rfl (HII.out _) HL2.out ?_); (intro v4 w4 ho4 hk4 hb4 hz4))
                    obtain ⟨a5, c5, rfl, hl5⟩ := ho4.is.sh
                    have e5 : (MM ++ [0]).length = m + (p + 1) := by simp; have := HLE.out; omega
                    rw [e5] at hb4 ho4
                    rw [hsn.out] at ho4
                    have := HPX.out
                    refine ⟨⟨p + 1, a5, c5, by omega, by simp, by rw [e5], ?_⟩, by simp [intOf]; omega⟩
                    refine ⟨(hR3.out _).keep hk4 (fun hm => ?_) ?_, ho4, (hK3.out _).trans hk4 (fun b hb => .inr (hbb.out b (by simpa using hb))), fun b hb => ?_⟩
                    · have := hbb.out q (by simpa using hm); omega
                    · intro hl b hb hm
                      have h1 := HVL.out (by rw [← hl3'.out]; exact hl) b hb
                      have h2 := hbb.out b (by simpa using hm)
                      omega
                    · rcases hb4 b hb with h | h
                      · exact hbb.out b h
                      · rw [h]; exact (hK3.out _).size
                  · have t9 : decide (p < og) = false := by simpa using hpx
                    have hp2 : og = p := by omega
                    have HOG2 : Hid (m + p ≤ N) := by unfold Hid; have := HOG.out; omega
                    have HP1 : Hid (1 ≤ p) := by unfold Hid; have := HO1.out; omega
                    have hRR := HRR.out
                    rw [hp2] at hRR
                    have HRR2 := Lib.hid hRR
                    have hfl : Hid ((M ++ List.replicate p 0).length = m + p) := by unfold Hid; simp; exact HM.out
                    clear hpx hp2 hRR HRR
                    go_wp2_with fail
                    go_roundw
                    case rel => have := HOG2.out; have := HP1.out; have e9 := hfl.out; exact ⟨M ++ List.replicate p 0, s3, F, a4, c4, by rw [e9], by rw [e9]; exact HX.out, HRR2.out.symm, by rw [e9]; omega, by rw [e9]; omega, hl3'⟩
                    case measure => have := HOG2.out; have := HP1.out; simp; omega

            · have herr : ((s3.err : Int) != 0) = true := by simp; omega
              have hRR := ls17_err2 (F := F) (by rw [HM.out]; exact HLT.out) HNK.out HOF.out hE
              rw [HRk.out, hEr] at hRR
              have HRR := Lib.hid hRR
              clear hRR hE hEr
              go_wp2_with fail
              go_quiet (fail)
              go_wp2_with fail
              go_ret2
              rw [HRR.out]
              exact ⟨_, rfl, OwnI.nil _, HS3.out.rd.drewN _, HS3.out.keep.drewN _, by simp [Value.ownBlock]⟩
          · by_cases h16 : i = 16
            · subst h16
              have hb := (bits_lt17 s2).1
              have hof : often17 ((16 : Nat) : Int) s2 = (3 + (s2.bits 2).1, (s2.bits 2).2) := by unfold often17; rw [if_pos (by decide)]
              have hl3 := bits_l17 s2 2
              have hcall := rbits_c w2 q v s2 2 HS2.out.rd
              obtain ⟨bn, hbn⟩ : ∃ bn, (s2.bits 2).1 = bn := ⟨_, rfl⟩
              obtain ⟨s3, hs3⟩ : ∃ s3, (s2.bits 2).2 = s3 := ⟨_, rfl⟩
              rw [hbn] at hb hof hcall
              rw [hs3] at hof hl3 hcall
              obtain ⟨og, hog⟩ : ∃ og, 3 + bn = og := ⟨_, rfl⟩
              rw [hog] at hof
              have hw1 : IntKind.i64.wrap (bn : Int) = (bn : Int) := by rw [IntKind.wrap_i64]; omega
              have hw2 : IntKind.i64.wrap (3 + (bn : Int)) = (og : Int) := by rw [IntKind.wrap_i64]; omega
              have hog2 : og ≤ 138 := by omega
              have HO1 : Hid (1 ≤ og) := by unfold Hid; omega
              have HOF := Lib.hid hof
              have HC3 := Lib.hid hcall
              have hl3' : Hid (s3.l = s.l) := by unfold Hid; rw [hl3]; exact hl2.out
              clear hb hof hcall hbn hs3 hog hl3 hi1
              go_wp2_with fail
              refine HC3.out.mono ?_; rintro e w3 ⟨rfl, hr3, hk3⟩
              have K3 : Keep [q] w w3 := HS2.out.keep.trans hk3 (fun b hb => .inl hb)
              have hO3 := HS2.out.own.keep hk3 (fun b hb hm => by have := HS2.out.bb b hb; simp at hm; omega)
              have HS3 : Hid (UnY w q v s3 (.slice a m c) M w3) := ⟨hr3, hO3, K3, HS2.out.bb⟩
              clear hr3 hk3 HS2 K3 hO3 HC3

              have hr3c := HS3.out.rd
              have c2 := hr3c.1.cell 2 _ rfl
              have hEr := hr3c.E
              clear hr3c
              by_cases hE : s3.E = 0
              · have herr : ((s3.err : Int) != 0) = false := by simp; omega
                have HE : Hid (s3.E = 0) := hE
                clear hE hEr
                by_cases hM0 : M = []
                · have hRR := ls17_code (F := F) (by rw [HM.out]; exact HLT.out) HNK.out HOF.out HE.out ⟨rfl, hM0⟩
                  rw [HRk.out] at hRR
                  have HRR := Lib.hid hRR
                  have hm0 : m = 0 := by rw [← HM.out, hM0]; rfl
                  subst hm0
                  clear hRR
                  go_wp2_with fail
                  go_ret2
                  rw [HRR.out]
                  exact ⟨_, rfl, OwnI.nil _, HS3.out.rd, HS3.out.keep, by simp [Value.ownBlock]⟩

                have HC1 : Hid (¬ (((16 : Nat) : Int) = 16 ∧ M = [])) := fun h => hM0 h.2
                have hm1 : 1 ≤ m := by rw [← HM.out]; exact List.length_pos_iff.2 hM0
                have hmx : m - 1 < M.length := by rw [HM.out]; omega
                obtain ⟨z, hz⟩ : ∃ z, M[m - 1] = z := ⟨_, rfl⟩
                have hzd : M.getLastD 0 = z := by
                  rw [List.getLastD_eq_getLast?, List.getLast?_eq_getElem?, ← hz]
                  have e : M.length - 1 = m - 1 := by rw [HM.out]
                  rw [e, List.getElem?_eq_getElem hmx]; rfl
                have HZ := Lib.hid hzd
                have hiz := HS3.out.own.is
                rw [← HM.out] at hiz
                have hzwf : (Lit.int .i64 z).wf = true := by
                  obtain ⟨_, _, _, _, _, _, _, h6⟩ := hiz
                  exact h6 z (by rw [← hz]; exact List.getElem_mem hmx)
                have HZW := Lib.hid hzwf
                obtain ⟨b, off, cap', hv, e1⟩ := hiz.at (m - 1) hmx
                rw [hz] at e1
                simp only [Value.slice.injEq] at hv
                obtain ⟨rfl, -, rfl⟩ := hv
                have hmw : IntKind.i64.wrap ((m : Int) - 1) = ((m - 1 : Nat) : Int) := by rw [IntKind.wrap_i64]; omega
                have hmz : (m == 0) = false := by simp; omega
                have hmz' : ((m : Int) == 0) = false := by simp; omega
                have hmx2 : m - 1 < m := by omega
                clear hM0 hzd hiz hzwf hz hmx
                by_cases hf : N - m < og
                · have hRR := ls17_form (F := F) (by rw [HM.out]; exact HLT.out) HNK.out HOF.out HE.out HC1.out (by rw [HM.out]; exact hf)
                  rw [HRk.out] at hRR
                  have t8 : decide ((N : Int) - (m : Int) < (og : Int)) = true := decide_eq_true (by omega)
                  have hw8 : IntKind.i64.wrap ((N : Int) - (m : Int)) = (N : Int) - (m : Int) := by rw [IntKind.wrap_i64]; omega
                  have HRR := Lib.hid hRR
                  clear hRR hf
                  go_wp2_with fail
                  go_ret2
                  rw [HRR.out]
                  exact ⟨_, rfl, OwnI.nil _, HS3.out.rd, HS3.out.keep, by simp [Value.ownBlock]⟩
                · have hRR := ls17_go (F := F) (by rw [HM.out]; exact HLT.out) HNK.out HOF.out HE.out HC1.out (by rw [HM.out]; exact hf)
                  rw [HRk.out, what17_z16, HZ.out] at hRR
                  have t8 : decide ((N : Int) - (m : Int) < (og : Int)) = false := decide_eq_false (by omega)
                  have hw8 : IntKind.i64.wrap ((N : Int) - (m : Int)) = (N : Int) - (m : Int) := by rw [IntKind.wrap_i64]; omega
                  have HRR := Lib.hid hRR
                  have HOG : Hid (m + og ≤ N) := by unfold Hid; omega
                  have HWF : Hid ((Lit.int .i64 z).wf = true) := Lib.hid (HZW.out)
                  have HII := Lib.hid (fun (u : World) => Is.one17 u z HWF.out)
                  clear hRR hf
                  go_wp2_with fail
                  go_loopw [8, 13] (fun al jv wr => ∃ (p : Nat) (a : Option Addr) (c : Nat), p ≤ og ∧ jv = .int .i64 p ∧ al = .slice a (m + p) c ∧ Hid (UnY w q v s3 (.slice a (m + p) c) (M ++ List.replicate p z) wr)) (fun _ jv _ => og - (intOf jv).toNat)
                  case atStart => exact ⟨0, _, c, by omega, rfl, rfl, by first | simpa using HS3 | simpa [UnY] using HS3⟩
                  case round =>
                    clear HS3
                    obtain ⟨p, a4, c4, hp, rfl, rfl, HX⟩ := hrel
                    by_cases hpx : p < og
                    · have t9 : decide (p < og) = true := by simpa using hpx
                      have hs9 : IntKind.i64.wrap ((p : Int) + 1) = ((p + 1 : Nat) : Int) := by rw [IntKind.wrap_i64]; omega
                      have hle2 : (M ++ List.replicate p z).length = m + p := by simp; exact HM.out
                      have hlen2 : (M ++ List.replicate p z).length + 1 ≤ 17592186044416 := by rw [hle2]; have := HOG.out; omega
                      have HL2 := Lib.hid hlen2; have HLE := Lib.hid hle2
                      have HPX : Hid (p < og) := hpx
                      have hsn : Hid ((M ++ List.replicate p z) ++ [z] = M ++ List.replicate (p + 1) z) := by
                        unfold Hid; rw [List.append_assoc, ← List.replicate_succ']
                      have hO3 := Lib.hid (fun o => (HX.out.own.keep ((Keep.refl [] wr).alloc o) (by simp)))
                      have hR3 := Lib.hid (fun o => (HX.out.rd.keep ((Keep.refl [] wr).alloc o) (by simp) (by simp)))
                      have hK3 := Lib.hid (fun o => (HX.out.keep.trans ((Keep.refl [] wr).alloc o) (by simp)))
                      have hbb := Lib.hid HX.out.bb
                      clear hlen2 hle2 HX hpx
                      obtain ⟨MM, hMM⟩ : ∃ MM, M ++ List.replicate p z = MM := ⟨_, rfl⟩
                      rw [hMM] at hO3 HL2 HLE hsn
                      clear hMM
                      go_wp2_with (at_builtin; (refine wpList_appendI (.tmp 81) (.tmp 83) rfl rfl (.slice a4 (m + p) c4) MM rfl (hO3.out _) _ [z] rfl (HII.out _) HL2.out ?_); (intro v4 w4 ho4 hk4 hb4 hz4))
                      obtain ⟨a5, c5, rfl, hl5⟩ := ho4.is.sh
                      have e5 : (MM ++ [z]).length = m + (p + 1) := by simp; have := HLE.out; omega
                      rw [e5] at hb4 ho4
                      rw [hsn.out] at ho4
                      have := HPX.out
                      refine ⟨⟨p + 1, a5, c5, by omega, by simp, by rw [e5], ?_⟩, by simp [intOf]; omega⟩
                      refine ⟨(hR3.out _).keep hk4 (fun hm => ?_) ?_, ho4, (hK3.out _).trans hk4 (fun b hb => .inr (hbb.out b (by simpa using hb))), fun b hb => ?_⟩
                      · have := hbb.out q (by simpa using hm); omega
                      · intro hl b hb hm
                        have h1 := HVL.out (by rw [← hl3'.out]; exact hl) b hb
                        have h2 := hbb.out b (by simpa using hm)
                        omega
                      · rcases hb4 b hb with h | h
                        · exact hbb.out b h
                        · rw [h]; exact (hK3.out _).size
                    · have t9 : decide (p < og) = false := by simpa using hpx
                      have hp2 : og = p := by omega
                      have HOG2 : Hid (m + p ≤ N) := by unfold Hid; have := HOG.out; omega
                      have HP1 : Hid (1 ≤ p) := by unfold Hid; have := HO1.out; omega
                      have hRR := HRR.out
                      rw [hp2] at hRR
                      have HRR2 := Lib.hid hRR
                      have hfl : Hid ((M ++ List.replicate p z).length = m + p) := by unfold Hid; simp; exact HM.out
                      clear hpx hp2 hRR HRR
                      go_wp2_with fail
                      go_roundw
                      case rel => have := HOG2.out; have := HP1.out; have e9 := hfl.out; exact ⟨M ++ List.replicate p z, s3, F, a4, c4, by rw [e9], by rw [e9]; exact HX.out, HRR2.out.symm, by rw [e9]; omega, by rw [e9]; omega, hl3'⟩
                      case measure => have := HOG2.out; have := HP1.out; simp; omega

              · have herr : ((s3.err : Int) != 0) = true := by simp; omega
                have hRR := ls17_err2 (F := F) (by rw [HM.out]; exact HLT.out) HNK.out HOF.out hE
                rw [HRk.out, hEr] at hRR
                have HRR := Lib.hid hRR
                clear hRR hE hEr
                go_wp2_with fail
                go_quiet (fail)
                go_wp2_with fail
                go_ret2
                rw [HRR.out]
                exact ⟨_, rfl, OwnI.nil _, HS3.out.rd.drewN _, HS3.out.keep.drewN _, by simp [Value.ownBlock]⟩
            · have hof : often17 (i : Int) s2 = (1, s2) := by unfold often17; rw [if_neg (by omega), if_neg (by omega), if_neg (by omega)]
              have HOF := Lib.hid hof
              have hzi := what17_zi M i h16 h17 h18
              have HZI := Lib.hid hzi
              have hiwf : (Lit.int .i64 (i : Int)).wf = true := by simp [Lit.wf, IntKind.min, IntKind.max, IntKind.bits, IntKind.signed]; omega
              have HIW := Lib.hid hiwf
              have u1 : ((i : Int) == 16) = false := by simp; omega
              have u1' : (i == 16) = false := by simp; omega
              have u2 : ((i : Int) == 17) = false := by simp; omega
              have u2' : (i == 17) = false := by simp; omega
              have u3 : ((i : Int) == 18) = false := by simp; omega
              have u3' : (i == 18) = false := by simp; omega
              have HC1 : Hid (¬ ((i : Int) = 16 ∧ M = [])) := by intro h; have := h.1; omega
              have HS3 := HS2
              have hl3' := hl2
              have hf : ¬ N - m < 1 := by omega
              have HO1 : Hid (1 ≤ 1) := Nat.le_refl _
              have hr3c := HS3.out.rd
              have c2 := hr3c.1.cell 2 _ rfl
              have hEr := hr3c.E
              clear hr3c hof hzi hiwf h16 h17 h18 hi1 HS2
              by_cases hE : s2.E = 0
              · have herr : ((s2.err : Int) != 0) = false := by simp; omega
                have HE : Hid (s2.E = 0) := hE
                clear hE hEr
                have hRR := ls17_go (F := F) (by rw [HM.out]; exact HLT.out) HNK.out HOF.out HE.out HC1.out (by rw [HM.out]; exact hf)
                rw [HRk.out, HZI.out] at hRR
                have t8 : decide ((N : Int) - (m : Int) < (1 : Int)) = false := decide_eq_false (by omega)
                have hw8 : IntKind.i64.wrap ((N : Int) - (m : Int)) = (N : Int) - (m : Int) := by rw [IntKind.wrap_i64]; omega
                have HRR := Lib.hid hRR
                have HOG : Hid (m + 1 ≤ N) := by unfold Hid; omega
                have HWF : Hid ((Lit.int .i64 (i : Int)).wf = true) := Lib.hid (HIW.out)
                have HII := Lib.hid (fun (u : World) => Is.one17 u (i : Int) HWF.out)
                clear hRR hf
                go_wp2_with fail
                go_loopw [8, 13] (fun al jv wr => ∃ (p : Nat) (a : Option Addr) (c : Nat), p ≤ 1 ∧ jv = .int .i64 p ∧ al = .slice a (m + p) c ∧ Hid (UnY w q v s2 (.slice a (m + p) c) (M ++ List.replicate p (i : Int)) wr)) (fun _ jv _ => 1 - (intOf jv).toNat)
                case atStart => exact ⟨0, a, c, by omega, rfl, rfl, by first | simpa using HS3 | simpa [UnY] using HS3⟩
                case round =>
                  clear HS3
                  obtain ⟨p, a4, c4, hp, rfl, rfl, HX⟩ := hrel
                  by_cases hpx : p < 1
                  · have t9 : decide ((p : Int) < 1) = true := decide_eq_true (by omega)
                    have hs9 : IntKind.i64.wrap ((p : Int) + 1) = ((p + 1 : Nat) : Int) := by rw [IntKind.wrap_i64]; omega
                    have hle2 : (M ++ List.replicate p (i : Int)).length = m + p := by simp; exact HM.out
                    have hlen2 : (M ++ List.replicate p (i : Int)).length + 1 ≤ 17592186044416 := by rw [hle2]; have := HOG.out; omega
                    have HL2 := Lib.hid hlen2; have HLE := Lib.hid hle2
                    have HPX : Hid (p < 1) := hpx
                    have hsn : Hid ((M ++ List.replicate p (i : Int)) ++ [(i : Int)] = M ++ List.replicate (p + 1) (i : Int)) := by
                      unfold Hid; rw [List.append_assoc, ← List.replicate_succ']
                    have hO3 := Lib.hid (fun o => (HX.out.own.keep ((Keep.refl [] wr).alloc o) (by simp)))
                    have hR3 := Lib.hid (fun o => (HX.out.rd.keep ((Keep.refl [] wr).alloc o) (by simp) (by simp)))
                    have hK3 := Lib.hid (fun o => (HX.out.keep.trans ((Keep.refl [] wr).alloc o) (by simp)))
                    have hbb := Lib.hid HX.out.bb
                    clear hlen2 hle2 HX hpx
                    obtain ⟨MM, hMM⟩ : ∃ MM, M ++ List.replicate p (i : Int) = MM := ⟨_, rfl⟩
                    rw [hMM] at hO3 HL2 HLE hsn
                    clear hMM
                    go_wp2_with (at_builtin; (refine wpList_appendI (.tmp 81) (.tmp 83) rfl rfl (.slice a4 (m + p) c4) MM rfl (hO3.out _) _ [(i : Int)] rfl (HII.out _) HL2.out ?_); (intro v4 w4 ho4 hk4 hb4 hz4))
                    obtain ⟨a5, c5, rfl, hl5⟩ := ho4.is.sh
                    have e5 : (MM ++ [(i : Int)]).length = m + (p + 1) := by simp; have := HLE.out; omega
                    rw [e5] at hb4 ho4
                    rw [hsn.out] at ho4
                    have := HPX.out
                    refine ⟨⟨p + 1, a5, c5, by omega, by simp, by rw [e5], ?_⟩, by simp [intOf]; omega⟩
                    refine ⟨(hR3.out _).keep hk4 (fun hm => ?_) ?_, ho4, (hK3.out _).trans hk4 (fun b hb => .inr (hbb.out b (by simpa using hb))), fun b hb => ?_⟩
                    · have := hbb.out q (by simpa using hm); omega
                    · intro hl b hb hm
                      have h1 := HVL.out (by rw [← hl3'.out]; exact hl) b hb
                      have h2 := hbb.out b (by simpa using hm)
                      omega
                    · rcases hb4 b hb with h | h
                      · exact hbb.out b h
                      · rw [h]; exact (hK3.out _).size
                  · have t9 : decide ((p : Int) < 1) = false := decide_eq_false (by omega)
                    have hp2 : 1 = p := by omega
                    have HOG2 : Hid (m + p ≤ N) := by unfold Hid; have := HOG.out; omega
                    have HP1 : Hid (1 ≤ p) := by unfold Hid; have := HO1.out; omega
                    have hRR := HRR.out
                    rw [hp2] at hRR
                    have HRR2 := Lib.hid hRR
                    have hfl : Hid ((M ++ List.replicate p (i : Int)).length = m + p) := by unfold Hid; simp; exact HM.out
                    clear hpx hp2 hRR HRR
                    go_wp2_with fail
                    go_roundw
                    case rel => have := HOG2.out; have := HP1.out; have e9 := hfl.out; exact ⟨M ++ List.replicate p (i : Int), s2, F, a4, c4, by rw [e9], by rw [e9]; exact HX.out, HRR2.out.symm, by rw [e9]; omega, by rw [e9]; omega, hl3'⟩
                    case measure => have := HOG2.out; have := HP1.out; simp; omega

              · have herr : ((s2.err : Int) != 0) = true := by simp; omega
                have hRR := ls17_err2 (F := F) (by rw [HM.out]; exact HLT.out) HNK.out HOF.out hE
                rw [HRk.out, hEr] at hRR
                have HRR := Lib.hid hRR
                clear hRR hE hEr
                go_wp2_with fail
                go_quiet (fail)
                go_wp2_with fail
                go_ret2
                rw [HRR.out]
                exact ⟨_, rfl, OwnI.nil _, HS3.out.rd.drewN _, HS3.out.keep.drewN _, by simp [Value.ownBlock]⟩

      · have t1 : ((er : Int) == 0) = false := by simp; omega
        have t1' : ((er : Int) != 0) = true := by simp; omega
        have hRR := ls17_err (F := F) (by rw [HM.out]; exact HLT.out) HNK.out he
        rw [HRk.out] at hRR
        have HRR := Lib.hid hRR
        clear hRR hi he
        go_wp2_with fail
        go_ret2
        rw [HRR.out]
        exact ⟨_, rfl, OwnI.nil _, HS2.out.rd, HS2.out.keep, by simp [Value.ownBlock]⟩
    · have t0 : decide (m < N) = false := by simpa using hlt
      obtain ⟨F, rfl⟩ : ∃ F, F1 = F + 1 := ⟨F1 - 1, by omega⟩
      have hRR := ls17_end (LL := LL) (F := F) (sk := sk) (show N ≤ M.length by omega)
      rw [HRk.out] at hRR
      have HRR := Lib.hid hRR
      rw [hm] at HS ⊢ hF hM
      have HM := Lib.hid hm
      clear hm hRR hlt
      go_wp2_with fail
      go_ret2
      rw [HRR.out]
      exact ⟨_, rfl, HS.out.own, HS.out.rd, HS.out.keep, HS.out.bb⟩
end Go.Proofs.YtokfcgloogdeiaaGreatDoor
namespace Go.Proofs.YtokfcgloogdeiaaGreatDoor
set_option linter.unusedVariables false
set_option linter.unusedSimpArgs false
set_option maxRecDepth 100000
open Go.ChangeShapes Go.WideShapes Go.ChangeAt Go.RowKit

theorem Is.nil64 (w : World) : Is .i64 w (.slice none 0 0) [] := (OwnI.nil w).is
theorem bits_lt5 (s : RS) : (s.bits 5).1 < 32 := bits_lt15 s 5 (by decide)
theorem bits_lt4 (s : RS) : (s.bits 4).1 < 16 := bits_lt15 s 4 (by decide)
theorem bits_lt3 (s : RS) : (s.bits 3).1 < 8 := bits_lt15 s 3 (by decide)
theorem th17_len (s : RS) (k : Nat) : (th17 s k).1.length = 19 := by
  induction k with
  | zero => rfl
  | succ k ih => rw [th17]; simp [ih]
theorem th17_l (s : RS) (k : Nat) : (th17 s k).2.l = s.l := by
  induction k with
  | zero => rfl
  | succ k ih => rw [th17]; exact (bits_l17 _ 3).trans ih
theorem sliced0 (a : Option Addr) (j cap : Nat) : sliced a 0 j cap 1 = .slice a j cap := by
  unfold sliced
  cases a with
  | none => simp
  | some x => cases x with | mk b o f => cases f <;> simp [Addr.add]
/-- v[:y] -/
theorem Is.upto {w : World} {v : Value} {l : List Int} (h : Is .i64 w v l) (j : Nat) (y : Int) (hy : y = j) (hj : j ≤ l.length) :
    ∃ v', (∀ W, (Instr.slice 38 v none (some (.int .i64 y)) none).run Tryz.prog W = .ok v' W) ∧ Is .i64 w v' (l.take j) ∧ ∀ b, v'.ownBlock = some b → v.ownBlock = some b := by
  subst hy
  obtain ⟨a, cap, rfl, h1, h2, _⟩ := id h
  unfold maxLen at h2
  refine ⟨.slice a j cap, fun W => by rw [run_slice_h W _ _ _ _ under64.1 .i64 _ (by omega) (by omega), under64.2, size64]; show Result.ok (sliced a 0 ((j : Int)).toNat cap 1) W = _; rw [sliced0]; rfl, h.pre j hj, fun b hb => by cases a with
    | none => simp [Value.ownBlock] at hb
    | some x => simpa [Value.ownBlock] using hb⟩
set_option maxHeartbeats 8000000 in
theorem rread17_c (w : World) (q : Nat) (v : Value) (s : RS) (hr : Rr w q v s) (large : Bool) : Calls Tryz.prog 51 #[.pointer (some ⟨q, 0, none⟩), .bool large] w fun e w' => ∃ v1 v2, e = .returned (.tuple #[v1, v2, .int .i64 (rd17 s large).2.2.1]) ∧ Is .i64 w' v1 (rd17 s large).1 ∧ Is .i64 w' v2 (rd17 s large).2.1 ∧ Rr w' q v (rd17 s large).2.2.2 ∧ Keep [q] w w' := by
  obtain ⟨x1, s1, h1⟩ : ∃ x1 s1, s.bits 5 = (x1, s1) := ⟨_, _, rfl⟩
  obtain ⟨x2, s2, h2⟩ : ∃ x2 s2, s1.bits 5 = (x2, s2) := ⟨_, _, rfl⟩
  obtain ⟨x3, s3, h3⟩ : ∃ x3 s3, s2.bits 4 = (x3, s3) := ⟨_, _, rfl⟩
  obtain ⟨T, s4, h4⟩ : ∃ T s4, th17 s3 (x3 + 4) = (T, s4) := ⟨_, _, rfl⟩
  obtain ⟨al, er, s5, h5⟩ : ∃ al er s5, ls17 (Ln T) (x1 + 257 + (x2 + 1)) (x1 + 257 + (x2 + 1) + 1) [] s4 = (al, er, s5) := ⟨_, _, _, rfl⟩
  have hx1 : x1 < 32 := by have := bits_lt5 s; rw [h1] at this; exact this
  have hx2 : x2 < 32 := by have := bits_lt5 s1; rw [h2] at this; exact this
  have hx3 : x3 < 16 := by have := bits_lt4 s2; rw [h3] at this; exact this
  obtain ⟨k1, k2, k3⟩ := rd17_cases s large x1 s1 x2 s2 x3 s3 T s4 al er s5 h1 h2 h3 h4 h5
  have HB1 := Lib.hid (rbits_c w q v s 5 hr)
  have HB2 := Lib.hid (fun w1 (h : Rr w1 q v s1) => rbits_c w1 q v s1 5 h)
  have HB3 := Lib.hid (fun w1 (h : Rr w1 q v s2) => rbits_c w1 q v s2 4 h)
  rw [h1] at HB1; rw [h2] at HB2; rw [h3] at HB3
  dsimp only at HB1 HB2 HB3
  obtain ⟨R, hR⟩ : ∃ R, rd17 s large = R := ⟨_, rfl⟩
  rw [hR] at k1 k2 k3 ⊢
  have K1 := Lib.hid k1; have K2 := Lib.hid k2; have K3 := Lib.hid k3; have H4 := Lib.hid h4; have H5 := Lib.hid h5
  have hql : q < w.heap.size := hr.1.lt
  have HQ := Lib.hid hql
  have HVL : Hid (s.l ≠ [] → ∀ b, v.ownBlock = some b → b < w.heap.size) := fun hl b hb => hr.2.1.lt hl b hb
  have HL3 : Hid (s3.l = s.l) := by
    have a1 := bits_l17 s 5; have a2 := bits_l17 s1 5; have a3 := bits_l17 s2 4
    rw [h1] at a1; rw [h2] at a2; rw [h3] at a3
    exact (a3.trans a2).trans a1
  have w1 : IntKind.i64.wrap (x1 : Int) = x1 := by rw [IntKind.wrap_i64]; omega
  have w2 : IntKind.i64.wrap (x2 : Int) = x2 := by rw [IntKind.wrap_i64]; omega
  have w3 : IntKind.i64.wrap (x3 : Int) = x3 := by rw [IntKind.wrap_i64]; omega
  obtain ⟨a, ha⟩ : ∃ a, x1 + 257 = a := ⟨_, rfl⟩
  obtain ⟨b, hb⟩ : ∃ b, x2 + 1 = b := ⟨_, rfl⟩
  obtain ⟨n, hn⟩ : ∃ n, x3 + 4 = n := ⟨_, rfl⟩
  have w4 : IntKind.i64.wrap ((x1 : Int) + 257) = a := by rw [IntKind.wrap_i64]; omega
  have w5 : IntKind.i64.wrap ((x2 : Int) + 1) = b := by rw [IntKind.wrap_i64]; omega
  have w6 : IntKind.i64.wrap ((x3 : Int) + 4) = n := by rw [IntKind.wrap_i64]; omega
  have HAB : Hid (257 ≤ a ∧ a ≤ 288 ∧ 1 ≤ b ∧ b ≤ 32 ∧ n ≤ 19) := by unfold Hid; omega
  rw [ha, hb] at H5
  rw [hn] at H4
  rw [ha, hb] at K2 K3
  clear k1 k2 k3 h1 h2 h3 h4 h5 hR hx1 hx2 hx3 ha hb hn hr hql
  go_enter Tryz.func51, Tryz.ntmps51
  go_wp2_with fail
  refine HB1.out.mono ?_; rintro e wa ⟨rfl, hra, ka⟩
  go_wp2_with fail
  refine (HB2.out wa hra).mono ?_; rintro e wb ⟨rfl, hrb, kb⟩
  go_wp2_with fail
  refine (HB3.out wb hrb).mono ?_; rintro e wc ⟨rfl, hrc, kc⟩
  have HKC : Hid (Keep [q] w wc) := (ka.trans kb (fun _ h => .inl h)).trans kc (fun _ h => .inl h)
  have HRC := Lib.hid hrc
  have hE3 := hrc.E
  have c2 : wc.cell? ⟨q, 2, none⟩ = some (.int .i64 s3.err) := hrc.1.cell 2 _ rfl
  clear ka kb kc hra hrb HB1 HB2 HB3 hrc w1 w2
  obtain ⟨E3, hE3'⟩ : ∃ E3, s3.err = E3 := ⟨_, rfl⟩
  rw [hE3'] at c2 hE3
  rw [hE3] at K1 K2 K3
  clear hE3' hE3
  by_cases g3 : E3 = 0
  · subst g3
    obtain ⟨bz, hbz⟩ : ∃ bz, (decide (286 < (a : Int)) || (decide (30 < (b : Int)) && !large)) = bz := ⟨_, rfl⟩
    have HBZ := Lib.hid hbz
    clear hbz
    go_upto_region 6 with fail
    go_cut [47] (fun cv wx => cv = .bool bz ∧ wx = wc)
    case first =>
      go_wp2_with fail
      all_goals
        go_meet
        have hz := HBZ.out
        refine ⟨?_, rfl⟩
        rw [← hz]
        congr 1
        first
          | (have e : decide ((286 : Int) < a) = true := decide_eq_true (by omega); rw [e, Bool.true_or])
          | (have e : decide ((30 : Int) < b) = true := decide_eq_true (by omega); rw [e, Bool.true_and])
          | (have e : decide ((30 : Int) < b) = false := decide_eq_false (by omega); rw [e, Bool.false_and, Bool.or_false])
    case rest =>
    obtain ⟨rfl, hwc⟩ := hcut
    have h := hwc.symm
    subst h
    cases bz with
    | true =>
      have hz := HBZ.out
      have HR := Lib.hid (K2.out trivial (by simp only [Bool.or_eq_true, Bool.and_eq_true, decide_eq_true_eq, Bool.not_eq_true'] at hz; rcases hz with hz | ⟨hz, hl⟩; exact .inl (by omega); exact .inr ⟨by omega, hl⟩))
      clear hz K1 K2 K3
      go_wp2_with fail
      go_ret3
      rw [HR.out]
      exact ⟨_, _, rfl, Is.nil64 _, Is.nil64 _, HRC.out, HKC.out⟩
    | false =>
      have hz := HBZ.out
      have hk := K3.out trivial (by simp only [Bool.or_eq_false_iff, Bool.and_eq_false_iff, decide_eq_false_iff_not, Bool.not_eq_false'] at hz; cases large <;> simp_all <;> omega)
      have HK := Lib.hid hk
      clear hz hk K1 K2 K3
      have HM : (Instr.makeSlice 38 (.int .i64 19) (.int .i64 19)).run Tryz.prog wc = .ok (.slice (some ⟨wc.heap.size, 0, none⟩) 19 19) (wc.alloc (.cells (madeCells #[.int .i64 0] 19) 3)) := run_make_intsC wc 19 19 (Nat.le_refl _) (by decide)
      have hO := OwnI.made wc 19 (by decide)
      have hK := (Keep.refl [] wc).alloc (.cells (madeCells #[.int .i64 0] 19) 3)
      obtain ⟨g, hg⟩ : ∃ g, wc.heap.size = g := ⟨_, rfl⟩
      have hgl : w.heap.size ≤ g := by have := HKC.out.size; omega
      have HGL := Lib.hid hgl
      rw [hg] at HM hO
      obtain ⟨wd, hwd⟩ : ∃ wd, wc.alloc (.cells (madeCells #[.int .i64 0] 19) 3) = wd := ⟨_, rfl⟩
      have hds : g < wd.heap.size := by rw [← hwd, ← hg]; exact (Blk.new wc _ _).lt
      rw [hwd] at HM hO hK
      have HRD : Hid (Rr wd q v s3) := HRC.out.keep hK (by simp) (by simp)
      have HKD : Hid (Keep [q] w wd) := HKC.out.trans hK (by simp)
      have HO := Lib.hid hO
      have HOR := Lib.hid (rorder17_c wd)
      have HDS := Lib.hid hds
      clear hwd hO hK hg hgl HRC HKC hwc c2 hds
      go_wp2_with fail
      refine HOR.out.mono ?_; rintro e we ⟨qo, rfl, hIO, hqo, ke⟩
      have hgq : g < qo := by have := HDS.out; omega
      have HRE : Hid (Rr we q v s3) := HRD.out.keep ke (by simp) (by simp)
      have HKE : Hid (Keep [q] w we) := HKD.out.trans ke (by simp)
      have HOE : Hid (OwnI we (.slice (some ⟨g, 0, none⟩) 19 19) (List.replicate 19 0)) := HO.out.keep ke (by simp)
      have HIO := Lib.hid hIO
      have HGQ := Lib.hid hgq
      clear HRD HKD HO HOR HDS hIO hqo ke hgq HM
      go_wp2_with fail
      go_loopw [12] (fun iv wr => ∃ k : Nat, k ≤ n ∧ iv = .int .i64 k ∧ Hid (Rr wr q v (th17 s3 k).2) ∧ Hid (OwnI wr (.slice (some ⟨g, 0, none⟩) 19 19) (th17 s3 k).1) ∧ Hid (Is .i64 wr (.slice (some ⟨qo, 0, none⟩) 19 19) ordI) ∧ Hid (Keep [q] w wr)) (fun iv _ => n - (intOf iv).toNat)
      case atStart => exact ⟨0, Nat.zero_le _, rfl, HRE, HOE, HIO, HKE⟩
      case round =>
        clear HRE HOE HIO HKE
        obtain ⟨k, hk, rfl, HR, HO, HI, HKW⟩ := hrel
        have hn19 := HAB.out.2.2.2.2
        by_cases hlt : k < n
        · have hk19 : k < 19 := by omega
          obtain ⟨bb, off, cp, hv, c1⟩ := HI.out.at k (by exact hk19)
          simp only [Value.slice.injEq, Option.some.injEq, Addr.mk.injEq] at hv
          obtain ⟨⟨rfl, rfl, -⟩, -, rfl⟩ := hv
          obtain ⟨y, hy⟩ : ∃ y, ordD.getD k 0 = y := ⟨_, rfl⟩
          have hy19 : y < 19 := by rw [← hy]; exact (ordI_at ⟨k, hk19⟩).2
          have hc : ordI[k] = (y : Int) := by
            have := (ordI_at ⟨k, hk19⟩).1
            rw [List.getD_eq_getElem?_getD, List.getElem?_eq_getElem (by exact hk19)] at this
            rw [← hy]; exact this
          rw [hc] at c1
          have hth : th17 s3 (k + 1) = ((th17 s3 k).1.set y (((th17 s3 k).2.bits 3).1 : Int), ((th17 s3 k).2.bits 3).2) := by rw [th17, hy]
          have hx8 := bits_lt3 (th17 s3 k).2
          have HB := Lib.hid (fun wx (h : Rr wx q v (th17 s3 k).2) => rbits_c wx q v (th17 s3 k).2 3 h)
          obtain ⟨⟨Tk, sk⟩, htk⟩ : ∃ x, th17 s3 k = x := ⟨_, rfl⟩
          have hlen : Tk.length = 19 := by have := th17_len s3 k; rw [htk] at this; exact this
          rw [htk] at hth hx8 HB HR HO
          dsimp only at hth hx8 HB HR HO
          obtain ⟨⟨x, sn⟩, hbx⟩ : ∃ z, sk.bits 3 = z := ⟨_, rfl⟩
          rw [hbx] at hth hx8 HB
          dsimp only at hth hx8 HB
          have HTH := Lib.hid hth
          have HLEN := Lib.hid hlen
          have hwx : IntKind.i64.wrap (x : Int) = x := by rw [IntKind.wrap_i64]; omega
          have wfx : (Lit.int .i64 (x : Int)).wf = true := by simp [Lit.wf, IntKind.min, IntKind.max, IntKind.bits, IntKind.signed]; omega
          have WFX := Lib.hid wfx
          have hwk : IntKind.i64.wrap ((k : Int) + 1) = ((k + 1 : Nat) : Int) := by rw [IntKind.wrap_i64]; omega
          have hgy := HGL.out
          have hqg : q < g := by have := HQ.out; omega
          have HQG := Lib.hid hqg
          clear hy hc hth hbx htk hx8 hlen wfx hgy hqg hn19
          rw [Nat.zero_add] at c1
          go_wp2_with fail
          have HD : Hid (Rr wr.drew q v sk) := HR.out.keep (Keep.refl [] wr).drew (by simp) (by simp)
          have HDB := Lib.hid (HB.out _ HD.out)
          have KD : Keep [] wr wr.drew := (Keep.refl [] wr).drew
          have HCELL : ∀ wx, Keep [q] wr.drew wx → wx.cell? ⟨g, y, none⟩ = some (.int .i64 (zn Tk y)) ∧ wx.frozen? ⟨g, y, none⟩ = false ∧ wx.cell? ⟨qo, k, none⟩ = some (.int .i64 (y : Int)) := fun wx hk => by
            have ho := (HO.out.keep KD (by simp)).keep hk (fun b hb hm => by simp [Value.ownBlock] at hb hm; have := HQG.out; omega)
            exact ⟨ho.cell y (by rw [HLEN.out]; exact hy19), ho.free y, hk.cell (KD.cell c1 (by simp)) (by have := HQG.out; have := HGQ.out; simp; omega)⟩
          have HCE := Lib.hid HCELL
          have hy19i : (y : Int) < 19 := by omega
          have hk19i : (k : Int) < 19 := by omega
          clear HCELL
          go_region_with (first | (go_at_call 49; (refine HDB.out.mono ?_); (rintro e w2 ⟨rfl, hr2, k2⟩); (obtain ⟨d1, d2, d3⟩ := HCE.out w2 k2)))
          all_goals
            go_wp2_with fail
            have HFIN : Hid (Rr (w2.setCell ⟨g, y, none⟩ (.int .i64 x)) q v (th17 s3 (k + 1)).2 ∧ OwnI (w2.setCell ⟨g, y, none⟩ (.int .i64 x)) (.slice (some ⟨g, 0, none⟩) 19 19) (th17 s3 (k + 1)).1 ∧ Is .i64 (w2.setCell ⟨g, y, none⟩ (.int .i64 x)) (.slice (some ⟨qo, 0, none⟩) 19 19) ordI ∧ Keep [q] w (w2.setCell ⟨g, y, none⟩ (.int .i64 x))) := by
              have kg : Keep [g] w2 (w2.setCell ⟨g, y, none⟩ (.int .i64 x)) := (Keep.refl [g] w2).setCell (.inl (by simp)) _
              have hqg := HQG.out
              have hgq := HGQ.out
              have hgl := HGL.out
              have hsn : sn.l = s.l := by have := th17_l s3 (k + 1); rw [HTH.out] at this; exact this.trans HL3.out
              refine ⟨?_, ?_, ?_, ?_⟩
              · rw [HTH.out]
                exact hr2.keep kg (by simp; omega) (fun hl b hb => by have := HVL.out (by rw [← hsn]; exact hl) b hb; simp; omega)
              · rw [HTH.out]
                have ho := (HO.out.keep KD (by simp)).keep k2 (fun b hb hm => by simp [Value.ownBlock] at hb hm; omega)
                exact ho.store y x WFX.out
              · exact ((HI.out.keep KD (by simp)).keep k2 (fun b hb hm => by simp [Value.ownBlock] at hb hm; omega)).keep kg (fun b hb hm => by simp [Value.ownBlock] at hb hm; omega)
              · exact ((HKW.out.trans KD (by simp)).trans k2 (fun _ h => .inl h)).setCell (.inr hgl) _
            go_roundw
            case rel => exact ⟨k + 1, by omega, by first | rfl | simp, HFIN.out.1, HFIN.out.2.1, HFIN.out.2.2.1, HFIN.out.2.2.2⟩
            case measure => simp [intOf]; omega
        · obtain rfl : k = n := by omega
          have h4 := H4.out
          rw [h4] at HR HO
          have HR4 : Hid (Rr wr q v s4) := HR.out
          have HO4 : Hid (OwnI wr (.slice (some ⟨g, 0, none⟩) 19 19) T) := HO.out
          have hlen : T.length = 19 := by have := th17_len s3 k; rw [h4] at this; exact this
          have HLEN := Lib.hid hlen
          have hE4 := HR4.out.E
          have c2 : wr.cell? ⟨q, 2, none⟩ = some (.int .i64 s4.err) := HR4.out.1.cell 2 _ rfl
          obtain ⟨E4, hE4'⟩ : ∃ E4, s4.err = E4 := ⟨_, rfl⟩
          rw [hE4'] at c2 hE4
          rw [hE4] at HK
          clear h4 hlen hE4 hE4' HR HO HI hlt hn19 hk w3 w6
          by_cases g4 : E4 = 0
          · subst g4
            have HCH := Lib.hid (refcheck_c wr _ T HO4.out.is)
            by_cases gc : chk T = 1
            · obtain ⟨m1, m2⟩ := chk_one gc
              have hwe : werr T = 0 := by unfold werr; rw [gc]; rfl
              have HL16 : Hid (∀ x ∈ Ln T, x ≤ 16) := may_Ln m1
              have HWT : Hid (wt (Ln T) ≤ 65536) := by unfold Hid; omega
              have HWO := Lib.hid (fun wx (h : Is .i64 wx (.slice (some ⟨g, 0, none⟩) 19 19) T) => refwords_ok wx _ T h hwe)
              have hk := (HK.out.2 rfl).2 gc
              have HK2 := Lib.hid hk
              rw [gc] at HCH
              clear gc m1 m2 hwe hk HK
              go_wp2_with fail
              refine HCH.out.mono ?_; rintro e w5 ⟨rfl, n5, rfl⟩
              have HW := Lib.hid (HWO.out (wr.drewN n5) (HO4.out.is.keep ((Keep.refl [] wr).drewN n5) (by simp)))
              have HR5 : Hid (Rr (wr.drewN n5) q v s4) := HR4.out.drewN n5
              have HK5 : Hid (Keep [q] w (wr.drewN n5)) := HKW.out.drewN n5
              clear HCH HWO HR4 HKW HO4 c2
              generalize wr.drewN n5 = w5 at *
              go_wp2_with fail
              refine HW.out.mono ?_; rintro e w6 ⟨vw, rfl, hcd, k6, hbw⟩
              have HR6 : Hid (Rr w6 q v s4) := HR5.out.keep k6 (by simp) (by simp)
              have HK6 : Hid (Keep [q] w w6) := HK5.out.trans k6 (by simp)
              obtain ⟨a1, a2, a3, a4, a5⟩ := HAB.out
              have hll := rlists17_c w6 q v vw s4 (Ln T) (a + b) HL16.out HWT.out (by rw [Ln_length, HLEN.out]; decide) (by omega) hcd (fun x hx => by have := hbw x hx; have := HK5.out.size; have := HQ.out; omega) HR6.out
              rw [H5.out] at hll
              dsimp only at hll
              have hal : Hid (er = 0 → al.length = a + b) := fun h0 => by have := ls17_len (Ln T) (a + b) (a + b + 1) [] s4 (by simp) (by rw [H5.out]; exact h0); rw [H5.out] at this; exact this
              obtain ⟨ab, hab⟩ : ∃ ab, a + b = ab := ⟨_, rfl⟩
              rw [hab] at hll
              have hw9 : IntKind.i64.wrap ((a : Int) + (b : Int)) = (ab : Int) := by rw [IntKind.wrap_i64]; omega
              have HLL := Lib.hid hll
              have HABB := Lib.hid hab
              clear hll hab HW HR5 HK5 hcd k6 hbw HR6 a1 a2 a3 a4 a5
              go_wp2_with fail
              refine HLL.out.mono ?_; rintro e w7 ⟨va, rfl, hoa, hr7, k7, hb7⟩
              have HR7 := Lib.hid hr7
              have HK7 : Hid (Keep [q] w w7) := HK6.out.trans k7 (fun _ h => .inl h)
              have HI7 := Lib.hid hoa.is
              clear HLL hoa hr7 k7 hb7 HK6
              by_cases ge : er = 0
              · subst ge
                have halen := hal.out rfl
                have HR2 := Lib.hid (HK2.out.2 rfl)
                clear HK2
                obtain ⟨v1, e1, i1, -⟩ := HI7.out.upto a (a : Int) rfl (by omega)
                obtain ⟨v2, e2, i2, -⟩ := HI7.out.from a (a : Int) rfl (by omega)
                have HI1 := Lib.hid i1; have HI2 := Lib.hid i2
                have HRI := Lib.hid (rright17_c w7.drew v1 v2 _ _ large (HI1.out.keep (Keep.refl [] w7).drew (by simp)) (HI2.out.keep (Keep.refl [] w7).drew (by simp)))
                obtain ⟨bz2, hbz2⟩ : ∃ z, right17 (al.take a) (al.drop a) large = z := ⟨_, rfl⟩
                rw [hbz2] at HRI HR2
                clear i1 i2 hbz2 halen hal
                have HKD : Hid (Keep [] w7 w7.drew) := (Keep.refl [] w7).drew
                go_wp2_with fail
                go_still_tail 7, (by kernel_rfl)
                change wpList _ _ _ _ _ w7.drew
                generalize w7.drew = wz at *
                go_wp2_with fail
                refine HRI.out.mono ?_; rintro e w8 ⟨rfl, n8, rfl⟩
                have hkz : Keep [] w7 (wz.drewN n8) := HKD.out.drewN n8
                have HR8 : Hid (Rr (wz.drewN n8) q v s5) := HR7.out.keep hkz (by simp) (by simp)
                have HK8 : Hid (Keep [q] w (wz.drewN n8)) := HK7.out.trans hkz (by simp)
                have HI18 : Hid (Is .i64 (wz.drewN n8) v1 (al.take a)) := HI1.out.keep hkz (by simp)
                have HI28 : Hid (Is .i64 (wz.drewN n8) v2 (al.drop a)) := HI2.out.keep hkz (by simp)
                clear HRI HR7 HK7 HI1 HI2 HI7 hkz HKD
                generalize wz.drewN n8 = w8 at *
                cases bz2 with
                | true =>
                  have HR3 : Hid (R = (al.take a, al.drop a, 0, s5)) := by have := HR2.out; rw [if_neg (by simp)] at this; exact this
                  clear HR2
                  go_wp2_with fail
                  go_quiet (fail)
                  go_wp2_with fail
                  go_ret3
                  rw [HR3.out]
                  exact ⟨_, _, rfl, HI18.out.keep ((Keep.refl [] w8).drewN _) (by simp), HI28.out.keep ((Keep.refl [] w8).drewN _) (by simp), HR8.out.drewN _, HK8.out.drewN _⟩
                | false =>
                  have HR3 : Hid (R = ([], [], 6, s5)) := by have := HR2.out; rw [if_pos rfl] at this; exact this
                  clear HR2
                  go_wp2_with fail
                  go_ret3
                  rw [HR3.out]
                  exact ⟨_, _, rfl, Is.nil64 _, Is.nil64 _, HR8.out, HK8.out⟩
              · have t7 : ((er : Int) != 0) = true := by simp; omega
                have HR2 := Lib.hid (HK2.out.1 ge)
                clear HK2 ge hal
                go_wp2_with fail
                go_ret3
                rw [HR2.out]
                exact ⟨_, _, rfl, Is.nil64 _, Is.nil64 _, HR7.out, HK7.out⟩
            · have HR2 := Lib.hid ((HK.out.2 rfl).1 gc)
              have tc : ((chk T : Int) != 1) = true := by simp; omega
              obtain ⟨ck, hck⟩ : ∃ ck, chk T = ck := ⟨_, rfl⟩
              rw [hck] at HCH tc
              clear HK gc hck
              go_wp2_with fail
              refine HCH.out.mono ?_; rintro e w5 ⟨rfl, n5, rfl⟩
              have HR5 : Hid (Rr (wr.drewN n5) q v s4) := HR4.out.drewN n5
              have HK5 : Hid (Keep [q] w (wr.drewN n5)) := HKW.out.drewN n5
              clear HCH HR4 HKW HO4 c2
              generalize wr.drewN n5 = w5 at *
              go_wp2_with fail
              go_ret3
              rw [HR2.out]
              exact ⟨_, _, rfl, Is.nil64 _, Is.nil64 _, HR5.out, HK5.out⟩
          · have t4 : ((E4 : Int) != 0) = true := by simp; omega
            have HR2 := Lib.hid (HK.out.1 g4)
            clear HK g4
            go_wp2_with fail
            go_quiet (fail)
            go_wp2_with fail
            go_ret3
            rw [HR2.out]
            exact ⟨_, _, rfl, Is.nil64 _, Is.nil64 _, HR4.out.drewN _, HKW.out.drewN _⟩
  · have t1 : ((E3 : Int) != 0) = true := by simp; omega
    have HR := Lib.hid (K1.out g3)
    clear K1 K2 K3 g3
    go_wp2_with fail
    go_quiet (fail)
    go_wp2_with fail
    go_ret3
    rw [HR.out]
    exact ⟨_, _, rfl, Is.nil64 _, Is.nil64 _, HRC.out.drewN _, HKC.out.drewN _⟩
end Go.Proofs.YtokfcgloogdeiaaGreatDoor
namespace Go.Proofs.YtokfcgloogdeiaaGreatDoor
set_option linter.unusedVariables false
set_option linter.unusedSimpArgs false
open Go.ChangeShapes Go.WideShapes Go.ChangeAt Go.RowKit

theorem bits_l15 (r : RS) (n : Int) : (r.bits n).2.l = r.l := by
  unfold RS.bits RS.fail
  repeat' split
  all_goals rfl
def Ob.rr (q : Nat) (v : Value) (s : RS) : Ob := Ob.box q #[v, .int .i64 s.pos, .int .i64 s.err] 68
/-- a reader of these bytes of the old memory -/
def Fr (W : World) (v : Value) (l : List UInt8) (s : RS) : Prop := Bs W v l ∧ s.l = l ∧ s.ok ∧ s.made = true
theorem Fr.E {W : World} {v : Value} {l : List UInt8} {s : RS} (h : Fr W v l s) : s.E = s.err := by simp [RS.E, h.2.2.2]
theorem St.rr {W w : World} {Ps : List Ob} (h : St W w Ps) (i : Nat) {q : Nat} {v : Value} {s : RS} {l : List UInt8} (hi : Ps[i]? = some (Ob.rr q v s)) (hf : Fr W v l s) : Rr w q v s := by
  obtain ⟨h1, h2, h3, h4⟩ := hf
  subst h2
  have := h.own i hi
  exact ⟨h.blk i hi, h1.keep h.kp (by simp), h3, h4, fun hl b hb => by have := h1.lt hl b hb; omega⟩
theorem St.setRr {W w w' : World} {Ps : List Ob} (h : St W w Ps) (i : Nat) {q : Nat} {v : Value} {s s' : RS} {l : List UInt8} (hi : Ps[i]? = some (Ob.rr q v s)) (hf : Fr W v l s) (hr : Rr w' q v s') (hk : Keep [q] w w') (hl : s'.l = s.l) : St W w' (Ps.set i (Ob.rr q v s')) ∧ Fr W v l s' := by
  obtain ⟨bs, ⟨rfl, h1⟩, h2, h3⟩ := h.focus i hi
  exact ⟨h3 w' (Ob.rr q v s') [q] ⟨rfl, hr.1⟩ hk (fun b hb => .inl hb), hf.1, hl.trans hf.2.1, hr.2.2.1, hr.2.2.2.1⟩
theorem st_rbits {W w : World} {Ps : List Ob} (h : St W w Ps) (i : Nat) {q : Nat} {v : Value} {s : RS} {l : List UInt8} (hi : Ps[i]? = some (Ob.rr q v s)) (hf : Fr W v l s) (n : Int) : Calls Tryz.prog 49 #[.pointer (some ⟨q, 0, none⟩), .int .i64 n] w fun e w' =>
    e = .returned (.int .u32 (s.bits n).1) ∧ St W w' (Ps.set i (Ob.rr q v (s.bits n).2)) ∧ Fr W v l (s.bits n).2 := by
  refine (rbits_c w q v s n (h.rr i hi hf)).mono ?_
  rintro e w' ⟨he, hr, hk⟩
  exact ⟨he, h.setRr i hi hf hr hk (bits_l15 s n)⟩
theorem st_rleft {W w : World} {Ps : List Ob} (h : St W w Ps) (i : Nat) {q : Nat} {v : Value} {s : RS} {l : List UInt8} (hi : Ps[i]? = some (Ob.rr q v s)) (hf : Fr W v l s) : Calls Tryz.prog 28 #[.pointer (some ⟨q, 0, none⟩)] w fun e w' => e = .returned (.int .i64 s.left) ∧ ∃ n, w' = w.drewN n :=
  rleft_c w q v s (h.rr i hi hf)
/-- the reader's cells -/
theorem St.rrCell {W w : World} {Ps : List Ob} (h : St W w Ps) (i : Nat) {q : Nat} {v : Value} {s : RS} (hi : Ps[i]? = some (Ob.rr q v s)) : w.cell? ⟨q, 2, none⟩ = some (.int .i64 s.err) := (h.blk i hi).cell 2 _ rfl
def Ob.rx (x : Nat) (s : HS) : Ob where
  P w bs := ∃ v : Value, bs = x :: v.ownBlock.toList ∧ Rx w x v s
  keep := fun ⟨v, h1, h2⟩ k hb => ⟨v, h1, h2.keep k (hb x (by simp [h1])) (fun b hb' => hb b (by simp [h1, hb']))⟩
  lt := fun {w bs} ⟨v, h1, h2⟩ b hb => by
    subst h1
    rcases List.mem_cons.1 hb with rfl | hb
    · exact h2.1.lt
    · exact h2.2.1.lt b (by simpa using hb)
theorem St.rx {W w : World} {Ps : List Ob} (h : St W w Ps) (i : Nat) {x : Nat} {s : HS} (hi : Ps[i]? = some (Ob.rx x s)) : ∃ v, Rx w x v s := by
  obtain ⟨bs, ⟨v, _, h1⟩, _⟩ := h.get i hi; exact ⟨v, h1⟩
theorem st_rlit {W w : World} {Ps : List Ob} (h : St W w Ps) (i : Nat) {x : Nat} {s : HS} (hi : Ps[i]? = some (Ob.rx x s)) (c : UInt8) (hl : s.b.length + 1 ≤ 140737488355328) : Calls Tryz.prog 70 #[.pointer (some ⟨x, 0, none⟩), .int .u8 c.toNat] w fun e w' => e = .returned (.int .i64 (s.lit c).1) ∧ St W w' (Ps.set i (Ob.rx x (s.lit c).2)) := by
  obtain ⟨bs, ⟨v, rfl, h1⟩, h2, h3⟩ := h.focus i hi
  refine (refhs_lit w x v s c h1 hl).mono ?_
  rintro e w' ⟨v', he, hr, hk, hb⟩
  refine ⟨he, h3 w' _ _ ⟨v', rfl, hr⟩ hk (fun b hb' => ?_)⟩
  rcases List.mem_cons.1 hb' with rfl | hb'
  · exact .inl (by simp)
  · rcases hb b (by simpa using hb') with h | h
    · exact .inl (by simp [h])
    · exact .inr h
theorem st_rcopy {W w : World} {Ps : List Ob} (h : St W w Ps) (i : Nat) {x : Nat} {s : HS} (hi : Ps[i]? = some (Ob.rx x s)) (d n : Int) (hn : n ≤ 9223372036854775807) (hl : (s.b.length : Int) + (if (s.most : Int) - s.b.length < n then 0 else max 0 n) ≤ 140737488355000) : Calls Tryz.prog 86 #[.pointer (some ⟨x, 0, none⟩), .int .i64 d, .int .i64 n] w fun e w' => e = .returned (.int .i64 (s.copy d n).1) ∧ St W w' (Ps.set i (Ob.rx x (s.copy d n).2)) := by
  obtain ⟨bs, ⟨v, rfl, h1⟩, h2, h3⟩ := h.focus i hi
  refine (refhs_copy w x v s d n h1 hn hl).mono ?_
  rintro e w' ⟨v', he, hr, hk, hb⟩
  refine ⟨he, h3 w' _ _ ⟨v', rfl, hr⟩ hk (fun b hb' => ?_)⟩
  rcases List.mem_cons.1 hb' with rfl | hb'
  · exact .inl (by simp)
  · rcases hb b (by simpa using hb') with h | h
    · exact .inl (by simp [h])
    · exact .inr h
def Ob.cds (v : Value) (L : List Nat) : Ob where
  P w bs := bs = v.ownBlock.toList ∧ Cds6 w v L ∧ ∀ b, v.ownBlock = some b → b < w.heap.size
  keep := fun ⟨h1, h2, h3⟩ k hb => ⟨h1, Sts.keep h2 k (fun b hb' => hb b (by rw [h1]; simp [hb'])), fun b hb' => by have := h3 b hb'; have := k.size; omega⟩
  lt := fun {w bs} ⟨h1, h2, h3⟩ b hb => by subst h1; exact h3 b (by simpa using hb)
theorem Cds6.lt {w : World} {v : Value} {L : List Nat} (h : Cds6 w v L) (h0 : L ≠ [] ∨ v = .slice none 0 0) : ∀ b, v.ownBlock = some b → b < w.heap.size := by
  intro b hb
  rcases h0 with h0 | h0
  · have hl : 0 < L.length := by cases L; exact absurd rfl h0; simp
    obtain ⟨b', off, cap, rfl, c1, _⟩ := h.at 0 hl
    have : b' = b := by simpa [Value.ownBlock] using hb
    subst this
    exact World.block_lt_of_cell? w _ c1
  · subst h0; simp [Value.ownBlock] at hb
theorem St.cds {W w : World} {Ps : List Ob} (h : St W w Ps) (i : Nat) {v : Value} {L : List Nat} (hi : Ps[i]? = some (Ob.cds v L)) : Cds6 w v L ∧ ∀ b, v.ownBlock = some b → W.heap.size ≤ b := by
  obtain ⟨bs, ⟨rfl, h1, _⟩, h2⟩ := h.get i hi; exact ⟨h1, fun b hb => h2 b (by simpa using hb)⟩
end Go.Proofs.YtokfcgloogdeiaaGreatDoor
namespace Go.Proofs.YtokfcgloogdeiaaGreatDoor
set_option linter.unusedVariables false
set_option linter.unusedSimpArgs false
open Go.ChangeShapes Go.WideShapes Go.ChangeAt Go.RowKit

def Ob.rw (q : Nat) (bits : List Bool) : Ob where
  P w bs := ∃ v : Value, bs = q :: v.ownBlock.toList ∧ Rw w q v bits
  keep := fun ⟨v, h1, h2⟩ k hb => ⟨v, h1, h2.keep k (hb q (by simp [h1])) (fun b hb' => hb b (by simp [h1, hb']))⟩
  lt := fun {w bs} ⟨v, h1, h2⟩ b hb => by
    subst h1
    rcases List.mem_cons.1 hb with rfl | hb
    · exact h2.1.lt
    · exact h2.2.1.lt b (by simpa using hb)
theorem toBits_b8 (l : List UInt8) : toBits l = b8 l := by
  induction l with
  | nil => rfl
  | cons x l ih => rw [b8_cons, ← ih]; rfl
theorem b8_length (l : List UInt8) : (b8 l).length = 8 * l.length := by rw [← toBits_b8, toBits_length]
theorem pad8_same (bs : List Bool) (h : bs.length % 8 = 0) : pad8 bs = bs := by
  unfold pad8; rw [h]; simp
theorem st_rput {W w : World} {Ps : List Ob} (h : St W w Ps) (i : Nat) {q : Nat} {bits : List Bool} (hi : Ps[i]? = some (Ob.rw q bits)) (y n : Nat) (hy : y < 4294967296) (hn : n ≤ 32) (hl : bits.length ≤ 140737488355000) : Calls Tryz.prog 29 #[.pointer (some ⟨q, 0, none⟩), .int .u32 y, .int .i64 n] w fun e w' => e = .returned (.tuple #[]) ∧ St W w' (Ps.set i (Ob.rw q (bits ++ bitsOf y n))) := by
  obtain ⟨bs, ⟨v, rfl, h1⟩, h2, h3⟩ := h.focus i hi
  refine (rput_c w q v bits y n hy h1 hl).mono ?_
  rintro e w' ⟨he, v', hw, hk, hv⟩
  have hc : cln (n : Nat) = n := by unfold cln; omega
  rw [hc] at hw
  refine ⟨he, h3 w' _ _ ⟨v', rfl, hw⟩ hk (fun b hb => ?_)⟩
  rcases List.mem_cons.1 hb with rfl | hb
  · exact .inl (by simp)
  · rcases hv b (by simpa using hb) with h | h
    · exact .inl (by simp [h])
    · exact .inr h
theorem st_rputbytes {W w : World} {Ps : List Ob} (h : St W w Ps) (i j : Nat) (hij : i ≠ j) {q : Nat} {bits : List Bool} {v2 : Value} {l2 : List UInt8} (hi : Ps[i]? = some (Ob.rw q bits)) (hj : Ps[j]? = some (Ob.bytes v2 l2)) (h8 : bits.length % 8 = 0) (hl : bits.length + 8 * l2.length ≤ 140737488353000) : Calls Tryz.prog 31 #[.pointer (some ⟨q, 0, none⟩), v2] w fun e w' => e = .returned (.tuple #[]) ∧ St W w' (Ps.set i (Ob.rw q (bits ++ b8 l2))) := by
  obtain ⟨bs, cs, ⟨v, rfl, h1⟩, ⟨rfl, h2⟩, hap, _, h3⟩ := h.apart i j hij hi hj
  refine (rputbytes_c w q v bits v2 l2 h1 h2 (fun hne b hb => ?_) hl).mono ?_
  · have hin : b ∈ (if l2 = [] then [] else v2.ownBlock.toList) := by rw [if_neg hne]; simp [hb]
    refine ⟨fun e => hap q (by simp) (by rw [← e]; exact hin), fun e => hap b (by simp [e]) hin⟩
  · rintro e w' ⟨he, v', hw, hk, hv⟩
    rw [pad8_same bits h8, toBits_b8] at hw
    refine ⟨he, h3 w' _ _ ⟨v', rfl, hw⟩ hk (fun b hb => ?_)⟩
    rcases List.mem_cons.1 hb with rfl | hb
    · exact .inl (by simp)
    · rcases hv b (by simpa using hb) with h | h
      · exact .inl (by simp [h])
      · exact .inr h
theorem st_rwbytes {W w : World} {Ps : List Ob} (h : St W w Ps) (i : Nat) {q : Nat} {bits : List Bool} (hi : Ps[i]? = some (Ob.rw q bits)) (hl : bits.length ≤ 140737488353000) : Calls Tryz.prog 37 #[.pointer (some ⟨q, 0, none⟩)] w fun e w' => ∃ v', e = .returned v' ∧ OwnB w' v' (ofBits bits) ∧ Keep [] w w' ∧ ∀ b, v'.ownBlock = some b → w.heap.size ≤ b := by
  obtain ⟨bs, ⟨v, _, h1⟩, _⟩ := h.get i hi
  refine (rwbytes_c w q v bits h1 hl).mono ?_
  rintro e w' ⟨v', l', he, ho, hb, hk, hf⟩
  have : l' = ofBits bits := toBits_inj _ _ (by rw [hb, toBits_ofBits])
  subst this
  exact ⟨v', he, ho, hk, hf⟩
end Go.Proofs.YtokfcgloogdeiaaGreatDoor
namespace Go.Proofs.YtokfcgloogdeiaaGreatDoor
set_option linter.unusedVariables false
set_option linter.unusedSimpArgs false
set_option maxRecDepth 100000
open Go.ChangeShapes Go.WideShapes Go.ChangeAt Go.RowKit

/-- a slice of numbers that isn't empty -/
def Ob.is (v : Value) (l : List Int) : Ob where
  P w bs := bs = v.ownBlock.toList ∧ Is .i64 w v l ∧ l ≠ []
  keep := fun ⟨h1, h2, h3⟩ k hb => ⟨h1, h2.keep k (fun b hb' => hb b (by rw [h1]; simp [hb'])), h3⟩
  lt := fun {w bs} ⟨h1, h2, h3⟩ b hb => by
    subst h1
    obtain ⟨bb, off, cp, hv, hc⟩ := h2.at 0 (List.length_pos_iff.2 h3)
    rw [hv] at hb
    simp [Value.ownBlock] at hb
    subst hb
    exact World.block_lt_of_cell? w _ hc
/-- a row of numbers of one's own -/
def Ob.rowI (v : Value) (l : List Int) : Ob where
  P w bs := bs = v.ownBlock.toList ∧ OwnI w v l
  keep := fun ⟨h1, h2⟩ k hb => ⟨h1, h2.keep k (fun b hb' => hb b (by rw [h1]; simp [hb']))⟩
  lt := fun {w bs} ⟨h1, h2⟩ b hb => by subst h1; exact h2.lt b (by simpa using hb)
theorem St.is {W w : World} {Ps : List Ob} (h : St W w Ps) (i : Nat) {v : Value} {l : List Int} (hi : Ps[i]? = some (Ob.is v l)) : Is .i64 w v l := by
  obtain ⟨bs, ⟨_, h1, _⟩, _⟩ := h.get i hi; exact h1
theorem St.rowI {W w : World} {Ps : List Ob} (h : St W w Ps) (i : Nat) {v : Value} {l : List Int} (hi : Ps[i]? = some (Ob.rowI v l)) : OwnI w v l := by
  obtain ⟨bs, ⟨_, h1⟩, _⟩ := h.get i hi; exact h1
theorem St.setRowI {W w : World} {Ps : List Ob} (h : St W w Ps) (i : Nat) {g n cap : Nat} {l : List Int} (hi : Ps[i]? = some (Ob.rowI (.slice (some ⟨g, 0, none⟩) n cap) l)) (j : Nat) (x : Int) (hx : (Lit.int .i64 x).wf = true) : St W (w.setCell ⟨g, j, none⟩ (.int .i64 x)) (Ps.set i (Ob.rowI (.slice (some ⟨g, 0, none⟩) n cap) (l.set j x))) := by
  obtain ⟨bs, ⟨rfl, h1⟩, h2, h3⟩ := h.focus i hi
  exact h3 _ _ [g] ⟨rfl, h1.store j x hx⟩ ((Keep.refl _ w).setCell (.inl (by simp [Value.ownBlock])) _) (fun b hb => .inl (by simpa [Value.ownBlock] using hb))
theorem hd3_succ (T : List Int) (n : Nat) : hd3 T (n + 1) = hd3 T n ++ bitsOf (T.getD (ordD.getD n 0) 0).toNat 3 := by
  unfold hd3; rw [List.range_succ, List.flatMap_append]; simp
theorem set3_skip (T : List Int) (k y : Nat) (hy : y < 19) (hk : ordD.getD k 0 = y) (h0 : T.getD y 0 = 0) : set3 T (k + 1) = set3 T k := by
  rw [set3, hk, h0]
  apply List.ext_getElem?
  intro j
  by_cases e : y = j
  · subst e
    rw [List.getElem?_set_self (by rw [set3_len]; exact hy)]
    have := set3_at T k y hy
    rw [h0] at this
    have h2 : (set3 T k).getD y 0 = 0 := by rw [this]; split <;> rfl
    rw [List.getD_eq_getElem?_getD, List.getElem?_eq_getElem (by rw [set3_len]; exact hy)] at h2
    rw [List.getElem?_eq_getElem (by rw [set3_len]; exact hy)]
    exact congrArg some h2.symm
  · rw [List.getElem?_set_ne e]
theorem plT_at (y : Nat) (h : y < 19) : plT.getD y 0 = if y < 16 then 4 else 0 := by
  have : ∀ y : Fin 19, plT.getD y.val 0 = if y.val < 16 then 4 else 0 := by decide
  exact this ⟨y, h⟩
theorem plT_werr : werr plT = 0 := by decide +kernel
/-- words of a canonical code -/
def Ob.cds4 (v : Value) (L : List Nat) : Ob where
  P w bs := bs = v.ownBlock.toList ∧ Cds w v L ∧ L ≠ []
  keep := fun ⟨h1, h2, h3⟩ k hb => ⟨h1, h2.keep k (fun b hb' => hb b (by rw [h1]; simp [hb'])), h3⟩
  lt := fun {w bs} ⟨h1, h2, h3⟩ b hb => by
    subst h1
    obtain ⟨bb, off, cp, hv, hc, _⟩ := h2.at 0 (List.length_pos_iff.2 h3)
    rw [hv] at hb
    simp [Value.ownBlock] at hb
    subst hb
    exact World.block_lt_of_cell? w _ hc
theorem St.cds4 {W w : World} {Ps : List Ob} (h : St W w Ps) (i : Nat) {v : Value} {L : List Nat} (hi : Ps[i]? = some (Ob.cds4 v L)) : Cds w v L := by
  obtain ⟨bs, ⟨_, h1, _⟩, _⟩ := h.get i hi; exact h1
/-- a length's plain word -/
def pl17 (z : Int) : List Bool := bitsOf (code (Ln plT) z.toNat) 4
theorem pl17_len (l : List Int) : (l.flatMap pl17).length = 4 * l.length := by
  induction l with
  | nil => rfl
  | cons z l ih => rw [List.flatMap_cons, List.length_append, ih, pl17, bitsOf_length, List.length_cons]; omega
theorem pl17_take (l : List Int) (k : Nat) (h : k < l.length) : (l.take (k + 1)).flatMap pl17 = (l.take k).flatMap pl17 ++ pl17 l[k] := by
  rw [List.take_succ_eq_append_getElem h, List.flatMap_append]; simp
theorem wb17_plain (lit dist : List Int) (a1 : ∀ z ∈ lit, 0 ≤ z ∧ z ≤ 15) (a2 : ∀ z ∈ dist, 0 ≤ z ∧ z ≤ 15) :
    wb17 lit.length dist.length 19 plT (plTs lit ++ plTs dist) = ((((bitsOf (lit.length - 257) 5 ++ bitsOf (dist.length - 1) 5) ++ bitsOf 15 4) ++ hd3 plT 19) ++ lit.flatMap pl17) ++ dist.flatMap pl17 := by
  have e1 := plTs_bits lit a1
  have e2 := plTs_bits dist a2
  unfold wb17
  rw [List.flatMap_append, e1, e2, ← List.append_assoc]
  rfl
/-- any length's plain word -/
def plg (z : Int) : List Bool := pl17 (clz z)
theorem plg_len (l : List Int) : (l.flatMap plg).length = 4 * l.length := by
  have := pl17_len (l.map clz)
  rw [List.flatMap_map, List.length_map] at this; exact this
theorem plg_take (l : List Int) (k : Nat) (h : k < l.length) : (l.take (k + 1)).flatMap plg = (l.take k).flatMap plg ++ plg l[k] := by
  rw [List.take_succ_eq_append_getElem h, List.flatMap_append]; simp
theorem wb17_plain_g (lit dist : List Int) :
    wb17 lit.length dist.length 19 plT (plTs (lit.map clz) ++ plTs (dist.map clz)) = ((((bitsOf (lit.length - 257) 5 ++ bitsOf (dist.length - 1) 5) ++ bitsOf 15 4) ++ hd3 plT 19) ++ lit.flatMap plg) ++ dist.flatMap plg := by
  have := wb17_plain (lit.map clz) (dist.map clz) (clz_in lit) (clz_in dist)
  rw [List.length_map, List.length_map, List.flatMap_map, List.flatMap_map] at this; exact this
set_option maxHeartbeats 8000000 in
theorem rplain17_g {W w : World} {q : Nat} {bits : List Bool} (h : St W w [Ob.rw q bits]) (v1 v2 : Value) (lit dist : List Int) (h1 : Is .i64 W v1 lit) (h2 : Is .i64 W v2 dist) (hl : 257 ≤ lit.length ∧ lit.length ≤ 300) (hd : 1 ≤ dist.length ∧ dist.length ≤ 60) (hb : bits.length ≤ 1000000) : Calls Tryz.prog 32 #[.pointer (some ⟨q, 0, none⟩), v1, v2] w fun e w' =>
    e = .returned (.tuple #[]) ∧ St W w' [Ob.rw q (bits ++ wb17 lit.length dist.length 19 plT (plTs (lit.map clz) ++ plTs (dist.map clz)))] := by
  rw [wb17_plain_g lit dist]
  obtain ⟨b4, hb4⟩ : ∃ b4, (((bits ++ bitsOf (lit.length - 257) 5) ++ bitsOf (dist.length - 1) 5) ++ bitsOf 15 4) ++ hd3 plT 19 = b4 := ⟨_, rfl⟩
  have hbe : bits ++ (((((bitsOf (lit.length - 257) 5 ++ bitsOf (dist.length - 1) 5) ++ bitsOf 15 4) ++ hd3 plT 19) ++ lit.flatMap plg) ++ dist.flatMap plg) = (b4 ++ lit.flatMap plg) ++ dist.flatMap plg := by
    rw [← hb4]; simp only [List.append_assoc]
  rw [hbe]
  have hb4l : b4.length ≤ 1000100 := by rw [← hb4]; simp only [List.length_append, bitsOf_length, hd3_length]; omega
  obtain ⟨s1, cp1, rfl, q1⟩ := h1.sh
  obtain ⟨s2, cp2, rfl, q2⟩ := h2.sh
  obtain ⟨n1, hn1⟩ : ∃ n1, lit.length - 257 = n1 := ⟨_, rfl⟩
  obtain ⟨n2, hn2⟩ : ∃ n2, dist.length - 1 = n2 := ⟨_, rfl⟩
  rw [hn1, hn2] at hb4
  have w1 : IntKind.i64.wrap ((lit.length : Int) - 257) = (n1 : Int) := by rw [IntKind.wrap_i64]; omega
  have w2 : IntKind.i64.wrap ((dist.length : Int) - 1) = (n2 : Int) := by rw [IntKind.wrap_i64]; omega
  have u1 : IntKind.u32.wrap (n1 : Int) = (n1 : Int) := by rw [IntKind.wrap_u32]; omega
  have u2 : IntKind.u32.wrap (n2 : Int) = (n2 : Int) := by rw [IntKind.wrap_u32]; omega
  have hn1' : n1 ≤ 43 := by omega
  have hn2' : n2 ≤ 59 := by omega
  have HP1 := Lib.hid (st_rput h 0 rfl n1 5 (by omega) (by decide) (by omega))
  have HB4 := Lib.hid hb4; have HB4L := Lib.hid hb4l; have HI1 := Lib.hid h1; have HI2 := Lib.hid h2; have HBL := Lib.hid hb
  have HLL : Hid (lit.length ≤ 300 ∧ dist.length ≤ 60 ∧ n1 ≤ 43 ∧ n2 ≤ 59) := ⟨hl.2, hd.2, hn1', hn2'⟩
  clear h h1 h2 hb4 hb4l hbe hn1 hn2 hb hl hd hn1' hn2'
  go_enter Tryz.func32, Tryz.ntmps32
  go_wp2_with fail
  refine HP1.out.mono ?_; rintro e wa ⟨rfl, hS⟩
  have HP2 := Lib.hid (st_rput hS 0 rfl n2 5 (by have := HLL.out; omega) (by decide) (by have := HBL.out; simp only [List.length_append, bitsOf_length]; omega))
  clear HP1 hS w1 u1
  go_wp2_with fail
  refine HP2.out.mono ?_; rintro e wb ⟨rfl, hS⟩
  have HP3 := Lib.hid (st_rput hS 0 rfl 15 4 (by decide) (by decide) (by have := HBL.out; simp only [List.length_append, bitsOf_length]; omega))
  clear HP2 hS w2 u2
  go_wp2_with fail
  refine HP3.out.mono ?_; rintro e wc ⟨rfl, hS⟩
  obtain ⟨b3, hb3⟩ : ∃ b3, ((bits ++ bitsOf n1 5) ++ bitsOf n2 5) ++ bitsOf 15 4 = b3 := ⟨_, rfl⟩
  have hS3 : St W wc [Ob.rw q b3] := by rw [← hb3]; exact hS
  have hb3l : b3.length ≤ 1000014 := by rw [← hb3]; have := HBL.out; simp only [List.length_append, bitsOf_length]; omega
  have HB4' : Hid (b3 ++ hd3 plT 19 = b4) := by have := HB4.out; rw [hb3] at this; exact this
  have HS3 := Lib.hid hS3; have HB3L := Lib.hid hb3l
  have HOR := Lib.hid (rorder17_c wc)
  clear HP3 hS hS3 hb3 hb3l HB4
  go_wp2_with fail
  refine HOR.out.mono ?_; rintro e wd ⟨qo, rfl, hIO, hqo, kd⟩
  have HS4 : Hid (St W wd [Ob.rw q b3, Ob.is (.slice (some ⟨qo, 0, none⟩) 19 19) ordI]) := HS3.out.push (Ob.is (.slice (some ⟨qo, 0, none⟩) 19 19) ordI) [qo] ⟨rfl, hIO, by simp [ordI]⟩ kd (fun b hb => by simp at hb; omega)
  clear HS3 HOR hIO hqo kd
  have HM : (Instr.makeSlice 38 (.int .i64 19) (.int .i64 19)).run Tryz.prog wd = .ok (.slice (some ⟨wd.heap.size, 0, none⟩) 19 19) (wd.alloc (.cells (madeCells #[.int .i64 0] 19) 3)) := run_make_intsC wd 19 19 (Nat.le_refl _) (by decide)
  have HS5 : Hid (St W (wd.alloc (.cells (madeCells #[.int .i64 0] 19) 3)) [Ob.rw q b3, Ob.is (.slice (some ⟨qo, 0, none⟩) 19 19) ordI, Ob.rowI (.slice (some ⟨wd.heap.size, 0, none⟩) 19 19) (List.replicate 19 0)]) :=
    HS4.out.push (Ob.rowI (.slice (some ⟨wd.heap.size, 0, none⟩) 19 19) (List.replicate 19 0)) [wd.heap.size] ⟨rfl, OwnI.made wd 19 (by decide)⟩ ((Keep.refl [] wd).alloc _) (by simp)
  obtain ⟨we, hwe⟩ : ∃ we, wd.alloc (.cells (madeCells #[.int .i64 0] 19) 3) = we := ⟨_, rfl⟩
  obtain ⟨g, hg⟩ : ∃ g, wd.heap.size = g := ⟨_, rfl⟩
  rw [hwe, hg] at HM HS5
  clear HS4 hwe hg
  go_wp2_with fail
  clear HM
  go_loopw [8] (fun iv wr => ∃ k : Nat, k ≤ 19 ∧ iv = .int .i64 k ∧ Hid (St W wr [Ob.rw q (b3 ++ hd3 plT k), Ob.is (.slice (some ⟨qo, 0, none⟩) 19 19) ordI, Ob.rowI (.slice (some ⟨g, 0, none⟩) 19 19) (set3 plT k)])) (fun iv _ => 19 - (intOf iv).toNat)
  case atStart => exact ⟨0, by omega, rfl, by have := HS5.out; simpa [Hid, hd3, set3] using this⟩
  case round =>
    clear HS5
    obtain ⟨k, hk, rfl, HS⟩ := hrel
    by_cases hlt : k < 19
    · have hk19 : k < 19 := hlt
      obtain ⟨bb, off, cp, hv, c1⟩ := (HS.out.is 1 rfl).at k (by exact hk19)
      simp only [Value.slice.injEq, Option.some.injEq, Addr.mk.injEq] at hv
      obtain ⟨⟨rfl, rfl, -⟩, -, rfl⟩ := hv
      obtain ⟨y, hy⟩ : ∃ y, ordD.getD k 0 = y := ⟨_, rfl⟩
      have hy19 : y < 19 := by rw [← hy]; exact (ordI_at ⟨k, hk19⟩).2
      have hc : ordI[k] = (y : Int) := by
        have := (ordI_at ⟨k, hk19⟩).1
        rw [List.getD_eq_getElem?_getD, List.getElem?_eq_getElem (by exact hk19)] at this
        rw [← hy]; exact this
      rw [hc, Nat.zero_add] at c1
      by_cases h16 : y < 16
      · have hT : plT.getD y 0 = 4 := by rw [plT_at y hy19, if_pos h16]
        have hs3 : (set3 plT k).set y 4 = set3 plT (k + 1) := by rw [set3, hy, hT]
        have hh3 := hd3_succ plT k
        rw [hy, hT] at hh3
        have HH3 : Hid (b3 ++ hd3 plT k ++ bitsOf 4 3 = b3 ++ hd3 plT (k + 1)) := by unfold Hid; rw [hh3, List.append_assoc]; rfl
        have d1 := (HS.out.rowI 2 rfl).cell y (by rw [set3_len]; exact hy19)
        have d2 := (HS.out.rowI 2 rfl).free y
        have HS6 : Hid (St W (wr.setCell ⟨g, y, none⟩ (.int .i64 4)) [Ob.rw q (b3 ++ hd3 plT k), Ob.is (.slice (some ⟨qo, 0, none⟩) 19 19) ordI, Ob.rowI (.slice (some ⟨g, 0, none⟩) 19 19) (set3 plT (k + 1))]) := by
          have := HS.out.setRowI 2 rfl y 4 (by decide)
          rw [hs3] at this
          exact this
        have c2 := (HS6.out.is 1 rfl).at k (by exact hk19)
        obtain ⟨bb2, off2, cp2, hv2, c2⟩ := c2
        simp only [Value.slice.injEq, Option.some.injEq, Addr.mk.injEq] at hv2
        obtain ⟨⟨rfl, rfl, -⟩, -, rfl⟩ := hv2
        rw [hc, Nat.zero_add] at c2
        have c3 := (HS6.out.rowI 2 rfl).cell y (by rw [set3_len]; exact hy19)
        have hz : zn (set3 plT (k + 1)) y = 4 := by
          rw [← hs3]; unfold zn; rw [List.getD_eq_getElem?_getD, List.getElem?_set_self (by rw [set3_len]; exact hy19)]; rfl
        rw [hz] at c3
        have hPB := st_rput HS6.out 0 rfl 4 3 (by decide) (by decide) (by have := HB3L.out; simp only [List.length_append, hd3_length]; omega)
        rw [HH3.out] at hPB
        have HPB := Lib.hid hPB
        have hyi : (y : Int) < 19 := by omega
        have hki : (k : Int) < 19 := by omega
        have ty : decide ((y : Int) < 16) = true := by simp; omega
        have ty' : decide (y < 16) = true := by simp; omega
        have hwk : IntKind.i64.wrap ((k : Int) + 1) = ((k + 1 : Nat) : Int) := by rw [IntKind.wrap_i64]; omega
        clear hT hs3 hh3 HH3 hz hy hc hPB HS hlt h16
        go_wp2_with fail
        refine HPB.out.mono ?_; rintro e w9 ⟨rfl, hS9⟩
        have HS9 := Lib.hid hS9
        clear HPB hS9
        go_wp2_with fail
        go_roundw
        case rel => exact ⟨k + 1, by omega, by first | rfl | simp, HS9.out⟩
        case measure => simp [intOf]; omega
      · have hnop := h16
        clear hnop
        have hT : plT.getD y 0 = 0 := by rw [plT_at y hy19, if_neg h16]
        have hs3 : set3 plT k = set3 plT (k + 1) := (set3_skip plT k y hy19 hy hT).symm
        have hh3 := hd3_succ plT k
        rw [hy, hT] at hh3
        have HH3 : Hid (b3 ++ hd3 plT k ++ bitsOf 0 3 = b3 ++ hd3 plT (k + 1)) := by unfold Hid; rw [hh3, List.append_assoc]; rfl
        have HS6 : Hid (St W wr [Ob.rw q (b3 ++ hd3 plT k), Ob.is (.slice (some ⟨qo, 0, none⟩) 19 19) ordI, Ob.rowI (.slice (some ⟨g, 0, none⟩) 19 19) (set3 plT (k + 1))]) := by
          have := HS.out
          rw [hs3] at this
          exact this
        have c2 := (HS6.out.is 1 rfl).at k (by exact hk19)
        obtain ⟨bb2, off2, cp2, hv2, c2⟩ := c2
        simp only [Value.slice.injEq, Option.some.injEq, Addr.mk.injEq] at hv2
        obtain ⟨⟨rfl, rfl, -⟩, -, rfl⟩ := hv2
        rw [hc, Nat.zero_add] at c2
        have c3 := (HS6.out.rowI 2 rfl).cell y (by rw [set3_len]; exact hy19)
        have hz : zn (set3 plT (k + 1)) y = 0 := by
          have := set3_at plT (k + 1) y hy19
          rw [hT] at this
          unfold zn; rw [this]; split <;> rfl
        rw [hz] at c3
        have hPB := st_rput HS6.out 0 rfl 0 3 (by decide) (by decide) (by have := HB3L.out; simp only [List.length_append, hd3_length]; omega)
        rw [HH3.out] at hPB
        have HPB := Lib.hid hPB
        have hyi : (y : Int) < 19 := by omega
        have hki : (k : Int) < 19 := by omega
        have ty : decide ((y : Int) < 16) = false := by simp; omega
        have ty' : decide (y < 16) = false := by simp; omega
        have hwk : IntKind.i64.wrap ((k : Int) + 1) = ((k + 1 : Nat) : Int) := by rw [IntKind.wrap_i64]; omega
        clear hT hs3 hh3 HH3 hz hy hc hPB HS hlt h16
        go_wp2_with fail
        refine HPB.out.mono ?_; rintro e w9 ⟨rfl, hS9⟩
        have HS9 := Lib.hid hS9
        clear HPB hS9
        go_wp2_with fail
        go_roundw
        case rel => exact ⟨k + 1, by omega, by first | rfl | simp, HS9.out⟩
        case measure => simp [intOf]; omega
    · obtain rfl : k = 19 := by omega
      have hs : set3 plT 19 = plT := set3_all plT 19 rfl (fun i h1 h2 => by omega)
      rw [hs, HB4'.out] at HS
      have HWO := Lib.hid (refwords_ok wr (.slice (some ⟨g, 0, none⟩) 19 19) plT (HS.out.rowI 2 rfl).is plT_werr)
      clear hs hlt hk HB4'
      go_wp2_with fail
      refine HWO.out.mono ?_; rintro e wf ⟨vw, rfl, hcd, kf, hbw⟩
      have HSW : Hid (St W wf [Ob.rw q b4, Ob.is (.slice (some ⟨qo, 0, none⟩) 19 19) ordI, Ob.rowI (.slice (some ⟨g, 0, none⟩) 19 19) plT, Ob.cds4 vw (Ln plT)]) :=
        HS.out.push (Ob.cds4 vw (Ln plT)) vw.ownBlock.toList ⟨rfl, hcd, by simp [Ln, plT]⟩ kf (fun b hb => hbw b (by simpa using hb))
      clear HWO HS hcd kf hbw
      go_wp2_with fail
      go_loopw [11] (fun iv wr => ∃ k : Nat, k ≤ lit.length ∧ iv = .int .i64 k ∧ Hid (St W wr [Ob.rw q (b4 ++ (lit.take k).flatMap plg), Ob.is (.slice (some ⟨qo, 0, none⟩) 19 19) ordI, Ob.rowI (.slice (some ⟨g, 0, none⟩) 19 19) plT, Ob.cds4 vw (Ln plT)])) (fun iv _ => lit.length - (intOf iv).toNat)
      case atStart => exact ⟨0, Nat.zero_le _, rfl, by have := HSW.out; simpa [Hid] using this⟩
      case round =>
        clear HSW
        obtain ⟨k, hk, rfl, HS⟩ := hrel
        by_cases hlt : k < lit.length
        · obtain ⟨bb, off, cp, hv, c1⟩ := (HI1.out.keep HS.out.kp (by simp)).at k hlt
          simp only [Value.slice.injEq] at hv
          obtain ⟨rfl, -, rfl⟩ := hv
          obtain ⟨z, hz⟩ : ∃ z, lit[k] = z := ⟨_, rfl⟩
          have htk := plg_take lit k hlt
          rw [hz] at c1 htk
          obtain ⟨y, hy⟩ : ∃ y : Nat, max 0 (min z 15) = (y : Int) := ⟨(max 0 (min z 15)).toNat, by omega⟩
          have hy16 : y < 16 := by omega
          have hln : (Ln plT).length = 19 := by rw [Ln_length]; rfl
          obtain ⟨wb, wo, wc2, hvw, d1, d2⟩ := (HS.out.cds4 3 rfl).at y (by rw [hln]; omega)
          rw [hln] at hvw
          rw [plT_len y hy16] at d2
          have HWI := Lib.hid (fun wx => within_c z 0 15 wx (by decide))
          rw [hy] at HWI
          have hbits : Hid (b4 ++ (lit.take k).flatMap plg ++ bitsOf (code (Ln plT) y) 4 = b4 ++ (lit.take (k + 1)).flatMap plg) := by
            unfold Hid; rw [htk, List.append_assoc]; unfold plg pl17 clz; rw [hy]; rfl
          have hcl : code (Ln plT) y < 4294967296 := by
            have := code_lt (Ln plT) y; rw [plT_len y hy16] at this; omega
          have hplen := plg_len (lit.take k)
          have hPB := st_rput (HS.out.read ((Keep.refl [] wr).alloc (.cells #[.int .u32 (code (Ln plT) y), .int .i64 4] 106))) 0 rfl (code (Ln plT) y) 4 hcl (by decide) (by have := HB4L.out; have := HLL.out; simp only [List.length_append, List.length_take] at hplen ⊢; omega)
          rw [hbits.out] at hPB
          have HPB := Lib.hid hPB
          have hwk : IntKind.i64.wrap ((k : Int) + 1) = ((k + 1 : Nat) : Int) := by rw [IntKind.wrap_i64]; have := HLL.out; omega
          have hyi : (y : Int) < 19 := by omega
          obtain ⟨cd, hcd⟩ : ∃ cd, code (Ln plT) y = cd := ⟨_, rfl⟩
          rw [hcd] at d1 HPB
          subst hvw
          clear hz hy htk hbits hcl hplen hPB hln hcd
          go_wp2_with fail
          refine (HWI.out _).mono ?_; rintro e w9 ⟨rfl, rfl⟩
          go_wp2_with fail
          refine HPB.out.mono ?_; rintro e w8 ⟨rfl, hS⟩
          have HS8 := Lib.hid hS
          clear HPB hS d1 d2 c1
          go_wp2_with fail
          go_roundw
          case rel => exact ⟨k + 1, by omega, by first | rfl | simp, HS8.out⟩
          case measure => simp [intOf]; omega
        · obtain rfl : k = lit.length := by omega
          rw [List.take_length] at HS
          obtain ⟨b5, hb5⟩ : ∃ b5, b4 ++ lit.flatMap plg = b5 := ⟨_, rfl⟩
          have hb5l : b5.length ≤ 1100000 := by rw [← hb5, List.length_append, plg_len]; have := HB4L.out; have := HLL.out; omega
          rw [hb5] at HS
          have HB5 := Lib.hid hb5
          have HB5L := Lib.hid hb5l
          have HSW := HS
          clear hb5 hb5l HS hlt hk
          go_wp2_with fail
          go_loopw [13] (fun iv wr => ∃ k : Nat, k ≤ dist.length ∧ iv = .int .i64 k ∧ Hid (St W wr [Ob.rw q (b5 ++ (dist.take k).flatMap plg), Ob.is (.slice (some ⟨qo, 0, none⟩) 19 19) ordI, Ob.rowI (.slice (some ⟨g, 0, none⟩) 19 19) plT, Ob.cds4 vw (Ln plT)])) (fun iv _ => dist.length - (intOf iv).toNat)
          case atStart => exact ⟨0, Nat.zero_le _, rfl, by have := HSW.out; simpa [Hid] using this⟩
          case round =>
            clear HSW
            obtain ⟨k, hk, rfl, HS⟩ := hrel
            by_cases hlt : k < dist.length
            · obtain ⟨bb, off, cp, hv, c1⟩ := (HI2.out.keep HS.out.kp (by simp)).at k hlt
              simp only [Value.slice.injEq] at hv
              obtain ⟨rfl, -, rfl⟩ := hv
              obtain ⟨z, hz⟩ : ∃ z, dist[k] = z := ⟨_, rfl⟩
              have htk := plg_take dist k hlt
              rw [hz] at c1 htk
              obtain ⟨y, hy⟩ : ∃ y : Nat, max 0 (min z 15) = (y : Int) := ⟨(max 0 (min z 15)).toNat, by omega⟩
              have hy16 : y < 16 := by omega
              have hln : (Ln plT).length = 19 := by rw [Ln_length]; rfl
              obtain ⟨wb, wo, wc2, hvw, d1, d2⟩ := (HS.out.cds4 3 rfl).at y (by rw [hln]; omega)
              rw [hln] at hvw
              rw [plT_len y hy16] at d2
              have HWI := Lib.hid (fun wx => within_c z 0 15 wx (by decide))
              rw [hy] at HWI
              have hbits : Hid (b5 ++ (dist.take k).flatMap plg ++ bitsOf (code (Ln plT) y) 4 = b5 ++ (dist.take (k + 1)).flatMap plg) := by
                unfold Hid; rw [htk, List.append_assoc]; unfold plg pl17 clz; rw [hy]; rfl
              have hcl : code (Ln plT) y < 4294967296 := by
                have := code_lt (Ln plT) y; rw [plT_len y hy16] at this; omega
              have hplen := plg_len (dist.take k)
              have hPB := st_rput (HS.out.read ((Keep.refl [] wr).alloc (.cells #[.int .u32 (code (Ln plT) y), .int .i64 4] 106))) 0 rfl (code (Ln plT) y) 4 hcl (by decide) (by have := HB5L.out; have := HLL.out; simp only [List.length_append, List.length_take] at hplen ⊢; omega)
              rw [hbits.out] at hPB
              have HPB := Lib.hid hPB
              have hwk : IntKind.i64.wrap ((k : Int) + 1) = ((k + 1 : Nat) : Int) := by rw [IntKind.wrap_i64]; have := HLL.out; omega
              have hyi : (y : Int) < 19 := by omega
              obtain ⟨cd, hcd⟩ : ∃ cd, code (Ln plT) y = cd := ⟨_, rfl⟩
              rw [hcd] at d1 HPB
              subst hvw
              clear hz hy htk hbits hcl hplen hPB hln hcd
              go_wp2_with fail
              refine (HWI.out _).mono ?_; rintro e w9 ⟨rfl, rfl⟩
              go_wp2_with fail
              refine HPB.out.mono ?_; rintro e w8 ⟨rfl, hS⟩
              have HS8 := Lib.hid hS
              clear HPB hS d1 d2 c1
              go_wp2_with fail
              go_roundw
              case rel => exact ⟨k + 1, by omega, by first | rfl | simp, HS8.out⟩
              case measure => simp [intOf]; omega
            · obtain rfl : k = dist.length := by omega
              rw [List.take_length] at HS
              have HSE : Hid (St W wr [Ob.rw q (b5 ++ dist.flatMap plg)]) := ((HS.out.pop (Ps := [Ob.rw q (b5 ++ dist.flatMap plg), Ob.is (.slice (some ⟨qo, 0, none⟩) 19 19) ordI, Ob.rowI (.slice (some ⟨g, 0, none⟩) 19 19) plT])).pop (Ps := [Ob.rw q (b5 ++ dist.flatMap plg), Ob.is (.slice (some ⟨qo, 0, none⟩) 19 19) ordI])).pop (Ps := [Ob.rw q (b5 ++ dist.flatMap plg)])
              clear HS
              go_wp2_with fail
              go_end0
              refine ⟨rfl, ?_⟩
              rw [HB5.out]
              exact HSE.out
theorem rplain17_c {W w : World} {q : Nat} {bits : List Bool} (h : St W w [Ob.rw q bits]) (v1 v2 : Value) (lit dist : List Int) (h1 : Is .i64 W v1 lit) (h2 : Is .i64 W v2 dist) (hl : 257 ≤ lit.length ∧ lit.length ≤ 300) (hd : 1 ≤ dist.length ∧ dist.length ≤ 60) (a1 : ∀ z ∈ lit, 0 ≤ z ∧ z ≤ 15) (a2 : ∀ z ∈ dist, 0 ≤ z ∧ z ≤ 15) (hb : bits.length ≤ 1000000) : Calls Tryz.prog 32 #[.pointer (some ⟨q, 0, none⟩), v1, v2] w fun e w' =>
    e = .returned (.tuple #[]) ∧ St W w' [Ob.rw q (bits ++ wb17 lit.length dist.length 19 plT (plTs lit ++ plTs dist))] := by
  have := rplain17_g h v1 v2 lit dist h1 h2 hl hd hb
  rw [map_clz a1, map_clz a2] at this
  exact this
end Go.Proofs.YtokfcgloogdeiaaGreatDoor
namespace Go.Proofs.YtokfcgloogdeiaaGreatDoor
set_option linter.unusedVariables false
set_option linter.unusedSimpArgs false
set_option maxRecDepth 100000
open Go.ChangeShapes Go.WideShapes Go.ChangeAt Go.RowKit

theorem st_ralign {W w : World} {Ps : List Ob} (h : St W w Ps) (i : Nat) {q : Nat} {v : Value} {s : RS} {l : List UInt8} (hi : Ps[i]? = some (Ob.rr q v s)) (hf : Fr W v l s) : Calls Tryz.prog 69 #[.pointer (some ⟨q, 0, none⟩)] w fun e w' =>
    e = .returned (.tuple #[]) ∧ St W w' (Ps.set i (Ob.rr q v s.align)) ∧ Fr W v l s.align := by
  refine (ralign_c w q v s (h.rr i hi hf)).mono ?_
  rintro e w' ⟨he, hr, hk⟩
  exact ⟨he, h.setRr i hi hf hr hk rfl⟩
theorem st_rnext4 {W w : World} {Ps : List Ob} (h : St W w Ps) (i j : Nat) (hij : i ≠ j) {q : Nat} {v cv : Value} {s : RS} {l : List UInt8} {L : List Nat} (hi : Ps[i]? = some (Ob.rr q v s)) (hj : Ps[j]? = some (Ob.cds4 cv L)) (hf : Fr W v l s) (hL : ∀ x ∈ L, x ≤ 16) (hwt : wt L ≤ 65536) : Calls Tryz.prog 72 #[cv, .pointer (some ⟨q, 0, none⟩)] w fun e w' =>
    e = .returned (.tuple #[.int .i64 (s.next L).1, .int .i64 (s.next L).2.1]) ∧ St W w' (Ps.set i (Ob.rr q v (s.next L).2.2)) ∧ Fr W v l (s.next L).2.2 := by
  refine (refnext_c w q v cv s L hL hwt (h.cds4 j hj) (h.rr i hi hf)).mono ?_
  rintro e w' ⟨he, hr, hk⟩
  exact ⟨he, h.setRr i hi hf hr hk (next_l17 s L)⟩
theorem rd17_l (s : RS) (large : Bool) : (rd17 s large).2.2.2.l = s.l := by
  obtain ⟨x1, s1, h1⟩ : ∃ x1 s1, s.bits 5 = (x1, s1) := ⟨_, _, rfl⟩
  obtain ⟨x2, s2, h2⟩ : ∃ x2 s2, s1.bits 5 = (x2, s2) := ⟨_, _, rfl⟩
  obtain ⟨x3, s3, h3⟩ : ∃ x3 s3, s2.bits 4 = (x3, s3) := ⟨_, _, rfl⟩
  obtain ⟨T, s4, h4⟩ : ∃ T s4, th17 s3 (x3 + 4) = (T, s4) := ⟨_, _, rfl⟩
  obtain ⟨al, er, s5, h5⟩ : ∃ al er s5, ls17 (Ln T) (x1 + 257 + (x2 + 1)) (x1 + 257 + (x2 + 1) + 1) [] s4 = (al, er, s5) := ⟨_, _, _, rfl⟩
  obtain ⟨k1, k2, k3⟩ := rd17_cases s large x1 s1 x2 s2 x3 s3 T s4 al er s5 h1 h2 h3 h4 h5
  have a1 : s1.l = s.l := by have := bits_l17 s 5; rw [h1] at this; exact this
  have a2 : s2.l = s.l := by have := bits_l17 s1 5; rw [h2] at this; exact this.trans a1
  have a3 : s3.l = s.l := by have := bits_l17 s2 4; rw [h3] at this; exact this.trans a2
  have a4 : s4.l = s.l := by have := th17_l s3 (x3 + 4); rw [h4] at this; exact this.trans a3
  have l5 : ∀ (LL : List Nat) (N F : Nat) (all : List Int) (r : RS), (ls17 LL N F all r).2.2.l = r.l := by
    intro LL N F
    induction F with
    | zero => intro all r; rfl
    | succ F ih =>
      intro all r
      have ho : (often17 (r.next LL).1 (r.next LL).2.2).2.l = r.l := by
        rw [show (often17 (r.next LL).1 (r.next LL).2.2).2.l = (r.next LL).2.2.l by
          unfold often17
          repeat' split
          all_goals first | exact bits_l17 _ _ | rfl]
        exact next_l17 r LL
      rw [ls17]
      split
      · rfl
      · split
        · exact next_l17 r LL
        · split
          · exact ho
          · split
            · exact ho
            · split
              · exact ho
              · rw [ih]; exact ho
  have a5 : s5.l = s.l := by have := l5 (Ln T) (x1 + 257 + (x2 + 1)) (x1 + 257 + (x2 + 1) + 1) [] s4; rw [h5] at this; exact this.trans a4
  by_cases e1 : s3.E = 0
  rotate_left
  · rw [k1 e1]; exact a3
  by_cases e2 : 286 < x1 + 257 ∨ (30 < x2 + 1 ∧ large = false)
  · rw [k2 e1 e2]; exact a3
  obtain ⟨k4, k5⟩ := k3 e1 e2
  by_cases e3 : s4.E = 0
  rotate_left
  · rw [k4 e3]; exact a4
  obtain ⟨k6, k7⟩ := k5 e3
  by_cases e4 : chk T = 1
  rotate_left
  · rw [k6 e4]; exact a4
  obtain ⟨k8, k9⟩ := k7 e4
  by_cases e5 : er = 0
  rotate_left
  · rw [k8 e5]; exact a5
  rw [k9 e5]
  split
  · exact a5
  · exact a5
theorem st_rread17 {W w : World} {Ps : List Ob} (h : St W w Ps) (i : Nat) {q : Nat} {v : Value} {s : RS} {l : List UInt8} (hi : Ps[i]? = some (Ob.rr q v s)) (hf : Fr W v l s) (large : Bool) : Calls Tryz.prog 51 #[.pointer (some ⟨q, 0, none⟩), .bool large] w fun e w' =>
    ∃ v1 v2, e = .returned (.tuple #[v1, v2, .int .i64 (rd17 s large).2.2.1]) ∧ Is .i64 w' v1 (rd17 s large).1 ∧ Is .i64 w' v2 (rd17 s large).2.1 ∧ St W w' (Ps.set i (Ob.rr q v (rd17 s large).2.2.2)) ∧ Fr W v l (rd17 s large).2.2.2 := by
  refine (rread17_c w q v s (h.rr i hi hf) large).mono ?_
  rintro e w' ⟨v1, v2, he, h1, h2, hr, hk⟩
  exact ⟨v1, v2, he, h1, h2, h.setRr i hi hf hr hk (rd17_l s large)⟩
/-- the fixed codes, symbol by symbol -/
def fv18 (k : Nat) : Int := if 256 ≤ k ∧ k < 280 then 7 else if 144 ≤ k ∧ k < 256 then 9 else 8
theorem fixL_map : fixL = (List.range 288).map fv18 := by decide +kernel
theorem fixL_len : fixL.length = 288 := by decide +kernel
theorem fixL_step (k : Nat) (h : k < 288) : fixL.take (k + 1) = fixL.take k ++ [fv18 k] := by
  rw [List.take_succ_eq_append_getElem (by rw [fixL_len]; exact h)]
  congr 2
  have : fixL[k]'(by rw [fixL_len]; exact h) = ((List.range 288).map fv18)[k]'(by simp; exact h) := by simp only [fixL_map]
  rw [this]; simp
theorem fixD_step (k : Nat) (h : k < 32) : fixD.take (k + 1) = fixD.take k ++ [5] := by
  have hl : fixD.length = 32 := by decide
  rw [List.take_succ_eq_append_getElem (by rw [hl]; exact h)]
  congr 2
  unfold fixD; rw [List.getElem_replicate]
set_option maxHeartbeats 4000000 in
theorem rfixed18_c (w : World) : Calls Tryz.prog 14 #[] w fun e w' => ∃ v1 v2, e = .returned (.tuple #[v1, v2]) ∧ OwnI w' v1 fixL ∧ OwnI w' v2 fixD ∧ Keep [] w w' ∧ (∀ b, v1.ownBlock = some b → w.heap.size ≤ b) ∧ (∀ b, v2.ownBlock = some b → w.heap.size ≤ b) := by
  go_enter Tryz.func14, Tryz.ntmps14
  go_wp2_with fail
  go_loopw [2, 4] (fun av iv wr => ∃ (k : Nat) (a5 : Option Addr) (c5 : Nat), k ≤ 288 ∧ av = .slice a5 k c5 ∧ iv = .int .i64 k ∧ Hid (OwnI wr (.slice a5 k c5) (fixL.take k)) ∧ Hid (Keep [] w wr) ∧ Hid (∀ b, (Value.slice a5 k c5).ownBlock = some b → w.heap.size ≤ b)) (fun _ iv _ => 288 - (intOf iv).toNat)
  case atStart => exact ⟨0, none, 0, Nat.zero_le _, rfl, rfl, OwnI.nil _, Keep.refl _ _, by simp [Value.ownBlock, Hid]⟩
  case round =>
    obtain ⟨k, a5, c5, hk, rfl, rfl, HO, HK, HB⟩ := hrel
    by_cases hlt : k < 288
    · have htk := fixL_step k hlt
      have hml : (fixL.take k).length = k := by rw [List.length_take, fixL_len]; omega
      have HTK := Lib.hid htk
      have HML := Lib.hid hml
      have hwk : IntKind.i64.wrap ((k : Int) + 1) = ((k + 1 : Nat) : Int) := by rw [IntKind.wrap_i64]; omega
      have hO3 := Lib.hid (fun o => HO.out.keep ((Keep.refl [] wr).alloc o) (by simp))
      have hK3 := Lib.hid (fun o => HK.out.trans ((Keep.refl [] wr).alloc o) (by simp))
      clear htk hml HO
      generalize fixL.take k = M at hO3 HTK HML
      by_cases g1 : k < 144
      · have hz : fv18 k = 8 := by unfold fv18; split <;> first | rfl | (split <;> first | rfl | omega) | omega
        rw [hz] at HTK
        have q1 : decide (144 ≤ (k : Int)) = false := decide_eq_false (by omega)
        have q2 : decide ((k : Int) < 256) = true := decide_eq_true (by omega)
        have q3 : decide (256 ≤ (k : Int)) = false := decide_eq_false (by omega)
        have q4 : decide ((k : Int) < 280) = true := decide_eq_true (by omega)
        have q5 : decide (144 ≤ k) = false := decide_eq_false (by omega)
        have q6 : decide (k < 256) = true := decide_eq_true (by omega)
        have q7 : decide (256 ≤ k) = false := decide_eq_false (by omega)
        have q8 : decide (k < 280) = true := decide_eq_true (by omega)
        clear hz
        have HII := Lib.hid (fun wx => Is.one17 wx 8 (by decide))
        go_wp2_with (at_builtin; (refine wpList_appendI (.tmp 23) (.tmp 25) rfl rfl (.slice a5 k c5) M rfl (hO3.out _) _ [8] rfl (HII.out _) (by have := HML.out; simp; omega) ?_); (intro v4 w4 ho4 hk4 hb4 hz4))
        obtain ⟨a6, c6, rfl, hl5⟩ := ho4.is.sh
        have e5 : (M ++ [(8 : Int)]).length = k + 1 := by simp; exact HML.out
        rw [e5] at hb4 ho4 ⊢
        have HO4 : Hid (OwnI w4 (.slice a6 (k + 1) c6) (fixL.take (k + 1))) := by rw [HTK.out]; exact ho4
        have HK4 : Hid (Keep [] w w4) := (hK3.out _).trans hk4 (fun b hb => .inr (HB.out b (by simpa using hb)))
        have HB4 : Hid (∀ b, (Value.slice a6 (k + 1) c6).ownBlock = some b → w.heap.size ≤ b) := fun b hb => by
          rcases hb4 b hb with h | h
          · exact HB.out b h
          · rw [h]; exact (hK3.out _).size
        clear hb4 ho4 hk4 hz4 hO3 hK3 HII HB HK
        refine ⟨⟨k + 1, a6, c6, by omega, rfl, by simp, HO4, HK4, HB4⟩, by simp [intOf]; omega⟩
      by_cases g2 : k < 256
      · have hz : fv18 k = 9 := by unfold fv18; split <;> first | rfl | (split <;> first | rfl | omega) | omega
        rw [hz] at HTK
        have q1 : decide (144 ≤ (k : Int)) = true := decide_eq_true (by omega)
        have q2 : decide ((k : Int) < 256) = true := decide_eq_true (by omega)
        have q3 : decide (256 ≤ (k : Int)) = false := decide_eq_false (by omega)
        have q4 : decide ((k : Int) < 280) = true := decide_eq_true (by omega)
        have q5 : decide (144 ≤ k) = true := decide_eq_true (by omega)
        have q6 : decide (k < 256) = true := decide_eq_true (by omega)
        have q7 : decide (256 ≤ k) = false := decide_eq_false (by omega)
        have q8 : decide (k < 280) = true := decide_eq_true (by omega)
        clear hz
        have HII := Lib.hid (fun wx => Is.one17 wx 9 (by decide))
        go_wp2_with (at_builtin; (refine wpList_appendI (.tmp 23) (.tmp 25) rfl rfl (.slice a5 k c5) M rfl (hO3.out _) _ [9] rfl (HII.out _) (by have := HML.out; simp; omega) ?_); (intro v4 w4 ho4 hk4 hb4 hz4))
        obtain ⟨a6, c6, rfl, hl5⟩ := ho4.is.sh
        have e5 : (M ++ [(9 : Int)]).length = k + 1 := by simp; exact HML.out
        rw [e5] at hb4 ho4 ⊢
        have HO4 : Hid (OwnI w4 (.slice a6 (k + 1) c6) (fixL.take (k + 1))) := by rw [HTK.out]; exact ho4
        have HK4 : Hid (Keep [] w w4) := (hK3.out _).trans hk4 (fun b hb => .inr (HB.out b (by simpa using hb)))
        have HB4 : Hid (∀ b, (Value.slice a6 (k + 1) c6).ownBlock = some b → w.heap.size ≤ b) := fun b hb => by
          rcases hb4 b hb with h | h
          · exact HB.out b h
          · rw [h]; exact (hK3.out _).size
        clear hb4 ho4 hk4 hz4 hO3 hK3 HII HB HK
        refine ⟨⟨k + 1, a6, c6, by omega, rfl, by simp, HO4, HK4, HB4⟩, by simp [intOf]; omega⟩
      by_cases g3 : k < 280
      · have hz : fv18 k = 7 := by unfold fv18; split <;> first | rfl | (split <;> first | rfl | omega) | omega
        rw [hz] at HTK
        have q1 : decide (144 ≤ (k : Int)) = true := decide_eq_true (by omega)
        have q2 : decide ((k : Int) < 256) = false := decide_eq_false (by omega)
        have q3 : decide (256 ≤ (k : Int)) = true := decide_eq_true (by omega)
        have q4 : decide ((k : Int) < 280) = true := decide_eq_true (by omega)
        have q5 : decide (144 ≤ k) = true := decide_eq_true (by omega)
        have q6 : decide (k < 256) = false := decide_eq_false (by omega)
        have q7 : decide (256 ≤ k) = true := decide_eq_true (by omega)
        have q8 : decide (k < 280) = true := decide_eq_true (by omega)
        clear hz
        have HII := Lib.hid (fun wx => Is.one17 wx 7 (by decide))
        go_wp2_with (at_builtin; (refine wpList_appendI (.tmp 23) (.tmp 25) rfl rfl (.slice a5 k c5) M rfl (hO3.out _) _ [7] rfl (HII.out _) (by have := HML.out; simp; omega) ?_); (intro v4 w4 ho4 hk4 hb4 hz4))
        obtain ⟨a6, c6, rfl, hl5⟩ := ho4.is.sh
        have e5 : (M ++ [(7 : Int)]).length = k + 1 := by simp; exact HML.out
        rw [e5] at hb4 ho4 ⊢
        have HO4 : Hid (OwnI w4 (.slice a6 (k + 1) c6) (fixL.take (k + 1))) := by rw [HTK.out]; exact ho4
        have HK4 : Hid (Keep [] w w4) := (hK3.out _).trans hk4 (fun b hb => .inr (HB.out b (by simpa using hb)))
        have HB4 : Hid (∀ b, (Value.slice a6 (k + 1) c6).ownBlock = some b → w.heap.size ≤ b) := fun b hb => by
          rcases hb4 b hb with h | h
          · exact HB.out b h
          · rw [h]; exact (hK3.out _).size
        clear hb4 ho4 hk4 hz4 hO3 hK3 HII HB HK
        refine ⟨⟨k + 1, a6, c6, by omega, rfl, by simp, HO4, HK4, HB4⟩, by simp [intOf]; omega⟩
      · have hz : fv18 k = 8 := by unfold fv18; split <;> first | rfl | (split <;> first | rfl | omega) | omega
        rw [hz] at HTK
        have q1 : decide (144 ≤ (k : Int)) = true := decide_eq_true (by omega)
        have q2 : decide ((k : Int) < 256) = false := decide_eq_false (by omega)
        have q3 : decide (256 ≤ (k : Int)) = true := decide_eq_true (by omega)
        have q4 : decide ((k : Int) < 280) = false := decide_eq_false (by omega)
        have q5 : decide (144 ≤ k) = true := decide_eq_true (by omega)
        have q6 : decide (k < 256) = false := decide_eq_false (by omega)
        have q7 : decide (256 ≤ k) = true := decide_eq_true (by omega)
        have q8 : decide (k < 280) = false := decide_eq_false (by omega)
        clear hz
        have HII := Lib.hid (fun wx => Is.one17 wx 8 (by decide))
        go_wp2_with (at_builtin; (refine wpList_appendI (.tmp 23) (.tmp 25) rfl rfl (.slice a5 k c5) M rfl (hO3.out _) _ [8] rfl (HII.out _) (by have := HML.out; simp; omega) ?_); (intro v4 w4 ho4 hk4 hb4 hz4))
        obtain ⟨a6, c6, rfl, hl5⟩ := ho4.is.sh
        have e5 : (M ++ [(8 : Int)]).length = k + 1 := by simp; exact HML.out
        rw [e5] at hb4 ho4 ⊢
        have HO4 : Hid (OwnI w4 (.slice a6 (k + 1) c6) (fixL.take (k + 1))) := by rw [HTK.out]; exact ho4
        have HK4 : Hid (Keep [] w w4) := (hK3.out _).trans hk4 (fun b hb => .inr (HB.out b (by simpa using hb)))
        have HB4 : Hid (∀ b, (Value.slice a6 (k + 1) c6).ownBlock = some b → w.heap.size ≤ b) := fun b hb => by
          rcases hb4 b hb with h | h
          · exact HB.out b h
          · rw [h]; exact (hK3.out _).size
        clear hb4 ho4 hk4 hz4 hO3 hK3 HII HB HK
        refine ⟨⟨k + 1, a6, c6, by omega, rfl, by simp, HO4, HK4, HB4⟩, by simp [intOf]; omega⟩
    · obtain rfl : k = 288 := by omega
      have hfin : fixL.take 288 = fixL := List.take_of_length_le (by rw [fixL_len]; exact Nat.le_refl _)
      rw [hfin] at HO
      have HOL := HO; have HKL := HK; have HBL := HB
      clear hfin hlt hk HO HK HB
      have e288 : ((288 : Nat) : Int) = 288 := rfl
      rw [e288]
      clear e288
      go_wp2_with fail
      generalize wr = wz at *
      go_loopw [3, 6] (fun av iv wr => ∃ (k : Nat) (a6 : Option Addr) (c6 : Nat), k ≤ 32 ∧ av = .slice a6 k c6 ∧ iv = .int .i64 k ∧ Hid (OwnI wr (.slice a6 k c6) (fixD.take k)) ∧ Hid (Keep [] wz wr) ∧ Hid (∀ b, (Value.slice a6 k c6).ownBlock = some b → wz.heap.size ≤ b)) (fun _ iv _ => 32 - (intOf iv).toNat)
      case atStart => exact ⟨0, none, 0, Nat.zero_le _, rfl, rfl, OwnI.nil _, Keep.refl _ _, by simp [Value.ownBlock, Hid]⟩
      case round =>
        obtain ⟨k, a7, c7, hk, rfl, rfl, HO, HK, HB⟩ := hrel
        by_cases hlt : k < 32
        · have htk := fixD_step k hlt
          have hml : (fixD.take k).length = k := by rw [List.length_take]; have : fixD.length = 32 := by decide
                                                    omega
          have HTK := Lib.hid htk
          have HML := Lib.hid hml
          have hwk : IntKind.i64.wrap ((k : Int) + 1) = ((k + 1 : Nat) : Int) := by rw [IntKind.wrap_i64]; omega
          have hO3 := Lib.hid (fun o => HO.out.keep ((Keep.refl [] wr).alloc o) (by simp))
          have hK3 := Lib.hid (fun o => HK.out.trans ((Keep.refl [] wr).alloc o) (by simp))
          clear htk hml HO HOL HKL HBL
          generalize fixD.take k = M at hO3 HTK HML
          have HII := Lib.hid (fun wx => Is.one17 wx 5 (by decide))
          go_wp2_with (at_builtin; (refine wpList_appendI (.tmp 31) (.tmp 32) rfl rfl (.slice a7 k c7) M rfl (hO3.out _) _ [5] rfl (HII.out _) (by have := HML.out; simp; omega) ?_); (intro v4 w4 ho4 hk4 hb4 hz4))
          obtain ⟨a6, c6, rfl, hl5⟩ := ho4.is.sh
          have e5 : (M ++ [(5 : Int)]).length = k + 1 := by simp; exact HML.out
          rw [e5] at hb4 ho4 ⊢
          have HO4 : Hid (OwnI w4 (.slice a6 (k + 1) c6) (fixD.take (k + 1))) := by rw [HTK.out]; exact ho4
          have HK4 : Hid (Keep [] wz w4) := (hK3.out _).trans hk4 (fun b hb => .inr (HB.out b (by simpa using hb)))
          have HB4 : Hid (∀ b, (Value.slice a6 (k + 1) c6).ownBlock = some b → wz.heap.size ≤ b) := fun b hb => by
            rcases hb4 b hb with h | h
            · exact HB.out b h
            · rw [h]; exact (hK3.out _).size
          clear hb4 ho4 hk4 hz4 hO3 hK3 HII HB HK
          refine ⟨⟨k + 1, a6, c6, by omega, rfl, by simp, HO4, HK4, HB4⟩, by simp [intOf]; omega⟩
        · obtain rfl : k = 32 := by omega
          have hfin : fixD.take 32 = fixD := rfl
          rw [hfin] at HO
          have hO1 : Hid (OwnI wr (.slice a5 288 c5) fixL) := HOL.out.keep HK.out (by simp)
          have hKK : Hid (Keep [] w wr) := HKL.out.trans HK.out (by simp)
          have hKZ := HKL.out.size
          clear hfin hlt hk
          go_wp2_with fail
          go_ret2
          exact ⟨_, _, rfl, hO1.out, HO.out, hKK.out, HBL.out, fun b hb => by have := HB.out b hb; omega⟩
end Go.Proofs.YtokfcgloogdeiaaGreatDoor
namespace Go.Proofs.YtokfcgloogdeiaaGreatDoor
set_option linter.unusedVariables false
set_option linter.unusedSimpArgs false
set_option maxRecDepth 100000
open Go.ChangeShapes Go.WideShapes Go.ChangeAt Go.RowKit

/-- a state's cells -/
def sCells (qr qo : Nat) (large : Bool) (n : Nat) : Array Value := #[.pointer (some ⟨qr, 0, none⟩), .pointer (some ⟨qo, 0, none⟩), .bool large, .int .i64 n]
theorem s_cells {w : World} {qs qr qo n : Nat} {large : Bool} (h : Blk w qs (sCells qr qo large n) 73) : w.cell? ⟨qs, 0, none⟩ = some (.pointer (some ⟨qr, 0, none⟩)) ∧ w.cell? ⟨qs, 1, none⟩ = some (.pointer (some ⟨qo, 0, none⟩)) ∧ w.cell? ⟨qs, 2, none⟩ = some (.bool large) ∧ w.cell? ⟨qs, 3, none⟩ = some (.int .i64 n) ∧ w.frozen? ⟨qs, 3, none⟩ = false :=
  ⟨h.cell 0 _ rfl, h.cell 1 _ rfl, h.cell 2 _ rfl, h.cell 3 _ rfl, h.free 3⟩
/-- a state and all that it holds -/
def DS (qs qr qo : Nat) (v : Value) (large : Bool) (s : SI) : List Ob := [Ob.box qs (sCells qr qo large s.n) 73, Ob.rr qr v s.r, Ob.rx qo s.o]
/-- one step counted -/
theorem DS.count {W w : World} {qs qr qo : Nat} {v : Value} {large : Bool} {r : RS} {o : HS} {n : Nat} {tl : List Ob} (h : St W w (DS qs qr qo v large ⟨r, o, n⟩ ++ tl)) (m : Nat) : St W (w.setCell ⟨qs, 3, none⟩ (.int .i64 m)) (DS qs qr qo v large ⟨r, o, m⟩ ++ tl) :=
  h.setBox 0 rfl 3 (.int .i64 m)
theorem DS.cells {W w : World} {qs qr qo : Nat} {v : Value} {large : Bool} {s : SI} {tl : List Ob} (h : St W w (DS qs qr qo v large s ++ tl)) : w.cell? ⟨qs, 0, none⟩ = some (.pointer (some ⟨qr, 0, none⟩)) ∧ w.cell? ⟨qs, 1, none⟩ = some (.pointer (some ⟨qo, 0, none⟩)) ∧ w.cell? ⟨qs, 2, none⟩ = some (.bool large) ∧ w.cell? ⟨qs, 3, none⟩ = some (.int .i64 s.n) ∧ w.frozen? ⟨qs, 3, none⟩ = false := s_cells (h.blk 0 rfl)
theorem DS.err {W w : World} {qs qr qo : Nat} {v : Value} {large : Bool} {s : SI} {tl : List Ob} (h : St W w (DS qs qr qo v large s ++ tl)) : w.cell? ⟨qr, 2, none⟩ = some (.int .i64 s.r.err) := h.rrCell 1 rfl
set_option maxHeartbeats 4000000 in
theorem rplain18_c {W w : World} {l : List UInt8} (qs qr qo : Nat) (v : Value) (large : Bool) (s : SI) (h : St W w (DS qs qr qo v large s)) (hf : Fr W v l s.r) (hb : s.o.b.length ≤ 1000000000000) (hn : s.n ≤ 1000000000000) : Calls Tryz.prog 50 #[.pointer (some ⟨qs, 0, none⟩)] w fun e w' =>
    e = .returned (.int .i64 (plain18 s).1) ∧ Keep [] W w' ∧ ((plain18 s).1 = 0 → St W w' (DS qs qr qo v large (plain18 s).2) ∧ Fr W v l (plain18 s).2.r) := by
  obtain ⟨c0, -, -, -, -⟩ := DS.cells (tl := []) h
  have HA := Lib.hid (st_ralign h 1 rfl hf)
  obtain ⟨x1, r1, h1⟩ : ∃ x1 r1, s.r.align.bits 16 = (x1, r1) := ⟨_, _, rfl⟩
  obtain ⟨x2, r2, h2⟩ : ∃ x2 r2, r1.bits 16 = (x2, r2) := ⟨_, _, rfl⟩
  have hx1 : x1 < 65536 := by have := bits_lt15 s.r.align 16 (by decide); rw [show ((16 : Nat) : Int) = 16 from rfl, h1] at this; exact this
  have hx2 : x2 < 65536 := by have := bits_lt15 r1 16 (by decide); rw [show ((16 : Nat) : Int) = 16 from rfl, h2] at this; exact this
  have hp : plain18 s = if r2.E ≠ 0 then (r2.E, s) else if x1 + x2 ≠ 65535 then (4, s) else plL x1 { s with r := r2 } := by
    unfold plain18; rw [h1]; dsimp only; rw [h2]
  obtain ⟨R, hR⟩ : ∃ R, plain18 s = R := ⟨_, rfl⟩
  rw [hR] at hp ⊢
  have HP := Lib.hid hp
  have HBN : Hid (s.o.b.length ≤ 1000000000000 ∧ s.n ≤ 1000000000000) := ⟨hb, hn⟩
  have HX : Hid (x1 < 65536 ∧ x2 < 65536) := ⟨hx1, hx2⟩
  have H1 := Lib.hid h1; have H2 := Lib.hid h2
  have w1 : IntKind.i64.wrap (x1 : Int) = (x1 : Int) := by rw [IntKind.wrap_i64]; omega
  have w2 : IntKind.i64.wrap (x2 : Int) = (x2 : Int) := by rw [IntKind.wrap_i64]; omega
  clear h hf hb hn hp hR h1 h2 hx1 hx2
  go_enter Tryz.func50, Tryz.ntmps50
  go_wp2_with fail
  refine HA.out.mono ?_; rintro e wa ⟨rfl, hSa, hfa⟩
  have hSa' : St W wa (DS qs qr qo v large { s with r := s.r.align }) := hSa
  have HB := st_rbits hSa' 1 rfl hfa 16
  rw [H1.out] at HB
  have HB1 := Lib.hid HB
  clear c0
  obtain ⟨c0, -, -, -, -⟩ := DS.cells (tl := []) hSa'
  clear HA hSa hfa hSa' HB
  go_wp2_with fail
  refine HB1.out.mono ?_; rintro e wb ⟨rfl, hSb, hfb⟩
  have hSb' : St W wb (DS qs qr qo v large { s with r := r1 }) := hSb
  have HB := st_rbits hSb' 1 rfl hfb 16
  rw [H2.out] at HB
  have HB2 := Lib.hid HB
  clear c0
  obtain ⟨c0, -, -, -, -⟩ := DS.cells (tl := []) hSb'
  clear HB1 hSb hfb hSb' HB
  go_wp2_with fail
  refine HB2.out.mono ?_; rintro e wc ⟨rfl, hSc, hfc⟩
  have hSc' : St W wc (DS qs qr qo v large { s with r := r2 }) := hSc
  clear c0
  obtain ⟨c0, -, -, -, -⟩ := DS.cells (tl := []) hSc'
  have ce := DS.err (tl := []) hSc'
  have hE := hfc.E
  obtain ⟨E2, hE2⟩ : ∃ E2, r2.err = E2 := ⟨_, rfl⟩
  rw [show ({ s with r := r2 } : SI).r.err = E2 from hE2] at ce
  rw [hE2] at hE
  rw [hE] at HP
  have HS := Lib.hid hSc'
  have HF := Lib.hid hfc
  clear HB2 hSc hfc hSc' hE hE2 H1 H2
  by_cases g0 : E2 = 0
  · subst g0
    obtain ⟨z, hz⟩ : ∃ z, x1 + x2 = z := ⟨_, rfl⟩
    have hX := HX.out
    have w3 : IntKind.i64.wrap ((x1 : Int) + (x2 : Int)) = (z : Int) := by rw [IntKind.wrap_i64]; omega
    obtain ⟨y, hy⟩ : ∃ y, 65535 - x2 = y := ⟨_, rfl⟩
    have w4 : IntKind.i64.wrap (65535 - (x2 : Int)) = (y : Int) := by rw [IntKind.wrap_i64]; omega
    have hpp := HP.out
    rw [if_neg (by simp), hz] at hpp
    by_cases gz : z = 65535
    · have t1 : ((z : Int) != 65535) = false := by simp; omega
      have t2 : ((x1 : Int) != (y : Int)) = false := by simp; omega
      have t2' : (x1 != y) = false := by simp; omega
      rw [if_neg (by simpa using gz)] at hpp
      have HPP := Lib.hid hpp
      have hx1 := hX.1
      clear hpp HP gz hz hy hX
      go_wp2_with fail
      go_loopw [5] (fun iv wr => ∃ (k : Nat) (sk : SI), k ≤ x1 ∧ iv = .int .i64 k ∧ Hid (St W wr (DS qs qr qo v large sk)) ∧ Hid (Fr W v l sk.r) ∧ Hid (plL (x1 - k) sk = R) ∧ sk.o.b.length ≤ 1000000000000 + k ∧ sk.n ≤ 1000000000000 + k) (fun iv _ => x1 - (intOf iv).toNat)
      case atStart => exact ⟨0, _, Nat.zero_le _, rfl, HS, HF, HPP.out.symm, HBN.out.1, HBN.out.2⟩
      case round =>
        clear HS HF HPP
        obtain ⟨k, sk, hk, rfl, HS, HF, HR, hbk, hnk⟩ := hrel
        by_cases hlt : k < x1
        · obtain ⟨f, hf⟩ : ∃ f, x1 - k = f + 1 := ⟨x1 - k - 1, by omega⟩
          have hf2 : x1 - (k + 1) = f := by omega
          rw [hf] at HR
          have hr := HR.out
          rw [plL] at hr
          have hx8 := bits_lt15 sk.r 8 (by decide)
          rw [show ((8 : Nat) : Int) = 8 from rfl] at hx8
          have HB := st_rbits HS.out 1 rfl HF.out 8
          obtain ⟨x, rn, hxr⟩ : ∃ x rn, sk.r.bits 8 = (x, rn) := ⟨_, _, rfl⟩
          rw [hxr] at hr hx8 HB
          dsimp only at hr hx8 HB
          obtain ⟨c0, c1, -, -, -⟩ := DS.cells (tl := []) HS.out
          have HB3 := Lib.hid HB
          have HRR := Lib.hid hr
          have wx : IntKind.u8.wrap (x : Int) = (x : Int) := by rw [IntKind.wrap_u8]; omega
          have hc : (UInt8.ofNat x).toNat = x := by rw [UInt8.toNat_ofNat']; exact Nat.mod_eq_of_lt hx8
          have HC := Lib.hid hc
          have HF2 := Lib.hid hf2
          have wk : IntKind.i64.wrap ((k : Int) + 1) = ((k + 1 : Nat) : Int) := by rw [IntKind.wrap_i64]; omega
          clear HR hr hxr HB hc hf hf2 hx8
          go_wp2_with fail
          refine HB3.out.mono ?_; rintro e w4 ⟨rfl, hS4, hf4⟩
          have hS4' : St W w4 (DS qs qr qo v large { sk with r := rn }) := hS4
          clear c0 c1
          obtain ⟨c0, c1, -, -, -⟩ := DS.cells (tl := []) hS4'
          have ce4 := DS.err (tl := []) hS4'
          have hE4 := hf4.E
          obtain ⟨E4, hE4'⟩ : ∃ E4, rn.err = E4 := ⟨_, rfl⟩
          rw [show ({ sk with r := rn } : SI).r.err = E4 from hE4'] at ce4
          rw [hE4'] at hE4
          rw [hE4] at HRR
          have HS4 := Lib.hid hS4'
          have HF4 := Lib.hid hf4
          clear HB3 hS4 hS4' hE4 hE4' hf4
          by_cases g4 : E4 = 0
          · subst g4
            have hL := st_rlit HS4.out 2 rfl (UInt8.ofNat x) (by show sk.o.b.length + 1 ≤ _; omega)
            rw [HC.out] at hL
            dsimp only at hL
            have hr2 := HRR.out
            rw [if_neg (by simp)] at hr2
            obtain ⟨el, o2, ho2⟩ : ∃ el o2, sk.o.lit (UInt8.ofNat x) = (el, o2) := ⟨_, _, rfl⟩
            have hL2 : Calls Tryz.prog 70 #[.pointer (some ⟨qo, 0, none⟩), .int .u8 x] w4 fun e w' => e = .returned (.int .i64 el) ∧ St W w' ((DS qs qr qo v large { sk with r := rn }).set 2 (Ob.rx qo o2)) := by
              have := hL; rw [show ({ sk with r := rn } : SI).o = sk.o from rfl, ho2] at this; exact this
            rw [ho2] at hr2
            dsimp only at hr2
            have HLT := Lib.hid hL2
            have HR2 := Lib.hid hr2
            have hob : el = 0 → o2.b.length ≤ sk.o.b.length + 1 := fun h0 => by
              have := (lit_ok (o := sk.o) (c := UInt8.ofNat x) (by rw [ho2]; exact h0)).1
              rw [ho2] at this; dsimp only at this; rw [this]; simp
            have HOB := Lib.hid hob
            have hrw : ({ sk with r := rn } : SI).o = sk.o := rfl
            clear hL hL2 hr2 HRR ho2 hob hrw
            go_wp2_with fail
            refine HLT.out.mono ?_; rintro e w5 ⟨rfl, hS5⟩
            have hS5' : St W w5 (DS qs qr qo v large ⟨rn, o2, sk.n⟩) := hS5
            clear c0 c1 ce4
            obtain ⟨c0, -, -, c3, g3⟩ := DS.cells (tl := []) hS5'
            have HS5 := Lib.hid hS5'
            clear HLT hS5 hS5' HS4 HS
            by_cases g5 : el = 0
            · subst g5
              have hr3 := HR2.out
              rw [if_neg (by simp)] at hr3
              have HR3 := Lib.hid hr3
              have hn1 : sk.n + 1 ≤ 2000000000000 := by omega
              obtain ⟨n1, hnn⟩ : ∃ n1, sk.n + 1 = n1 := ⟨_, rfl⟩
              have wn : IntKind.i64.wrap ((sk.n : Int) + 1) = (n1 : Int) := by rw [IntKind.wrap_i64]; omega
              rw [hnn] at HR3
              have HS6 := Lib.hid (DS.count (tl := []) HS5.out n1)
              have HNN : Hid (sk.n + 1 = n1) := hnn
              have HOB2 := HOB.out rfl
              clear hr3 HR2 hn1 hnn HOB
              dsimp only at c3
              go_wp2_with fail
              go_roundw
              case rel => exact ⟨k + 1, _, by omega, by first | rfl | simp, HS6.out, HF4.out, by rw [HF2.out]; exact HR3.out, by dsimp only; omega, by have := HNN.out; dsimp only; omega⟩
              case measure => simp [intOf]; omega
            · have t5 : ((el : Int) != 0) = true := by simp; omega
              have HRE : Hid (R = (el, sk)) := by have := HR2.out; rw [if_pos g5] at this; exact this.symm
              have HG5 := Lib.hid g5
              clear HR2 g5 HOB
              go_wp2_with fail
              go_ret
              rw [HRE.out]
              exact ⟨rfl, HS5.out.kp, fun h => absurd h HG5.out⟩
          · have t4 : ((E4 : Int) != 0) = true := by simp; omega
            have HRE : Hid (R = (E4, sk)) := by have := HRR.out; rw [if_pos g4] at this; exact this.symm
            have HG4 := Lib.hid g4
            clear HRR g4 HS
            go_wp2_with fail
            go_ret
            rw [HRE.out]
            exact ⟨rfl, HS4.out.kp, fun h => absurd h HG4.out⟩
        · obtain rfl : k = x1 := by omega
          rw [Nat.sub_self] at HR
          have hr := HR.out
          rw [plL] at hr
          have HRE := Lib.hid hr.symm
          clear HR hr hlt hk
          go_wp2_with fail
          go_ret
          rw [HRE.out]
          exact ⟨rfl, HS.out.kp, fun _ => ⟨HS.out, HF.out⟩⟩
    · have t1 : ((z : Int) != 65535) = true := by simp; omega
      have HRE : Hid (R = (4, s)) := by rw [if_pos (by simpa using gz)] at hpp; exact hpp
      clear hpp HP gz hz hy hX HX
      go_wp2_with fail
      go_ret
      rw [HRE.out]
      exact ⟨rfl, HS.out.kp, fun h => by simp at h⟩
  · have t0 : ((E2 : Int) != 0) = true := by simp; omega
    have HRE : Hid (R = (E2, s)) := by have := HP.out; rw [if_pos g0] at this; exact this
    have HG := Lib.hid g0
    clear HP g0
    go_wp2_with fail
    go_ret
    rw [HRE.out]
    exact ⟨rfl, HS.out.kp, fun h => absurd h HG.out⟩
end Go.Proofs.YtokfcgloogdeiaaGreatDoor
namespace Go.Proofs.YtokfcgloogdeiaaGreatDoor
set_option linter.unusedVariables false
set_option linter.unusedSimpArgs false
set_option maxRecDepth 100000
open Go.ChangeShapes Go.WideShapes Go.ChangeAt Go.RowKit

theorem lenOf_le (x : Int) (large : Bool) : (lenOf x large).1 ≤ 258 ∧ (lenOf x large).2.1 ≤ 16 := by
  unfold lenOf
  by_cases h1 : x < 257 ∨ 285 < x
  · rw [if_pos h1]; decide
  · rw [if_neg h1]
    by_cases h2 : x = 285
    · rw [if_pos h2]; cases large <;> decide
    · rw [if_neg h2]
      obtain ⟨m, rfl⟩ : ∃ m : Nat, x = m := ⟨x.toNat, by omega⟩
      have := lbs_le ⟨m - 257, by omega⟩
      dsimp only at this ⊢
      rw [show 257 + (m - 257) = m by omega] at this
      rw [Int.toNat_natCast]
      omega
theorem dstOf_le (x : Int) (large : Bool) : (dstOf x large).1 ≤ 49153 ∧ (dstOf x large).2.1 ≤ 14 := by
  unfold dstOf
  by_cases h1 : x < 0 ∨ 31 < x ∨ (29 < x ∧ large = false)
  · rw [if_pos h1]; decide
  · rw [if_neg h1]
    obtain ⟨m, rfl⟩ : ∃ m : Nat, x = m := ⟨x.toNat, by omega⟩
    have := dbs_le ⟨m, by omega⟩
    rw [Int.toNat_natCast]
    exact this
theorem copy18_cases (large : Bool) (LD : List Nat) (x : Int) (s : SI) (b1 e1 : Nat) (o1 : Bool) (x1 : Nat) (r1 : RS) (y : Int) (er : Nat) (r2 : RS) (b2 e2 : Nat) (o2 : Bool) (x2 : Nat) (r3 : RS)
    (h1 : lenOf x large = (b1, e1, o1)) (h2 : s.r.bits e1 = (x1, r1)) (h3 : r1.next LD = (y, er, r2)) (h4 : dstOf y large = (b2, e2, o2)) (h5 : r2.bits e2 = (x2, r3)) :
    (o1 = false → (copy18 large LD x s).1 = 7) ∧ (o1 = true → (r1.E ≠ 0 → (copy18 large LD x s).1 = r1.E) ∧ (r1.E = 0 → (er ≠ 0 → (copy18 large LD x s).1 = er) ∧ (er = 0 → (o2 = false → (copy18 large LD x s).1 = 7) ∧ (o2 = true → (r3.E ≠ 0 → (copy18 large LD x s).1 = r3.E) ∧
      (r3.E = 0 → copy18 large LD x s = ((s.o.copy (b2 + x2 : Nat) (b1 + x1 : Nat)).1, ⟨r3, (s.o.copy (b2 + x2 : Nat) (b1 + x1 : Nat)).2, s.n⟩)))))) := by
  have hl : lenX large x s.r = if o1 = false then (7, 0, s.r) else if r1.E ≠ 0 then (r1.E, 0, s.r) else (0, b1 + x1, r1) := by
    unfold lenX; rw [h1]; dsimp only; rw [h2]
  have hd : dstX large LD r1 = if er ≠ 0 then (er, 0, r1) else if o2 = false then (7, 0, r1) else if r3.E ≠ 0 then (r3.E, 0, r1) else (0, b2 + x2, r3) := by
    unfold dstX; rw [h3]; dsimp only; rw [h4]; dsimp only; rw [h5]
  have key : copy18 large LD x s = if (lenX large x s.r).1 ≠ 0 then ((lenX large x s.r).1, s)
      else if (dstX large LD (lenX large x s.r).2.2).1 ≠ 0 then ((dstX large LD (lenX large x s.r).2.2).1, s)
      else ((s.o.copy (dstX large LD (lenX large x s.r).2.2).2.1 (lenX large x s.r).2.1).1, ⟨(dstX large LD (lenX large x s.r).2.2).2.2, (s.o.copy (dstX large LD (lenX large x s.r).2.2).2.1 (lenX large x s.r).2.1).2, s.n⟩) := rfl
  refine ⟨fun a => ?_, fun a => ⟨fun b => ?_, fun b => ?_⟩⟩
  · rw [if_pos a] at hl; rw [key, hl, if_pos (by simp)]
  · rw [if_neg (by simp [a]), if_pos b] at hl; rw [key, hl, if_pos b]
  · rw [if_neg (by simp [a]), if_neg (by simpa using b)] at hl
    rw [hl] at key
    dsimp only at key
    rw [if_neg (by simp)] at key
    refine ⟨fun c => ?_, fun c => ⟨fun d => ?_, fun d => ⟨fun e => ?_, fun e => ?_⟩⟩⟩
    · rw [if_pos c] at hd; rw [key, hd, if_pos c]
    · rw [if_neg (by simpa using c), if_pos d] at hd; rw [key, hd, if_pos (by simp)]
    · rw [if_neg (by simpa using c), if_neg (by simp [d]), if_pos e] at hd; rw [key, hd, if_pos e]
    · rw [if_neg (by simpa using c), if_neg (by simp [d]), if_neg (by simpa using e)] at hd; rw [key, hd, if_neg (by simp)]
/-- a state with two codes -/
def DW (qs qr qo : Nat) (v : Value) (large : Bool) (va vb : Value) (LL LD : List Nat) (s : SI) : List Ob := DS qs qr qo v large s ++ [Ob.cds4 va LL, Ob.cds4 vb LD]
set_option maxHeartbeats 4000000 in
theorem rcopy18_c {W w : World} {l : List UInt8} (qs qr qo : Nat) (v : Value) (large : Bool) (va vb : Value) (LL LD : List Nat) (hL : ∀ x ∈ LD, x ≤ 16) (hwt : wt LD ≤ 65536) (s : SI) (x : Int) (h : St W w (DW qs qr qo v large va vb LL LD s)) (hf : Fr W v l s.r) (hb : s.o.b.length ≤ 1000000000000) : Calls Tryz.prog 73 #[.pointer (some ⟨qs, 0, none⟩), .int .i64 x, vb] w fun e w' =>
    e = .returned (.int .i64 (copy18 large LD x s).1) ∧ Keep [] W w' ∧ ((copy18 large LD x s).1 = 0 → St W w' (DW qs qr qo v large va vb LL LD (copy18 large LD x s).2) ∧ Fr W v l (copy18 large LD x s).2.r) := by
  obtain ⟨b1, e1, o1, h1⟩ : ∃ b1 e1 o1, lenOf x large = (b1, e1, o1) := ⟨_, _, _, rfl⟩
  obtain ⟨x1, r1, h2⟩ : ∃ x1 r1, s.r.bits e1 = (x1, r1) := ⟨_, _, rfl⟩
  obtain ⟨y, er, r2, h3⟩ : ∃ y er r2, r1.next LD = (y, er, r2) := ⟨_, _, _, rfl⟩
  obtain ⟨b2, e2, o2, h4⟩ : ∃ b2 e2 o2, dstOf y large = (b2, e2, o2) := ⟨_, _, _, rfl⟩
  obtain ⟨x2, r3, h5⟩ : ∃ x2 r3, r2.bits e2 = (x2, r3) := ⟨_, _, rfl⟩
  obtain ⟨k1, k2⟩ := copy18_cases large LD x s b1 e1 o1 x1 r1 y er r2 b2 e2 o2 x2 r3 h1 h2 h3 h4 h5
  obtain ⟨g1, g2⟩ : b1 ≤ 258 ∧ e1 ≤ 16 := by have := lenOf_le x large; rw [h1] at this; exact this
  obtain ⟨g3, g4⟩ : b2 ≤ 49153 ∧ e2 ≤ 14 := by have := dstOf_le y large; rw [h4] at this; exact this
  have hx1 : x1 < 65536 := by
    have := bits_lt15 s.r e1 (by omega); rw [h2] at this
    have h : 2 ^ e1 ≤ 2 ^ 16 := Nat.pow_le_pow_right (by decide) g2
    dsimp only at this; omega
  have hx2 : x2 < 16384 := by
    have := bits_lt15 r2 e2 (by omega); rw [h5] at this
    have h : 2 ^ e2 ≤ 2 ^ 14 := Nat.pow_le_pow_right (by decide) g4
    dsimp only at this; omega
  have HLN := Lib.hid (fun wx => rlen17_c wx x large)
  have HDS := Lib.hid (fun wx => rdist17_c wx y large)
  rw [h1] at HLN; rw [h4] at HDS
  obtain ⟨R, hR⟩ : ∃ R, copy18 large LD x s = R := ⟨_, rfl⟩
  rw [hR] at k1 k2 ⊢
  have K1 := Lib.hid k1; have K2 := Lib.hid k2
  have H2 := Lib.hid h2; have H3 := Lib.hid h3; have H5 := Lib.hid h5
  have HS := Lib.hid h; have HF := Lib.hid hf; have HBL := Lib.hid hb
  have HL := Lib.hid hL; have HWT := Lib.hid hwt
  obtain ⟨c0, -, c2, -, -⟩ := DS.cells h
  have w1 : IntKind.i64.wrap (x1 : Int) = (x1 : Int) := by rw [IntKind.wrap_i64]; omega
  have w2 : IntKind.i64.wrap (x2 : Int) = (x2 : Int) := by rw [IntKind.wrap_i64]; omega
  obtain ⟨nn, hnn⟩ : ∃ nn, b1 + x1 = nn := ⟨_, rfl⟩
  obtain ⟨dd, hdd⟩ : ∃ dd, b2 + x2 = dd := ⟨_, rfl⟩
  have w3 : IntKind.i64.wrap ((b1 : Int) + (x1 : Int)) = (nn : Int) := by rw [IntKind.wrap_i64]; omega
  have w4 : IntKind.i64.wrap ((b2 : Int) + (x2 : Int)) = (dd : Int) := by rw [IntKind.wrap_i64]; omega
  have HNL : Hid (nn ≤ 100000 ∧ dd ≤ 100000) := by unfold Hid; omega
  rw [hnn, hdd] at K2
  clear k1 k2 h1 h2 h3 h4 h5 h hf hb hR g1 g2 g3 g4 hx1 hx2 hnn hdd hL hwt
  go_enter Tryz.func73, Tryz.ntmps73
  go_wp2_with fail
  refine (HLN.out w).mono ?_; rintro e wa ⟨rfl, rfl⟩
  cases o1 with
  | false =>
    have HRE := Lib.hid (K1.out rfl)
    clear K1 K2
    go_wp2_with fail
    go_ret
    rw [HRE.out]
    exact ⟨rfl, HS.out.kp, fun h => by simp at h⟩
  | true =>
    obtain ⟨k3, k4⟩ := K2.out rfl
    have K3 := Lib.hid k3; have K4 := Lib.hid k4
    have HB := st_rbits HS.out 1 rfl HF.out e1
    rw [H2.out] at HB
    have HB1 := Lib.hid HB
    clear K1 K2 k3 k4 HB HLN
    go_wp2_with fail
    refine HB1.out.mono ?_; rintro e wb ⟨rfl, hSb, hfb⟩
    have hSb' : St W wb (DW qs qr qo v large va vb LL LD { s with r := r1 }) := hSb
    clear c0 c2
    obtain ⟨c0, -, c2, -, -⟩ := DS.cells hSb'
    have ce := DS.err hSb'
    have hE := hfb.E
    obtain ⟨E1, hE1⟩ : ∃ E1, r1.err = E1 := ⟨_, rfl⟩
    rw [show ({ s with r := r1 } : SI).r.err = E1 from hE1] at ce
    rw [hE1] at hE
    rw [hE] at K3 K4
    have HSb := Lib.hid hSb'; have HFb := Lib.hid hfb
    clear HB1 hSb hfb hSb' hE hE1 HS HF H2
    by_cases g1 : E1 = 0
    · subst g1
      obtain ⟨k5, k6⟩ := K4.out rfl
      have K5 := Lib.hid k5; have K6 := Lib.hid k6
      have HN := st_rnext4 HSb.out 1 4 (by decide) rfl rfl HFb.out HL.out HWT.out
      rw [H3.out] at HN
      have HN1 := Lib.hid HN
      clear K3 K4 k5 k6 HN
      go_wp2_with fail
      refine HN1.out.mono ?_; rintro e wc ⟨rfl, hSc, hfc⟩
      have hSc' : St W wc (DW qs qr qo v large va vb LL LD { s with r := r2 }) := hSc
      clear c0 c2 ce
      obtain ⟨c0, -, c2, -, -⟩ := DS.cells hSc'
      have HSc := Lib.hid hSc'; have HFc := Lib.hid hfc
      clear HN1 hSc hfc hSc' HSb HFb H3
      by_cases g2 : er = 0
      · subst g2
        obtain ⟨k7, k8⟩ := K6.out rfl
        have K7 := Lib.hid k7; have K8 := Lib.hid k8
        clear K5 K6 k7 k8
        go_wp2_with fail
        refine (HDS.out wc).mono ?_; rintro e wd ⟨rfl, rfl⟩
        cases o2 with
        | false =>
          have HRE := Lib.hid (K7.out rfl)
          clear K7 K8
          go_wp2_with fail
          go_ret
          rw [HRE.out]
          exact ⟨rfl, HSc.out.kp, fun h => by simp at h⟩
        | true =>
          obtain ⟨k9, k10⟩ := K8.out rfl
          have K9 := Lib.hid k9; have K10 := Lib.hid k10
          have HB := st_rbits HSc.out 1 rfl HFc.out e2
          rw [H5.out] at HB
          have HB3 := Lib.hid HB
          clear K7 K8 k9 k10 HB HDS
          go_wp2_with fail
          refine HB3.out.mono ?_; rintro e we ⟨rfl, hSe, hfe⟩
          have hSe' : St W we (DW qs qr qo v large va vb LL LD { s with r := r3 }) := hSe
          clear c0 c2
          obtain ⟨c0, c1, -, -, -⟩ := DS.cells hSe'
          have ce := DS.err hSe'
          have hE := hfe.E
          obtain ⟨E3, hE3⟩ : ∃ E3, r3.err = E3 := ⟨_, rfl⟩
          rw [show ({ s with r := r3 } : SI).r.err = E3 from hE3] at ce
          rw [hE3] at hE
          rw [hE] at K9 K10
          have HSe := Lib.hid hSe'; have HFe := Lib.hid hfe
          clear HB3 hSe hfe hSe' hE hE3 HSc HFc H5
          by_cases g3 : E3 = 0
          · subst g3
            have HRE := Lib.hid (K10.out rfl)
            have hnl := HNL.out
            have hbl := HBL.out
            have hcp := st_rcopy HSe.out 2 rfl (dd : Int) (nn : Int) (by omega) (by show (s.o.b.length : Int) + _ ≤ _; split <;> omega)
            have hcp2 : Calls Tryz.prog 86 #[.pointer (some ⟨qo, 0, none⟩), .int .i64 dd, .int .i64 nn] we fun e w' => e = .returned (.int .i64 (s.o.copy dd nn).1) ∧ St W w' ((DW qs qr qo v large va vb LL LD { s with r := r3 }).set 2 (Ob.rx qo (s.o.copy dd nn).2)) := hcp
            have HCP := Lib.hid hcp2
            clear hcp hcp2 K9 K10 hnl hbl
            go_wp2_with fail
            refine HCP.out.mono ?_; rintro e wf ⟨rfl, hS⟩
            have HS6 := Lib.hid hS
            clear HCP hS
            go_wp2_with fail
            go_ret
            rw [HRE.out]
            exact ⟨rfl, HS6.out.kp, fun _ => ⟨HS6.out, HFe.out⟩⟩
          · have t3 : ((E3 : Int) != 0) = true := by simp; omega
            have HRE := Lib.hid (K9.out g3)
            have HG := Lib.hid g3
            clear K9 K10 g3
            go_wp2_with fail
            go_ret
            rw [HRE.out]
            exact ⟨rfl, HSe.out.kp, fun h => absurd h HG.out⟩
      · have t2 : ((er : Int) != 0) = true := by simp; omega
        have HRE := Lib.hid (K5.out g2)
        have HG := Lib.hid g2
        clear K5 K6 g2
        go_wp2_with fail
        go_ret
        rw [HRE.out]
        exact ⟨rfl, HSc.out.kp, fun h => absurd h HG.out⟩
    · have t1 : ((E1 : Int) != 0) = true := by simp; omega
      have HRE := Lib.hid (K3.out g1)
      have HG := Lib.hid g1
      clear K3 K4 g1
      go_wp2_with fail
      go_ret
      rw [HRE.out]
      exact ⟨rfl, HSb.out.kp, fun h => absurd h HG.out⟩
end Go.Proofs.YtokfcgloogdeiaaGreatDoor
namespace Go.Proofs.YtokfcgloogdeiaaGreatDoor
set_option linter.unusedVariables false
set_option linter.unusedSimpArgs false

/-- how many lengths at the beginning are alike -/
def likeN (x : Int) : List Int → Nat
  | [] => 0
  | y :: l => if y = x then likeN x l + 1 else 0
theorem likeN_le (x : Int) (l : List Int) : likeN x l ≤ l.length := by
  induction l with
  | nil => simp [likeN]
  | cons y l ih => rw [likeN]; split
                   · simp; omega
                   · simp
theorem likeN_take (x : Int) (l : List Int) (n : Nat) (h : n ≤ likeN x l) : l.take n = List.replicate n x := by
  induction l generalizing n with
  | nil => rw [likeN] at h; obtain rfl : n = 0 := by omega
           simp
  | cons y l ih =>
    cases n with
    | zero => simp
    | succ n =>
      rw [likeN] at h
      by_cases e : y = x
      · rw [if_pos e] at h
        rw [List.take_succ_cons, List.replicate_succ, ih n (by omega), e]
      · rw [if_neg e] at h; omega
theorem likeN_at (x : Int) (l : List Int) (j : Nat) (h : ∀ i, i < j → l[i]? = some x) (he : l[j]? ≠ some x) : likeN x l = j := by
  induction l generalizing j with
  | nil =>
    cases j with
    | zero => rfl
    | succ j => have := h 0 (by omega); simp at this
  | cons y l ih =>
    rw [likeN]
    cases j with
    | zero => rw [if_neg (by intro e; exact he (by simp [e]))]
    | succ j =>
      have h0 := h 0 (by omega)
      simp at h0
      rw [if_pos h0, ih j (fun i hi => by simpa using h (i + 1) (by omega)) (by simpa using he)]
/-- the symbol for what lengths begin with, and for how many it stands -/
def beg17 (l : List Int) (last : Int) : Lt × Nat :=
  if l.getD 0 0 = 0 ∧ 11 ≤ likeN (l.getD 0 0) l then (⟨18, min (likeN (l.getD 0 0) l) 138 - 11⟩, min (likeN (l.getD 0 0) l) 138)
  else if l.getD 0 0 = 0 ∧ 3 ≤ likeN (l.getD 0 0) l then (⟨17, min (likeN (l.getD 0 0) l) 10 - 3⟩, min (likeN (l.getD 0 0) l) 10)
  else if l.getD 0 0 = last ∧ 3 ≤ likeN (l.getD 0 0) l then (⟨16, min (likeN (l.getD 0 0) l) 6 - 3⟩, min (likeN (l.getD 0 0) l) 6)
  else (⟨(l.getD 0 0).toNat, 0⟩, 1)
def few17 : Nat → List Int → Int → List Lt
  | 0, _, _ => []
  | F + 1, l, last => if l = [] then [] else (beg17 l last).1 :: few17 F (l.drop (beg17 l last).2) (l.getD 0 0)
theorem beg_ok (l : List Int) (last : Int) (h0 : l ≠ []) (hl : ∀ z ∈ l, 0 ≤ z ∧ z ≤ 15) : (beg17 l last).1.sym < 19 ∧ (beg17 l last).1.x < 2 ^ ltBits (beg17 l last).1.sym ∧ 1 ≤ (beg17 l last).2 ∧ (beg17 l last).2 ≤ l.length ∧ (beg17 l last).1.often = (beg17 l last).2 ∧
    l.take (beg17 l last).2 = List.replicate (beg17 l last).2 (l.getD 0 0) ∧ ((beg17 l last).1.sym = 16 → l.getD 0 0 = last) ∧ (∀ all : List Int, all.getLastD 0 = last ∨ (beg17 l last).1.sym ≠ 16 → what17 all ((beg17 l last).1.sym : Int) = l.getD 0 0) := by
  have hle := likeN_le (l.getD 0 0) l
  have htk := likeN_take (l.getD 0 0) l
  have hz : 0 ≤ l.getD 0 0 ∧ l.getD 0 0 ≤ 15 := by
    cases l with
    | nil => exact absurd rfl h0
    | cons y l => exact hl y (by simp)
  have h1 : 1 ≤ likeN (l.getD 0 0) l := by
    cases l with
    | nil => exact absurd rfl h0
    | cons y l => show 1 ≤ likeN y (y :: l); rw [likeN, if_pos rfl]; omega
  unfold beg17
  generalize l.getD 0 0 = x at *
  generalize likeN x l = k at *
  by_cases c1 : x = 0 ∧ 11 ≤ k
  · rw [if_pos c1]
    obtain ⟨rfl, c1⟩ := c1
    refine ⟨by dsimp only; omega, ?_, by dsimp only; omega, by dsimp only; omega, ?_, htk _ (by dsimp only; omega), fun h => by simp at h, fun all _ => rfl⟩
    · show min k 138 - 11 < 128; omega
    · show 11 + (min k 138 - 11) = min k 138; omega
  · rw [if_neg c1]
    by_cases c2 : x = 0 ∧ 3 ≤ k
    · rw [if_pos c2]
      obtain ⟨rfl, c2⟩ := c2
      refine ⟨by dsimp only; omega, ?_, by dsimp only; omega, by dsimp only; omega, ?_, htk _ (by dsimp only; omega), fun h => by simp at h, fun all _ => rfl⟩
      · show min k 10 - 3 < 8; omega
      · show 3 + (min k 10 - 3) = min k 10; omega
    · rw [if_neg c2]
      by_cases c3 : x = last ∧ 3 ≤ k
      · rw [if_pos c3]
        refine ⟨by dsimp only; omega, ?_, by dsimp only; omega, by dsimp only; omega, ?_, htk _ (by dsimp only; omega), fun _ => c3.1, fun all h => ?_⟩
        · show min k 6 - 3 < 4; omega
        · show 3 + (min k 6 - 3) = min k 6; omega
        · rcases h with h | h
          · show all.getLastD 0 = x; rw [h, c3.1]
          · exact absurd rfl h
      · rw [if_neg c3]
        refine ⟨by dsimp only; omega, by dsimp only; exact Nat.two_pow_pos _, Nat.le_refl _, by dsimp only; omega, ?_, htk 1 h1, fun h => ?_, fun all _ => ?_⟩
        · unfold Lt.often; dsimp only; rw [if_neg (by omega), if_neg (by omega), if_neg (by omega)]
        · dsimp only at h; omega
        · unfold what17; dsimp only; rw [if_neg (by omega), if_neg (by omega)]; omega
theorem getLastD_rep (all : List Int) (n : Nat) (x : Int) (h : 1 ≤ n) : (all ++ List.replicate n x).getLastD 0 = x := by
  obtain ⟨m, rfl⟩ : ∃ m, n = m + 1 := ⟨n - 1, by omega⟩
  rw [List.replicate_succ', ← List.append_assoc]
  simp
/-- what is told by the tokens is what they were made of -/
theorem few_exp (F : Nat) (l : List Int) (last : Int) (all : List Int) (hF : l.length ≤ F) (hl : ∀ z ∈ l, 0 ≤ z ∧ z ≤ 15) (h1 : all ≠ [] → all.getLastD 0 = last) (h0 : all = [] → last = -1) :
    exp17 all (few17 F l last) = all ++ l ∧ (∀ t ∈ few17 F l last, t.sym < 19 ∧ t.x < 2 ^ ltBits t.sym) ∧ (all = [] → ∀ t, (few17 F l last).head? = some t → t.sym ≠ 16) := by
  induction F generalizing l last all with
  | zero =>
    obtain rfl : l = [] := List.eq_nil_of_length_eq_zero (by omega)
    exact ⟨by simp [few17, exp17], by simp [few17], by simp [few17]⟩
  | succ F ih =>
    rw [few17]
    by_cases hn : l = []
    · subst hn
      rw [if_pos rfl]
      exact ⟨by simp [exp17], by simp, by simp⟩
    · rw [if_neg hn]
      obtain ⟨b1, b2, b3, b4, b5, b6, b7, b8⟩ := beg_ok l last hn hl
      have hx : 0 ≤ l.getD 0 0 := by
        cases l with
        | nil => exact absurd rfl hn
        | cons y l => exact (hl y (by simp)).1
      generalize (beg17 l last).1 = t at *
      generalize (beg17 l last).2 = n at *
      have hw : what17 all (t.sym : Int) = l.getD 0 0 := by
        refine b8 all ?_
        by_cases e : all = []
        · refine .inr (fun h => ?_)
          have e1 := b7 h
          have e2 := h0 e
          omega
        · exact .inl (h1 e)
      obtain ⟨i1, i2, i3⟩ := ih (l.drop n) (l.getD 0 0) (all ++ List.replicate n (l.getD 0 0)) (by rw [List.length_drop]; omega) (fun z hz => hl z (List.mem_of_mem_drop hz)) (fun _ => getLastD_rep _ _ _ b3)
        (fun e => by have := congrArg List.length e; simp at this; omega)
      refine ⟨?_, ?_, ?_⟩
      · rw [exp17, b5, hw, i1, List.append_assoc, ← b6, List.take_append_drop]
      · intro u hu
        rcases List.mem_cons.1 hu with rfl | hu
        · exact ⟨b1, b2⟩
        · exact i2 u hu
      · intro e u hu
        simp at hu
        subst hu
        intro h
        have e1 := b7 h
        have e2 := h0 e
        omega
/-- tokens that stand for no length alone tell noughts -/
theorem exp17_zero (all : List Int) (ts : List Lt) (h : ∀ t ∈ ts, 16 ≤ t.sym ∧ t.sym < 19) (ha : ∀ z ∈ all, z = 0) : ∀ z ∈ exp17 all ts, z = 0 := by
  induction ts generalizing all with
  | nil => exact ha
  | cons t ts ih =>
    rw [exp17]
    refine ih _ (fun u hu => h u (by simp [hu])) (fun z hz => ?_)
    rcases List.mem_append.1 hz with hz | hz
    · exact ha z hz
    · have hz := (List.mem_replicate.1 hz).2
      have ht := h t (by simp)
      rw [hz]
      unfold what17
      by_cases e : (t.sym : Int) = 16
      · rw [if_pos e]
        cases hl : all.getLast? with
        | none => rw [List.getLastD_eq_getLast?, hl]; rfl
        | some y => rw [List.getLastD_eq_getLast?, hl]; exact ha y (List.mem_of_getLast? hl)
      · rw [if_neg e, if_pos (by omega)]
/-- tokens of one symbol that is a length tell that alone -/
theorem exp17_same (all : List Int) (ts : List Lt) (s : Nat) (hs : s < 16) (h : ∀ t ∈ ts, t.sym = s) : exp17 all ts = all ++ List.replicate ts.length (s : Int) := by
  induction ts generalizing all with
  | nil => simp [exp17]
  | cons t ts ih =>
    have ht := h t (by simp)
    have ho : t.often = 1 := by unfold Lt.often; rw [if_neg (by omega), if_neg (by omega), if_neg (by omega)]
    have hw : what17 all (t.sym : Int) = s := by unfold what17; rw [if_neg (by omega), if_neg (by omega)]; omega
    rw [exp17, ho, hw, ih _ (fun u hu => h u (by simp [hu])), List.append_assoc, List.length_cons]
    congr 1
/-- how often a symbol comes -/
def cnt17 (ts : List Lt) : List Int := (List.range 19).map fun s => ((ts.countP fun t => t.sym == s : Nat) : Int)
theorem cnt17_len (ts : List Lt) : (cnt17 ts).length = 19 := by simp [cnt17]
theorem cnt17_at (ts : List Lt) (s : Nat) (h : s < 19) : (cnt17 ts).getD s 0 = ((ts.countP fun t => t.sym == s : Nat) : Int) := by
  rw [List.getD_eq_getElem?_getD, List.getElem?_eq_getElem (by rw [cnt17_len]; exact h)]; simp [cnt17]
theorem ct_two (p : Nat → Bool) (N i j : Nat) (hij : i < j) (hj : j < N) (pi : p i = true) (pj : p j = true) : 2 ≤ ct p N := by
  have h1 : ∀ a b, a ≤ b → ct p a ≤ ct p b := fun a b h => sm_mono _ a b h
  have h2 : ct p (i + 1) = ct p i + 1 := by rw [ct_succ, pi]; rfl
  have h3 : ct p (j + 1) = ct p j + 1 := by rw [ct_succ, pj]; rfl
  have := h1 (i + 1) j hij
  have := h1 (j + 1) N hj
  omega
/-- how many lengths of the third code stand there -/
def thN (T : List Int) : Nat → Nat
  | 0 => 0
  | n + 1 => if T.getD (ordD.getD n 0) 0 = 0 then thN T n else n + 1
theorem thN_le (T : List Int) (n : Nat) : thN T n ≤ n := by
  induction n with
  | zero => exact Nat.le_refl _
  | succ n ih => rw [thN]; split <;> omega
theorem thN_zero (T : List Int) (n i : Nat) (h1 : thN T n ≤ i) (h2 : i < n) : T.getD (ordD.getD i 0) 0 = 0 := by
  induction n with
  | zero => omega
  | succ n ih =>
    rw [thN] at h1
    by_cases h : T.getD (ordD.getD n 0) 0 = 0
    · rw [if_pos h] at h1
      by_cases e : i = n
      · rw [e]; exact h
      · exact ih h1 (by omega)
    · rw [if_neg h] at h1; omega
theorem thN_ge (T : List Int) (n i : Nat) (h : i < n) (h0 : T.getD (ordD.getD i 0) 0 ≠ 0) : i < thN T n := by
  rcases Nat.lt_or_ge i (thN T n) with g | g
  · exact g
  · exact absurd (thN_zero T n i g h) h0
theorem ordD_late : ∀ s : Fin 16, ∃ i : Fin 19, 3 ≤ i.val ∧ ordD.getD i.val 0 = s.val := by decide
/-- lists that are right have two symbols at least, one of which is a length above 0 -/
theorem few_two (l d : List Int) (ts : List Lt) (h : right17 l d true = true) (he : exp17 [] ts = l ++ d) (h19 : ∀ t ∈ ts, t.sym < 19) : (∃ t ∈ ts, t.sym < 16) ∧ ∃ t ∈ ts, ∃ u ∈ ts, t.sym < u.sym := by
  unfold right17 at h
  simp only [Bool.and_eq_true, decide_eq_true_eq] at h
  obtain ⟨⟨a1, a2, a3, a4⟩, a5, a6, a7⟩ := h
  have hm : l.getD 256 0 = l[256]'(by omega) := by rw [List.getD_eq_getElem?_getD, List.getElem?_eq_getElem (by omega)]; rfl
  rw [hm] at a5
  have hp : ∃ t ∈ ts, t.sym < 16 := by
    refine Classical.byContradiction fun hno => ?_
    have := exp17_zero [] ts (fun t ht => ⟨by
      refine Classical.byContradiction fun hlt => hno ⟨t, ht, by omega⟩, h19 t ht⟩) (by simp) (l[256]'(by omega)) (by rw [he]; exact List.mem_append_left _ (List.getElem_mem _))
    omega
  refine ⟨hp, Classical.byContradiction fun hno => ?_⟩
  obtain ⟨t, ht, hs⟩ := hp
  have hall : ∀ u ∈ ts, u.sym = t.sym := fun u hu => by
    refine Classical.byContradiction fun hne => ?_
    rcases Nat.lt_or_ge t.sym u.sym with g | g
    · exact hno ⟨t, ht, u, hu, g⟩
    · exact hno ⟨u, hu, t, ht, by omega⟩
  have hsame := exp17_same [] ts t.sym hs hall
  rw [he, List.nil_append] at hsame
  have hl : l = List.replicate l.length (t.sym : Int) := by
    rw [List.eq_replicate_iff]
    refine ⟨rfl, fun z hz => ?_⟩
    have : z ∈ l ++ d := List.mem_append_left _ hz
    rw [hsame] at this
    exact (List.mem_replicate.1 this).2
  have hs0 : 0 < t.sym := by
    have h1 : l[256]'(by omega) ∈ List.replicate l.length (t.sym : Int) := hl ▸ List.getElem_mem _
    have := (List.mem_replicate.1 h1).2
    omega
  clear a5 hm he hsame hall hno
  generalize t.sym = s at *
  generalize hn : l.length = n at *
  have hword : l.countP (fun z => decide (0 < z)) = n := by
    rw [hl, List.countP_replicate, if_pos (by simpa using hs0)]
  unfold whole17 at a6
  rw [Bool.and_eq_true] at a6
  obtain ⟨_, a6⟩ := a6
  rw [hword, if_neg (by omega), Bool.or_eq_true, Bool.and_eq_true, decide_eq_true_eq, decide_eq_true_eq] at a6
  rcases a6 with a6 | a6
  · omega
  · obtain ⟨_, hw⟩ := chk_one (by simpa using a6)
    have hLn : Ln l = List.replicate n s := by
      rw [hl]; unfold Ln; rw [List.map_replicate]; rfl
    have hwt : wt (Ln l) = n * 2 ^ (16 - s) := by
      rw [hLn]; unfold wt; rw [List.map_replicate, List.sum_replicate_nat]; unfold wt1; rw [if_neg (by omega)]
    rw [hwt] at hw
    have hs' : s ≤ 15 := by omega
    have : ∀ s : Fin 16, ∀ k : Fin 30, (257 + k.val) * 2 ^ (16 - s.val) ≠ 65536 := by decide +kernel
    exact this ⟨s, by omega⟩ ⟨n - 257, by omega⟩ (by rw [show 257 + (n - 257) = n by omega]; exact hw)
end Go.Proofs.YtokfcgloogdeiaaGreatDoor
namespace Go.Proofs.YtokfcgloogdeiaaGreatDoor
set_option linter.unusedVariables false
set_option linter.unusedSimpArgs false
set_option maxRecDepth 100000
open Go.ChangeShapes Go.WideShapes Go.ChangeAt Go.RowKit

set_option maxHeartbeats 4000000 in
theorem rwords18_c {W w : World} {l : List UInt8} (qs qr qo : Nat) (v : Value) (large : Bool) (va vb : Value) (LL LD : List Nat) (hL : ∀ x ∈ LL, x ≤ 16) (hwl : wt LL ≤ 65536) (hD : ∀ x ∈ LD, x ≤ 16) (hwd : wt LD ≤ 65536) (F : Nat) (s : SI) (h : St W w (DW qs qr qo v large va vb LL LD s)) (hf : Fr W v l s.r)
    (hs : s.ok) (hcap : s.cap) (hn : s.n ≤ s.r.pos) (hl : l.length ≤ 1000000) (hF : 8 * l.length + 1 ≤ s.r.pos + F) : Calls Tryz.prog 52 #[.pointer (some ⟨qs, 0, none⟩), va, vb] w fun e w' =>
    e = .returned (.int .i64 (words18 large LL LD F s).1) ∧ Keep [] W w' ∧ ((words18 large LL LD F s).1 = 0 → St W w' (DW qs qr qo v large va vb LL LD (words18 large LL LD F s).2) ∧ Fr W v l (words18 large LL LD F s).2.r) := by
  obtain ⟨R, hR⟩ : ∃ R, words18 large LL LD F s = R := ⟨_, rfl⟩
  rw [hR]
  have HR := Lib.hid hR
  have HS := Lib.hid h; have HF := Lib.hid hf; have HL := Lib.hid hL; have HWL := Lib.hid hwl; have HD := Lib.hid hD; have HWD := Lib.hid hwd
  have HOK := Lib.hid hs; have HCAP := Lib.hid hcap
  clear hR h hf hL hwl hD hwd hs hcap
  go_enter Tryz.func52, Tryz.ntmps52
  go_wp2_with fail
  go_loopg [] F (fun g wr => ∃ (sk : SI), Hid (St W wr (DW qs qr qo v large va vb LL LD sk)) ∧ Hid (Fr W v l sk.r) ∧ Hid sk.ok ∧ Hid sk.cap ∧ sk.n ≤ sk.r.pos ∧ 8 * l.length + 1 ≤ sk.r.pos + g ∧ Hid (words18 large LL LD g sk = R))
  case atStart => exact ⟨s, HS, HF, HOK, HCAP, hn, hF, HR⟩
  case round =>
    clear HS HF HOK HCAP HR hn hF
    obtain ⟨sk, HS, HF, HOK, HCAP, hn, hg, HR⟩ := hrel
    have hpl : sk.r.pos ≤ 8 * l.length := by have := HOK.out.2.1; rw [HF.out.2.1] at this; exact this
    obtain ⟨f, rfl⟩ : ∃ f, gk = f + 1 := ⟨gk - 1, by omega⟩
    have hr := HR.out
    rw [words18] at hr
    obtain ⟨c0, -, -, c3, g3⟩ := DS.cells HS.out
    have ce := DS.err HS.out
    have hE := HF.out.E
    rw [HOK.out.1] at hE
    rw [← hE] at ce
    have HNX := st_rnext4 HS.out 1 3 (by decide) rfl rfl HF.out HL.out HWL.out
    have hng := next_good LL HL.out sk.r
    have hfn := fwd_next LL HL.out sk.r
    obtain ⟨x, er, r1, hx⟩ : ∃ x er r1, sk.r.next LL = (x, er, r1) := ⟨_, _, _, rfl⟩
    rw [hx] at HNX hr hng hfn
    dsimp only at HNX hr hng hfn
    have HN := Lib.hid HNX
    have HRR := Lib.hid hr
    have HNG := Lib.hid hng; have HFN := Lib.hid hfn
    clear HNX hr hng hfn hx HR hE
    go_wp2_with fail
    refine HN.out.mono ?_; rintro e w1 ⟨rfl, hS1, hf1⟩
    have hS1' : St W w1 (DW qs qr qo v large va vb LL LD { sk with r := r1 }) := hS1
    clear c0 c3 g3 ce
    obtain ⟨c0, c1, -, c3, g3⟩ := DS.cells hS1'
    have HS1 := Lib.hid hS1'; have HF1 := Lib.hid hf1
    clear HN hS1 hf1 hS1' HS HF
    by_cases g1 : er = 0
    · subst g1
      obtain ⟨i, hi, -, hxi, -⟩ := HNG.out rfl HOK.out.2.1
      subst hxi
      have hfw := HFN.out rfl HOK.out.2.1
      have hr2 := HRR.out
      rw [if_neg (by simp)] at hr2
      obtain ⟨n1, hn1⟩ : ∃ n1, sk.n + 1 = n1 := ⟨_, rfl⟩
      rw [hn1] at hr2
      have wn : IntKind.i64.wrap ((sk.n : Int) + 1) = (n1 : Int) := by rw [IntKind.wrap_i64]; omega
      have hS2 := DS.count HS1.out n1
      have HS2 : Hid (St W (w1.setCell ⟨qs, 3, none⟩ (.int .i64 n1)) (DW qs qr qo v large va vb LL LD ⟨r1, sk.o, n1⟩)) := hS2
      have hok2 : (⟨r1, sk.o, n1⟩ : SI).ok := ⟨hfw.E1, hfw.hp, HOK.out.2.2⟩
      have hcap2 : sk.o.b.length + 100000 ≤ 100000 * n1 := by have := HCAP.out; unfold SI.cap at this; omega
      have HOK2 := Lib.hid hok2; have HCAP2 := Lib.hid hcap2
      have hp1 : sk.r.pos + 1 ≤ r1.pos := hfw.p
      have hn2 : n1 ≤ r1.pos := by omega
      have hg2 : 8 * l.length + 1 ≤ r1.pos + f := by omega
      have hpl2 : r1.pos ≤ 8 * l.length := by have := hfw.le; rw [← HF1.out.2.1, hfw.l]; exact this
      have HNUM : Hid (n1 ≤ r1.pos ∧ 8 * l.length + 1 ≤ r1.pos + f ∧ r1.pos ≤ 8 * l.length) := ⟨hn2, hg2, hpl2⟩
      have HR2 := Lib.hid hr2
      dsimp only at c3
      obtain ⟨d0, d1, -, -, -⟩ := DS.cells HS2.out
      clear HRR hr2 HNG HFN hfw hok2 hcap2 hp1 hn2 hg2 hpl2 hS2 hn1 hpl hg hn HS1
      by_cases g2 : i = 256
      · have t2 : ((i : Int) == 256) = true := by simp; omega
        have t2' : (i == 256) = true := by simpa using g2
        have HRE : Hid (R = (0, ⟨r1, sk.o, n1⟩)) := by have := HR2.out; rw [if_pos (by omega)] at this; exact this.symm
        clear HR2 g2
        go_wp2_with fail
        go_ret
        rw [HRE.out]
        exact ⟨rfl, HS2.out.kp, fun _ => ⟨HS2.out, HF1.out⟩⟩
      · have t2 : ((i : Int) == 256) = false := by simp; omega
        have t2' : (i == 256) = false := by simpa using g2
        have hr3 := HR2.out
        rw [if_neg (by omega)] at hr3
        have htk := tok18_adv large LD HD.out (i : Int) ⟨r1, sk.o, n1⟩
        have htc := tok18_cap large LD (i : Int) ⟨r1, sk.o, n1⟩
        have ht : tok18 large LD (i : Int) ⟨r1, sk.o, n1⟩ = if (i : Int) < 256 then ((sk.o.lit (UInt8.ofNat i)).1, ⟨r1, (sk.o.lit (UInt8.ofNat i)).2, n1⟩) else copy18 large LD (i : Int) ⟨r1, sk.o, n1⟩ := by
          unfold tok18; rw [Int.toNat_natCast]
        obtain ⟨et, st, hts⟩ : ∃ et st, tok18 large LD (i : Int) ⟨r1, sk.o, n1⟩ = (et, st) := ⟨_, _, rfl⟩
        rw [hts] at hr3 htk htc ht
        dsimp only at hr3 htk htc
        have HR3 := Lib.hid hr3; have HTK := Lib.hid htk; have HTC := Lib.hid htc
        by_cases g3' : i < 256
        · have t3 : decide ((i : Int) < 256) = true := by simp; omega
          have t3' : decide (i < 256) = true := by simpa using g3'
          have hc : (UInt8.ofNat i).toNat = i := by rw [UInt8.toNat_ofNat']; exact Nat.mod_eq_of_lt g3'
          have wx : IntKind.u8.wrap (i : Int) = (i : Int) := by rw [IntKind.wrap_u8]; omega
          rw [if_pos (by omega)] at ht
          have e1 : (sk.o.lit (UInt8.ofNat i)).1 = et := (congrArg Prod.fst ht).symm
          have e2 : st = ⟨r1, (sk.o.lit (UInt8.ofNat i)).2, n1⟩ := congrArg Prod.snd ht
          have hL := st_rlit HS2.out 2 rfl (UInt8.ofNat i) (by have := HCAP2.out; have := HNUM.out; show sk.o.b.length + 1 ≤ _; omega)
          rw [hc] at hL
          have hL2 : Calls Tryz.prog 70 #[.pointer (some ⟨qo, 0, none⟩), .int .u8 i] (w1.setCell ⟨qs, 3, none⟩ (.int .i64 n1)) fun e w' => e = .returned (.int .i64 et) ∧ St W w' (DW qs qr qo v large va vb LL LD st) := by
            rw [e2, ← e1]; exact hL
          have hfs : Fr W v l st.r := by rw [e2]; exact HF1.out
          have HLT := Lib.hid hL2; have HFS := Lib.hid hfs
          clear hL hL2 hfs e1 e2 ht hts hr3 htk htc hc g3' g2 HR2
          go_wp2_with fail
          refine HLT.out.mono ?_; rintro e w3 ⟨rfl, hS3⟩
          have HS3 := Lib.hid hS3
          have HK3 := Lib.hid hS3.kp
          clear HLT hS3 HS2
          by_cases g4 : et = 0
          · subst g4
            have hr4 := HR3.out
            rw [if_neg (by simp)] at hr4
            have HR4 := Lib.hid hr4
            have ha := HTK.out rfl HOK2.out
            have hb := HTC.out rfl
            have HA := Lib.hid ha; have HB := Lib.hid hb
            clear hr4 HR3 HTK HTC ha hb
            go_wp2_with fail
            go_roundg f
            case rel =>
              obtain ⟨q1, q2, q3⟩ := HNUM.out
              have hA := HA.out
              obtain ⟨b1, b2⟩ := HB.out
              have h1 := hA.fw.p
              dsimp only at h1 b1 b2
              refine ⟨st, HS3, HFS, hA.ok, ?_, by omega, by omega, HR4.out⟩
              have hc := HCAP2.out
              show st.o.b.length ≤ 100000 * st.n
              rw [b2]; omega
            case measure => omega
          · have t4 : ((et : Int) != 0) = true := by simp; omega
            have HRE : Hid (R = (et, sk)) := by have := HR3.out; rw [if_pos g4] at this; exact this.symm
            have HG := Lib.hid g4
            clear HR3 g4 HTK HTC
            go_wp2_with fail
            go_ret
            rw [HRE.out]
            exact ⟨rfl, HK3.out, fun h => absurd h HG.out⟩
        · have t3 : decide ((i : Int) < 256) = false := by simp; omega
          have t3' : decide (i < 256) = false := by simpa using g3'
          rw [if_neg (by omega)] at ht
          have hcp := rcopy18_c qs qr qo v large va vb LL LD HD.out HWD.out ⟨r1, sk.o, n1⟩ (i : Int) HS2.out HF1.out (by have := HCAP2.out; have := HNUM.out; show sk.o.b.length ≤ _; omega)
          rw [← ht] at hcp
          have HLT := Lib.hid hcp
          clear hcp ht hts hr3 htk htc g3' g2 HR2
          go_wp2_with fail
          refine HLT.out.mono ?_; rintro e w3 ⟨rfl, hk3, hS3⟩
          have HS3 := Lib.hid hS3
          have HK3 := Lib.hid hk3
          clear HLT hS3 hk3 HS2
          by_cases g4 : et = 0
          · subst g4
            have hr4 := HR3.out
            rw [if_neg (by simp)] at hr4
            have HR4 := Lib.hid hr4
            have ha := HTK.out rfl HOK2.out
            have hb := HTC.out rfl
            have HA := Lib.hid ha; have HB := Lib.hid hb
            clear hr4 HR3 HTK HTC ha hb
            go_wp2_with fail
            go_roundg f
            case rel =>
              obtain ⟨q1, q2, q3⟩ := HNUM.out
              have hA := HA.out
              obtain ⟨b1, b2⟩ := HB.out
              have h1 := hA.fw.p
              dsimp only at h1 b1 b2
              refine ⟨st, (HS3.out trivial).1, (HS3.out trivial).2, hA.ok, ?_, by omega, by omega, HR4.out⟩
              have hc := HCAP2.out
              show st.o.b.length ≤ 100000 * st.n
              rw [b2]; omega
            case measure => omega
          · have t4 : ((et : Int) != 0) = true := by simp; omega
            have HRE : Hid (R = (et, sk)) := by have := HR3.out; rw [if_pos g4] at this; exact this.symm
            have HG := Lib.hid g4
            clear HR3 g4 HTK HTC
            go_wp2_with fail
            go_ret
            rw [HRE.out]
            exact ⟨rfl, HK3.out, fun h => absurd h HG.out⟩
    · have t1 : ((er : Int) != 0) = true := by simp; omega
      have HRE : Hid (R = (er, sk)) := by have := HRR.out; rw [if_pos g1] at this; exact this.symm
      have HG := Lib.hid g1
      clear HRR g1 HNG HFN
      go_wp2_with fail
      go_ret
      rw [HRE.out]
      exact ⟨rfl, HS1.out.kp, fun h => absurd h HG.out⟩
end Go.Proofs.YtokfcgloogdeiaaGreatDoor
namespace Go.Proofs.YtokfcgloogdeiaaGreatDoor
set_option linter.unusedVariables false
set_option linter.unusedSimpArgs false
set_option maxRecDepth 100000
open Go.ChangeShapes Go.WideShapes Go.ChangeAt Go.RowKit

theorem codes18_len (large : Bool) (kind : Nat) (r : RS) (h : (codes18 large kind r).1 = 0) (hp : r.pos ≤ 8 * r.l.length) : Ln (codes18 large kind r).2.1 ≠ [] ∧ Ln (codes18 large kind r).2.2.1 ≠ [] := by
  have key : ∀ zs : List Int, 0 < zs.length → Ln zs ≠ [] := fun zs h e => by
    have := congrArg List.length e; rw [Ln_length] at this; simp at this; rw [this] at h; simp at h
  unfold codes18 at h ⊢
  by_cases hk : kind = 2
  · rw [if_pos hk] at h ⊢
    obtain ⟨_, b⟩ := rd17_fwd r large h hp
    obtain ⟨_, _, c, _, d, _⟩ := right_werr b
    exact ⟨key _ (by dsimp only; omega), key _ (by dsimp only; omega)⟩
  · rw [if_neg hk]
    exact ⟨key _ (by show 0 < fixL.length; rw [fixL_len]; decide), key _ (by show 0 < fixD.length; decide)⟩
theorem wt_of_werr {zs : List Int} (h : werr zs = 0) : wt (Ln zs) ≤ 65536 := (werr_ok h).2
set_option maxHeartbeats 4000000 in
theorem rblock18_c {W w : World} {l : List UInt8} (qs qr qo : Nat) (v : Value) (large : Bool) (F : Nat) (s : SI) (h : St W w (DS qs qr qo v large s)) (hf : Fr W v l s.r)
    (hs : s.ok) (hcap : s.cap) (hn : s.n ≤ s.r.pos) (hl : l.length ≤ 1000000) (hF : 8 * l.length + 1 ≤ s.r.pos + F) : Calls Tryz.prog 27 #[.pointer (some ⟨qs, 0, none⟩)] w fun e w' =>
    e = .returned (.tuple #[.bool (block18 large F s).1, .int .i64 (block18 large F s).2.1]) ∧ Keep [] W w' ∧ ((block18 large F s).2.1 = 0 → St W w' (DS qs qr qo v large (block18 large F s).2.2) ∧ Fr W v l (block18 large F s).2.2.r) := by
  obtain ⟨x1, r1, h1⟩ : ∃ x1 r1, s.r.bits 1 = (x1, r1) := ⟨_, _, rfl⟩
  obtain ⟨x2, r2, h2⟩ : ∃ x2 r2, r1.bits 2 = (x2, r2) := ⟨_, _, rfl⟩
  have hx2 : x2 < 4 := by have := bits_lt15 r1 2 (by decide); rw [show ((2 : Nat) : Int) = 2 from rfl, h2] at this; exact this
  have hh : head18 s.r = (decide (x1 = 1), x2, r2) := by unfold head18; rw [h1]; dsimp only; rw [h2]
  have hfw := head18_fwd s.r
  rw [hh] at hfw
  dsimp only at hfw
  have hb : block18 large F s = if r2.E ≠ 0 then (false, r2.E, s) else if x2 = 0 then (decide (x1 = 1), plain18 ⟨r2, s.o, s.n + 1⟩) else if x2 = 3 then (false, 4, s)
      else if (codes18 large x2 r2).1 ≠ 0 then (false, (codes18 large x2 r2).1, s) else (decide (x1 = 1), words18 large (Ln (codes18 large x2 r2).2.1) (Ln (codes18 large x2 r2).2.2.1) F ⟨(codes18 large x2 r2).2.2.2, s.o, s.n + 1⟩) := by
    unfold block18; rw [hh]
  obtain ⟨R, hR⟩ : ∃ R, block18 large F s = R := ⟨_, rfl⟩
  rw [hR] at hb ⊢
  have HBK := Lib.hid hb
  have HFW := Lib.hid hfw
  have HB := st_rbits h 1 rfl hf 1
  rw [h1] at HB
  have HB1 := Lib.hid HB
  have H2 := Lib.hid h2
  have HOK := Lib.hid hs; have HCAP := Lib.hid hcap
  have HNU : Hid (s.n ≤ s.r.pos ∧ l.length ≤ 1000000 ∧ 8 * l.length + 1 ≤ s.r.pos + F ∧ s.r.l = l) := ⟨hn, hl, hF, hf.2.1⟩
  obtain ⟨c0, -, -, -, -⟩ := DS.cells (tl := []) h
  obtain ⟨bl, hbl⟩ : ∃ bl, decide (x1 = 1) = bl := ⟨_, rfl⟩
  have tb : ((x1 : Int) == 1) = bl := by rw [← hbl]; by_cases e : x1 = 1 <;> simp [e]; omega
  have tb' : (x1 == 1) = bl := by rw [← hbl]; by_cases e : x1 = 1 <;> simp [e]
  rw [hbl] at HBK
  clear hbl
  clear h hf hs hcap hn hl hF h1 h2 hh hfw hb hR HB
  go_enter Tryz.func27, Tryz.ntmps27
  go_wp2_with fail
  refine HB1.out.mono ?_; rintro e wa ⟨rfl, hSa, hfa⟩
  have hSa' : St W wa (DS qs qr qo v large { s with r := r1 }) := hSa
  have HB := st_rbits hSa' 1 rfl hfa 2
  rw [H2.out] at HB
  have HB2 := Lib.hid HB
  clear c0
  obtain ⟨c0, -, -, -, -⟩ := DS.cells (tl := []) hSa'
  clear HB1 hSa hfa hSa' HB
  go_wp2_with fail
  refine HB2.out.mono ?_; rintro e wb ⟨rfl, hSb, hfb⟩
  have hSb' : St W wb (DS qs qr qo v large { s with r := r2 }) := hSb
  clear c0
  obtain ⟨c0, -, c2, c3, g3⟩ := DS.cells (tl := []) hSb'
  have ce := DS.err (tl := []) hSb'
  have hE := hfb.E
  obtain ⟨E2, hE2⟩ : ∃ E2, r2.err = E2 := ⟨_, rfl⟩
  rw [show ({ s with r := r2 } : SI).r.err = E2 from hE2] at ce
  rw [hE2] at hE
  rw [hE] at HBK HFW
  have HS := Lib.hid hSb'; have HF := Lib.hid hfb
  clear HB2 hSb hfb hSb' hE hE2 H2
  dsimp only at c3
  by_cases g0 : E2 = 0
  · subst g0
    have hfw := HFW.out rfl HOK.out.2.1
    obtain ⟨n1, hn1⟩ : ∃ n1, s.n + 1 = n1 := ⟨_, rfl⟩
    have hbk := HBK.out
    rw [if_neg (by simp), hn1] at hbk
    have HBK2 := Lib.hid hbk
    have hnu := HNU.out
    have hpl : s.r.pos ≤ 8 * l.length := by have := HOK.out.2.1; rw [hnu.2.2.2] at this; exact this
    have wn : IntKind.i64.wrap ((s.n : Int) + 1) = (n1 : Int) := by rw [IntKind.wrap_i64]; omega
    have HS2 : Hid (St W (wb.setCell ⟨qs, 3, none⟩ (.int .i64 n1)) (DS qs qr qo v large ⟨r2, s.o, n1⟩)) := DS.count (tl := []) HS.out n1
    obtain ⟨d0, d1, d2, -, -⟩ := DS.cells (tl := []) HS2.out
    have hok2 : (⟨r2, s.o, n1⟩ : SI).ok := ⟨hfw.E1, hfw.hp, HOK.out.2.2⟩
    have hcap2 : (⟨r2, s.o, n1⟩ : SI).cap := by have := HCAP.out; unfold SI.cap at this ⊢; dsimp only; omega
    have hp3 : s.r.pos + 3 ≤ r2.pos := hfw.p
    have hnum : n1 ≤ r2.pos ∧ 8 * l.length + 1 ≤ r2.pos + F ∧ r2.pos ≤ 8 * l.length := by
      have := hfw.le; rw [hnu.2.2.2] at this; omega
    have HOK2 := Lib.hid hok2; have HCAP2 := Lib.hid hcap2; have HNUM := Lib.hid hnum
    have hcok := fun g => codes18_ok large x2 r2 g hfw.E1 hfw.hp
    have hcln := fun g => codes18_len large x2 r2 g hfw.hp
    have HCOK := Lib.hid hcok; have HCLN := Lib.hid hcln
    have HLL : Hid (l.length ≤ 1000000) := hnu.2.1
    clear hfw HFW HBK hbk hnu hpl hok2 hcap2 hp3 hnum hcok hcln hn1 HS HOK HCAP HNU c2
    by_cases k0 : x2 = 0
    · have t1 : ((x2 : Int) == 0) = true := by simp; omega
      have t1' : (x2 == 0) = true := by simpa using k0
      have hpn := rplain18_c qs qr qo v large ⟨r2, s.o, n1⟩ HS2.out HF.out (by have := HCAP2.out; have := HNUM.out; have := HLL.out; unfold SI.cap at *; dsimp only at *; omega) (by have := HNUM.out; have := HLL.out; dsimp only; omega)
      have HRE : Hid (R = (bl, plain18 ⟨r2, s.o, n1⟩)) := by have := HBK2.out; rw [if_pos k0] at this; exact this
      have HPN := Lib.hid hpn
      clear hpn k0 HBK2 HCOK HCLN
      go_wp2_with fail
      refine HPN.out.mono ?_; rintro e wc ⟨rfl, hk, hS⟩
      have HK3 := Lib.hid hk; have HS3 := Lib.hid hS
      clear HPN hk hS
      go_wp2_with fail
      go_ret2
      rw [HRE.out]
      exact ⟨rfl, HK3.out, HS3.out⟩
    have t1 : ((x2 : Int) == 0) = false := by simp; omega
    have t1' : (x2 == 0) = false := by simpa using k0
    by_cases k3 : x2 = 3
    · have t2 : ((x2 : Int) == 3) = true := by simp; omega
      have t2' : (x2 == 3) = true := by simpa using k3
      have HRE : Hid (R = (false, 4, s)) := by have := HBK2.out; rw [if_neg k0, if_pos k3] at this; exact this
      clear k0 k3 HBK2 HCOK HCLN
      go_wp2_with fail
      go_ret2
      rw [HRE.out]
      exact ⟨rfl, HS2.out.kp, fun h => by simp at h⟩
    have t2 : ((x2 : Int) == 3) = false := by simp; omega
    have t2' : (x2 == 3) = false := by simpa using k3
    have hbk := HBK2.out
    rw [if_neg k0, if_neg k3] at hbk
    have HBK3 := Lib.hid hbk
    have HFX := Lib.hid (rfixed18_c (wb.setCell ⟨qs, 3, none⟩ (.int .i64 n1)))
    clear hbk HBK2
    by_cases k2 : x2 = 2
    · subst k2
      have HCD : Hid (codes18 large 2 r2 = ((rd17 r2 large).2.2.1, (rd17 r2 large).1, (rd17 r2 large).2.1, (rd17 r2 large).2.2.2)) := rfl
      clear k0 k3 t1 t1' t2 t2'
      go_wp2_with fail
      refine HFX.out.mono ?_; rintro e wc ⟨f1v, f2v, rfl, -, -, kc, -, -⟩
      have HSC := Lib.hid (HS2.out.read kc)
      have hrd := st_rread17 (HSC.out.read ((Keep.refl [] wc).drew)) 1 rfl HF.out large
      obtain ⟨LT, DT, er, rx, hrr⟩ : ∃ LT DT er rx, rd17 r2 large = (LT, DT, er, rx) := ⟨_, _, _, _, rfl⟩
      have hrd2 : Calls Tryz.prog 51 #[.pointer (some ⟨qr, 0, none⟩), .bool large] wc.drew fun e w' => ∃ v1 v2, e = .returned (.tuple #[v1, v2, .int .i64 er]) ∧ Is .i64 w' v1 LT ∧ Is .i64 w' v2 DT ∧ St W w' (DS qs qr qo v large ⟨rx, s.o, n1⟩) ∧ Fr W v l rx := by
        have := hrd
        dsimp only at this
        rw [hrr] at this
        exact this
      have hcv : codes18 large 2 r2 = (er, LT, DT, rx) := by rw [HCD.out, hrr]
      have HRD := Lib.hid hrd2; have HCV0 := Lib.hid hcv
      clear d0 d1 d2
      obtain ⟨d0, -, d2, -, -⟩ := DS.cells (tl := []) HSC.out
      clear HFX kc hrd hrd2 hrr hcv HCD
      go_wp2_with fail
      go_upto_region 13 with fail
      go_cut [6, 7, 8] (fun vl vd ve wx => ve = .int .i64 er ∧ Is .i64 wx vl LT ∧ Is .i64 wx vd DT ∧ St W wx (DS qs qr qo v large ⟨rx, s.o, n1⟩) ∧ Fr W v l rx)
      case first =>
        go_region_with (first | (go_at_call 51; (refine HRD.out.mono ?_); (rintro e w3 ⟨vl, vd, rfl, i1, i2, hS, hf2⟩)))
        all_goals
          go_wp2_with fail
          go_meet
          exact ⟨rfl, i1, i2, hS, hf2⟩
      case rest =>
      obtain ⟨rfl, i1, i2, hS, hf2⟩ := hcut
      obtain ⟨vl, hvl⟩ : ∃ vl, u6 = vl := ⟨_, rfl⟩
      obtain ⟨vd, hvd⟩ : ∃ vd, u7 = vd := ⟨_, rfl⟩
      rw [hvl] at i1 ⊢
      rw [hvd] at i2 ⊢
      clear hvl hvd
      generalize wc = wd at *
      have HIL := Lib.hid i1; have HID2 := Lib.hid i2; have HSX := Lib.hid hS; have HFX2 := Lib.hid hf2
      clear HRD i1 i2 hS hf2 HSC HS2 d0 d2
      by_cases ge : er = 0
      · subst ge
        have HCV : Hid (codes18 large 2 r2 = (0, LT, DT, rx)) := HCV0.out
        have hc0 : (codes18 large 2 r2).1 = 0 := by rw [HCV.out]
        have HC00 := Lib.hid hc0
        clear hc0
        have hcok := HCOK.out HC00.out
        have hcln := HCLN.out HC00.out
        rw [HCV.out] at hcok hcln
        dsimp only at hcok hcln
        obtain ⟨f1, ⟨l1, l2⟩, d1', d2'⟩ := hcok
        obtain ⟨n1', n2'⟩ := hcln
        have hre := HBK3.out
        rw [HCV.out, if_neg (by simp)] at hre
        have HW1 := Lib.hid (refwords_ok wd vl LT (HIL.out) l1)
        have HWW := Lib.hid (fun wy (k : Keep [] wd wy) => refwords_ok wy vd DT (HID2.out.keep k (by simp)) d1')
        have HL16 := Lib.hid l2; have HD16 := Lib.hid d2'; have HWL := Lib.hid (wt_of_werr l1); have HWD := Lib.hid (wt_of_werr d1')
        have HN1 := Lib.hid n1'; have HN2 := Lib.hid n2'; have HRE := Lib.hid hre
        have hpos : n1 ≤ rx.pos ∧ 8 * l.length + 1 ≤ rx.pos + F := by have := f1.p; have := HNUM.out; omega
        have hokx : (⟨rx, s.o, n1⟩ : SI).ok := ⟨f1.E1, f1.hp, HOK2.out.2.2⟩
        have HPOS := Lib.hid hpos; have HOKX := Lib.hid hokx
        clear hre f1 l1 l2 d1' d2' n1' n2' hpos hokx HCOK HCLN HBK3 HIL HID2 HCV
        go_wp2_with fail
        refine HW1.out.mono ?_; rintro e wf ⟨vw, rfl, hcd, kf, hbw⟩
        have HSF : Hid (St W wf (DS qs qr qo v large ⟨rx, s.o, n1⟩ ++ [Ob.cds4 vw (Ln LT)])) :=
          HSX.out.push (Ob.cds4 vw (Ln LT)) vw.ownBlock.toList ⟨rfl, hcd, HN1.out⟩ kf (fun b hb => hbw b (by simpa using hb))
        have HW2 := Lib.hid (HWW.out wf kf)
        clear HW1 HWW hcd kf hbw HSX
        go_wp2_with fail
        refine HW2.out.mono ?_; rintro e wg ⟨vw2, rfl, hcd, kg, hbw⟩
        have HSG : Hid (St W wg (DW qs qr qo v large vw vw2 (Ln LT) (Ln DT) ⟨rx, s.o, n1⟩)) :=
          HSF.out.push (Ob.cds4 vw2 (Ln DT)) vw2.ownBlock.toList ⟨rfl, hcd, HN2.out⟩ kg (fun b hb => hbw b (by simpa using hb))
        have HWS := Lib.hid (rwords18_c qs qr qo v large vw vw2 (Ln LT) (Ln DT) HL16.out HWL.out HD16.out HWD.out F ⟨rx, s.o, n1⟩ HSG.out HFX2.out HOKX.out HCAP2.out HPOS.out.1 HLL.out HPOS.out.2)
        clear HW2 hcd kg hbw HSF
        go_wp2_with fail
        refine HWS.out.mono ?_; rintro e wh ⟨rfl, hk, hS⟩
        have HK3 := Lib.hid hk; have HS3 := Lib.hid hS
        clear HWS hk hS
        go_wp2_with fail
        go_ret2
        rw [HRE.out]
        refine ⟨rfl, HK3.out, fun h0 => ?_⟩
        obtain ⟨q1, q2⟩ := HS3.out h0
        exact ⟨(q1.pop (Ps := DS qs qr qo v large _ ++ [Ob.cds4 vw (Ln LT)])).pop (Ps := DS qs qr qo v large _), q2⟩
      · have te : ((er : Int) != 0) = true := by simp; omega
        have HRE : Hid (R = (false, er, s)) := by have := HBK3.out; rw [HCV0.out, if_pos ge] at this; exact this
        have HG := Lib.hid ge
        clear ge HBK3 HCOK HCLN
        go_wp2_with fail
        go_ret2
        rw [HRE.out]
        exact ⟨rfl, HSX.out.kp, fun h => absurd h HG.out⟩
    · have hcv : codes18 large x2 r2 = (0, fixL, fixD, r2) := by unfold codes18; rw [if_neg k2]
      have HCV := Lib.hid hcv
      have hc0 : (codes18 large x2 r2).1 = 0 := by rw [hcv]
      have HC00 := Lib.hid hc0
      have t3 : ((x2 : Int) == 2) = false := by simp; omega
      have t3' : (x2 == 2) = false := by simpa using k2
      have HFX2 : Hid (Fr W v l r2) := HF.out
      clear k0 k2 k3 hcv hc0
      go_wp2_with fail
      refine HFX.out.mono ?_; rintro e wd ⟨vl, vd, rfl, i1, i2, kc, -, -⟩
      have HSX := Lib.hid (HS2.out.read kc)
      have HIL := Lib.hid i1.is; have HID2 := Lib.hid i2.is
      clear d0 d1 d2
      obtain ⟨d0, -, d2, -, -⟩ := DS.cells (tl := []) HSX.out
      clear HFX kc i1 i2 HS2
      have hcok := HCOK.out HC00.out
      have hcln := HCLN.out HC00.out
      rw [HCV.out] at hcok hcln
      dsimp only at hcok hcln
      obtain ⟨f1, ⟨l1, l2⟩, d1', d2'⟩ := hcok
      obtain ⟨n1', n2'⟩ := hcln
      have hre := HBK3.out
      rw [HCV.out, if_neg (by simp)] at hre
      have HW1 := Lib.hid (refwords_ok wd vl fixL (HIL.out) l1)
      have HWW := Lib.hid (fun wy (k : Keep [] wd wy) => refwords_ok wy vd fixD (HID2.out.keep k (by simp)) d1')
      have HL16 := Lib.hid l2; have HD16 := Lib.hid d2'; have HWL := Lib.hid (wt_of_werr l1); have HWD := Lib.hid (wt_of_werr d1')
      have HN1 := Lib.hid n1'; have HN2 := Lib.hid n2'; have HRE := Lib.hid hre
      have hpos : n1 ≤ r2.pos ∧ 8 * l.length + 1 ≤ r2.pos + F := by have := f1.p; have := HNUM.out; omega
      have hokx : (⟨r2, s.o, n1⟩ : SI).ok := ⟨f1.E1, f1.hp, HOK2.out.2.2⟩
      have HPOS := Lib.hid hpos; have HOKX := Lib.hid hokx
      clear hre f1 l1 l2 d1' d2' n1' n2' hpos hokx HCOK HCLN HBK3 HIL HID2 HCV
      go_wp2_with fail
      refine HW1.out.mono ?_; rintro e wf ⟨vw, rfl, hcd, kf, hbw⟩
      have HSF : Hid (St W wf (DS qs qr qo v large ⟨r2, s.o, n1⟩ ++ [Ob.cds4 vw (Ln fixL)])) :=
        HSX.out.push (Ob.cds4 vw (Ln fixL)) vw.ownBlock.toList ⟨rfl, hcd, HN1.out⟩ kf (fun b hb => hbw b (by simpa using hb))
      have HW2 := Lib.hid (HWW.out wf kf)
      clear HW1 HWW hcd kf hbw HSX
      go_wp2_with fail
      refine HW2.out.mono ?_; rintro e wg ⟨vw2, rfl, hcd, kg, hbw⟩
      have HSG : Hid (St W wg (DW qs qr qo v large vw vw2 (Ln fixL) (Ln fixD) ⟨r2, s.o, n1⟩)) :=
        HSF.out.push (Ob.cds4 vw2 (Ln fixD)) vw2.ownBlock.toList ⟨rfl, hcd, HN2.out⟩ kg (fun b hb => hbw b (by simpa using hb))
      have HWS := Lib.hid (rwords18_c qs qr qo v large vw vw2 (Ln fixL) (Ln fixD) HL16.out HWL.out HD16.out HWD.out F ⟨r2, s.o, n1⟩ HSG.out HFX2.out HOKX.out HCAP2.out HPOS.out.1 HLL.out HPOS.out.2)
      clear HW2 hcd kg hbw HSF
      go_wp2_with fail
      refine HWS.out.mono ?_; rintro e wh ⟨rfl, hk, hS⟩
      have HK3 := Lib.hid hk; have HS3 := Lib.hid hS
      clear HWS hk hS
      go_wp2_with fail
      go_ret2
      rw [HRE.out]
      refine ⟨rfl, HK3.out, fun h0 => ?_⟩
      obtain ⟨q1, q2⟩ := HS3.out h0
      exact ⟨(q1.pop (Ps := DS qs qr qo v large _ ++ [Ob.cds4 vw (Ln fixL)])).pop (Ps := DS qs qr qo v large _), q2⟩
  · have t0 : ((E2 : Int) != 0) = true := by simp; omega
    have HRE : Hid (R = (false, E2, s)) := by have := HBK.out; rw [if_pos g0] at this; exact this
    have HG := Lib.hid g0
    clear HBK g0 HFW
    go_wp2_with fail
    go_quiet (fail)
    go_wp2_with fail
    go_ret2
    rw [HRE.out]
    exact ⟨rfl, HS.out.kp.drewN _, fun h => absurd h HG.out⟩
end Go.Proofs.YtokfcgloogdeiaaGreatDoor
namespace Go.Proofs.YtokfcgloogdeiaaGreatDoor
set_option linter.unusedVariables false
set_option linter.unusedSimpArgs false
set_option maxRecDepth 100000
open Go.ChangeShapes Go.WideShapes Go.ChangeAt Go.RowKit

theorem refdec18_neg (w : World) (v : Value) (large : Bool) (size : Int) (h : size < 0) : Calls Tryz.prog 9 #[v, .bool large, .int .i64 size] w fun e w' => e = .returned (.tuple #[.slice none 0 0, .int .i64 0, .int .i64 2]) ∧ w = w' := by
  have h1 : decide (size < 0) = true := by simpa using h
  clear h
  go_enter Tryz.func9, Tryz.ntmps9
  go_wp2_with fail
  go_ret3
  exact ⟨rfl, rfl⟩
set_option maxHeartbeats 8000000 in
theorem refdec18_ok (w : World) (v : Value) (b : List UInt8) (large : Bool) (size : Nat) (hb : Bs w v b) (hl : b.length ≤ 1000000) (hs : (size : Int) ≤ 9223372036854775807) :
    Calls Tryz.prog 9 #[v, .bool large, .int .i64 size] w fun e w' => ∃ v', e = .returned (.tuple #[v', .int .i64 (dec18 b large size).2.1, .int .i64 (dec18 b large size).2.2]) ∧ Bs w' v' (dec18 b large size).1 ∧ Keep [] w w' := by
  have hsz1 : decide ((size : Int) < 0) = false := by simp
  obtain ⟨D, hD⟩ : ∃ D, run18 b large size = D := ⟨_, rfl⟩
  have hdec : dec18 b large size = if D.1 ≠ 0 then ([], 0, D.1) else if D.2.o.b.length ≠ size then ([], 0, 9) else if 8 ≤ D.2.r.left then ([], 0, 5) else (D.2.o.b, D.2.n, 0) := by
    unfold dec18; rw [if_neg (by omega), Int.toNat_natCast, hD]
  obtain ⟨R, hR⟩ : ∃ R, dec18 b large size = R := ⟨_, rfl⟩
  rw [hR] at hdec ⊢
  have HDEC := Lib.hid hdec
  unfold run18 at hD
  have HD := Lib.hid hD
  obtain ⟨a, c, rfl, _, _⟩ := hb.shape
  have HW := (St.nil w).pushBox #[.slice a b.length c, .int .i64 0, .int .i64 0] 68
  have HW1 : St w (w.alloc (.cells #[.slice a b.length c, .int .i64 0, .int .i64 0] 68)) [Ob.rr w.heap.size (.slice a b.length c) ⟨b, 0, true, 0⟩] := HW
  have hwin : win18 large ≤ 65536 := by unfold win18; split <;> decide
  have HW2 := HW1.push (Ob.rx (w.heap.size + 1) ⟨win18 large, size, false, []⟩) [w.heap.size + 1] (w' := (w.alloc (.cells #[.slice a b.length c, .int .i64 0, .int .i64 0] 68)).alloc (.cells #[.int .i64 (win18 large), .int .i64 size, .bool false, .slice none 0 0] 71)) ⟨.slice none 0 0, rfl, by
    have := Blk.new (w.alloc (.cells #[.slice a b.length c, .int .i64 0, .int .i64 0] 68)) #[.int .i64 (win18 large), .int .i64 size, .bool false, .slice none 0 0] 71
    rw [World.size_alloc] at this
    exact this, OwnB.nil _, by simp [Value.ownBlock], by show size ≤ 9223372036854775807; omega, hwin⟩ ((Keep.refl [] _).alloc _) (by intro z hz; simp at hz; subst hz; simp)
  have HFR : Fr w (.slice a b.length c) b ⟨b, 0, true, 0⟩ := ⟨hb, rfl, ⟨Nat.zero_le _, by show b.length ≤ 140737488355328; omega, by show 0 < 100; decide⟩, rfl⟩
  have HFF := Lib.hid HFR
  have HH := Lib.hid HW2
  have HLL := Lib.hid hl
  have HSZ := Lib.hid hs
  clear hb HW HW1 HW2 HFR hR hdec hD hwin
  go_enter Tryz.func9, Tryz.ntmps9
  go_upto_if 15 with fail
  go_cut [9] (fun v9 wx => v9 = .int .i64 (win18 large) ∧ wx = w)
  case first =>
    cases large
    all_goals
      go_wp2_with fail
      go_meet
      exact ⟨rfl, rfl⟩
  case rest =>
  obtain ⟨rfl, hwc⟩ := hcut
  have h := hwc.symm
  subst h
  have HH3 : Hid (St w (((w.alloc (.cells #[.slice a b.length c, .int .i64 0, .int .i64 0] 68)).alloc (.cells #[.int .i64 (win18 large), .int .i64 size, .bool false, .slice none 0 0] 71)).alloc (.cells #[.pointer (some ⟨w.heap.size, 0, none⟩), .pointer (some ⟨w.heap.size + 1, 0, none⟩), .bool large, .int .i64 0] 73)) (DS (w.heap.size + 2) w.heap.size (w.heap.size + 1) (.slice a b.length c) large ⟨⟨b, 0, true, 0⟩, ⟨win18 large, size, false, []⟩, 0⟩)) := by
    have := (HH.out.pushBox (sCells w.heap.size (w.heap.size + 1) large 0) 73).sub (DS (w.heap.size + 2) w.heap.size (w.heap.size + 1) (.slice a b.length c) large ⟨⟨b, 0, true, 0⟩, ⟨win18 large, size, false, []⟩, 0⟩) (fun j => [2, 0, 1].getD j 0) (fun j => [1, 2, 0].getD j 0) (fun j hj => by
      rcases j with _ | _ | _ | j
      · refine ⟨?_, rfl⟩
        have e : ((w.alloc (.cells #[.slice a b.length c, .int .i64 0, .int .i64 0] 68)).alloc (.cells #[.int .i64 (win18 large), .int .i64 size, .bool false, .slice none 0 0] 71)).heap.size = w.heap.size + 2 := by simp
        show some (Ob.box _ _ _) = some (Ob.box _ _ _)
        rw [e]
      · exact ⟨rfl, rfl⟩
      · exact ⟨rfl, rfl⟩
      · simp [DS] at hj; omega)
    exact this
  clear HH hwc
  go_wp2_with fail
  obtain ⟨g, hg⟩ : ∃ g, w.heap.size = g := ⟨_, rfl⟩
  rw [hg] at HH3 ⊢
  clear hg
  obtain ⟨qs, hqs⟩ : ∃ qs, g + 1 + 1 = qs := ⟨_, rfl⟩
  rw [show g + 2 = qs from hqs] at HH3
  rw [hqs]
  clear hqs
  obtain ⟨qo, hqo⟩ : ∃ qo, g + 1 = qo := ⟨_, rfl⟩
  rw [hqo] at HH3 ⊢
  clear hqo
  generalize (((w.alloc (.cells #[.slice a b.length c, .int .i64 0, .int .i64 0] 68)).alloc (.cells #[.int .i64 (win18 large), .int .i64 size, .bool false, .slice none 0 0] 71)).alloc (.cells #[.pointer (some ⟨g, 0, none⟩), .pointer (some ⟨qo, 0, none⟩), .bool large, .int .i64 0] 73)) = w1 at HH3 ⊢
  obtain ⟨vb, hvb⟩ : ∃ vb, Value.slice a b.length c = vb := ⟨_, rfl⟩
  rw [hvb] at HH3 HFF ⊢
  go_loopg [11, 12] (8 * b.length + 1) (fun gg lv ev wr => ∃ (bl : Bool) (er : Nat), lv = .bool bl ∧ ev = .int .i64 er ∧ Hid (Keep [] w wr) ∧ Hid (er ≠ 0 → R = ([], 0, er)) ∧
    Hid (er = 0 → ∃ sk : SI, St w wr (DS qs g qo vb large sk) ∧ Fr w vb b sk.r ∧ sk.ok ∧ sk.cap ∧ sk.n ≤ sk.r.pos ∧ sk.o.most = size ∧ (bl = false → 8 * b.length + 1 ≤ sk.r.pos + gg ∧ blocks18 large (8 * b.length + 1) gg sk = D) ∧ (bl = true → D = (0, sk))))
  case atStart => exact ⟨false, 0, rfl, rfl, HH3.out.kp, fun h => absurd rfl h, fun _ => ⟨_, HH3.out, HFF.out, ⟨rfl, Nat.zero_le _, Nat.zero_le _⟩, Nat.zero_le _, Nat.zero_le _, rfl, fun _ => ⟨by dsimp only; omega, HD.out⟩, fun h => by simp at h⟩⟩
  case round =>
    clear HH3 HD HFF
    obtain ⟨bl, er, rfl, rfl, HK, HE, HG⟩ := hrel
    by_cases he : er = 0
    · subst he
      obtain ⟨sk, hS, hF, hok, hcap, hnp, hmost, hfa, htr⟩ := HG.out rfl
      have HS := Lib.hid hS; have HF := Lib.hid hF; have HOK := Lib.hid hok; have HCAP := Lib.hid hcap
      have hpl : sk.r.pos ≤ 8 * b.length := by have := hok.2.1; rw [hF.2.1] at this; exact this
      have HLL2 := HLL.out
      cases bl with
      | false =>
        obtain ⟨hg1, hg2⟩ := hfa rfl
        obtain ⟨f, rfl⟩ : ∃ f, gk = f + 1 := ⟨gk - 1, by omega⟩
        rw [blocks18] at hg2
        have hblk := rblock18_c qs g qo vb large (8 * b.length + 1) sk hS hF hok hcap hnp hl (by omega)
        have hadv := block18_adv large (8 * b.length + 1) sk
        have hbc := block18_cap large (8 * b.length + 1) sk
        obtain ⟨b2, e2, s2, hbe⟩ : ∃ b2 e2 s2, block18 large (8 * b.length + 1) sk = (b2, e2, s2) := ⟨_, _, _, rfl⟩
        rw [hbe] at hg2 hblk hadv hbc
        dsimp only at hg2 hblk hadv hbc
        have HBLK := Lib.hid hblk; have HG2 := Lib.hid hg2; have HADV := Lib.hid hadv; have HBC := Lib.hid hbc
        have HNUM : Hid (sk.n ≤ sk.r.pos ∧ 8 * b.length + 1 ≤ sk.r.pos + (f + 1) ∧ sk.o.most = size) := ⟨hnp, hg1, hmost⟩
        clear hg1 hg2 hblk hadv hbc hbe hS hF hok hcap hnp hmost hfa htr HG hpl
        go_wp2_with fail
        refine HBLK.out.mono ?_; rintro e w2 ⟨rfl, hk, hS2⟩
        have HK2 := Lib.hid hk; have HS2 := Lib.hid hS2
        clear HBLK hk hS2
        go_wp2_with fail
        go_roundg f
        case rel =>
          refine ⟨b2, e2, rfl, rfl, HK2.out, fun h => ?_, fun h => ?_⟩
          · have hd := HG2.out
            rw [if_pos h] at hd
            have := HDEC.out
            rw [← hd] at this
            rw [if_pos h] at this; exact this
          · have hd := HG2.out
            rw [if_neg (by simpa using h)] at hd
            have ha := HADV.out h HOK.out
            obtain ⟨q1, q2⟩ := HS2.out h
            obtain ⟨m1, m2, m3⟩ := HNUM.out
            have h1 := ha.fw.p
            have h2 := ha.n
            refine ⟨s2, q1, q2, ha.ok, HBC.out h HCAP.out, by omega, ha.most.trans m3, fun hb => ?_, fun hb => ?_⟩
            · rw [if_neg (by simp [hb])] at hd
              exact ⟨by omega, hd⟩
            · rw [if_pos hb] at hd; exact hd.symm
        case measure => omega
      | true =>
        have hd := htr rfl
        have hdec := HDEC.out
        rw [hd, if_neg (by simp)] at hdec
        dsimp only at hdec
        have HDE := Lib.hid hdec
        obtain ⟨c0, c1, -, c3, -⟩ := DS.cells (tl := []) hS
        obtain ⟨vo, hvo⟩ := hS.rx 2 rfl
        have hown := hvo.2.1.bs
        obtain ⟨ao, co, hvo2, _, _⟩ := hown.shape
        subst hvo2
        have co3 : wr.cell? ⟨qo, 3, none⟩ = some (.slice ao sk.o.b.length co) := hvo.1.cell 3 _ rfl
        have HOW := Lib.hid hown
        have hlen := HOK.out.2.2
        rw [hmost] at hlen
        by_cases h9 : sk.o.b.length = size
        · have t9 : ((sk.o.b.length : Int) != (size : Int)) = false := by simp [h9]
          have t9' : (sk.o.b.length != size) = false := by simp [h9]
          rw [if_neg (by simpa using h9)] at HDE
          have HLF := Lib.hid (st_rleft hS 1 rfl hF)
          have HKW : Hid (∀ m, Keep [] wr (wr.drewN m)) := fun m => (Keep.refl [] wr).drewN m
          obtain ⟨lf, hlf⟩ : ∃ lf, sk.r.left = lf := ⟨_, rfl⟩
          rw [hlf] at HDE HLF
          have hlfb : lf ≤ 8 * b.length := by rw [← hlf]; unfold RS.left; rw [hF.2.1]; split <;> omega
          have C0 : Hid (∀ m, (wr.drewN m).cell? ⟨qs, 1, none⟩ = some (.pointer (some ⟨qo, 0, none⟩)) ∧ (wr.drewN m).cell? ⟨qs, 3, none⟩ = some (.int .i64 sk.n) ∧ (wr.drewN m).cell? ⟨qo, 3, none⟩ = some (.slice ao sk.o.b.length co)) := fun m => ⟨c1, c3, co3⟩
          clear hd hdec hlf hfa htr hS hF hok hcap hnp hmost HG hvo hown h9 hpl
          by_cases h8 : 8 ≤ lf
          · rw [if_pos h8] at HDE
            have t8 : decide ((8 : Int) ≤ (lf : Int)) = true := decide_eq_true (by omega)
            have t8' : decide (8 ≤ lf) = true := decide_eq_true h8
            clear h8
            go_wp2_with fail
            refine HLF.out.mono ?_; rintro e w2 ⟨rfl, m, rfl⟩
            go_wp2_with fail
            go_ret3
            rw [HDE.out]
            exact ⟨.slice none 0 0, rfl, Bs.nil _, HK.out.drewN m⟩
          · rw [if_neg h8] at HDE
            have t8 : decide ((8 : Int) ≤ (lf : Int)) = false := decide_eq_false (by omega)
            have t8' : decide (8 ≤ lf) = false := decide_eq_false h8
            clear h8
            go_wp2_with fail
            refine HLF.out.mono ?_; rintro e w2 ⟨rfl, m, rfl⟩
            obtain ⟨q1, q3, q4⟩ := C0.out m
            have HOW2 : Hid (Bs (wr.drewN m) (.slice ao sk.o.b.length co) sk.o.b) := HOW.out.keep ((Keep.refl [] wr).drewN m) (by simp)
            have HK2 : Hid (Keep [] w (wr.drewN m)) := HK.out.drewN m
            clear HLF C0 HOW HK HKW
            generalize wr.drewN m = w2 at *
            go_wp2_with fail
            go_quiet (fail)
            go_wp2_with fail
            go_ret3
            rw [HDE.out]
            exact ⟨.slice ao sk.o.b.length co, rfl, HOW2.out.keep ((Keep.refl [] w2).drewN _) (by simp), HK2.out.drewN _⟩
        · have t9 : ((sk.o.b.length : Int) != (size : Int)) = true := by simp; omega
          have t9' : (sk.o.b.length != size) = true := by simp [h9]
          rw [if_pos h9] at HDE
          clear hd hdec hfa htr hS hF hok hcap hnp hmost HG hvo hown h9 hpl
          go_wp2_with fail
          go_ret3
          rw [HDE.out]
          exact ⟨.slice none 0 0, rfl, Bs.nil _, HK.out⟩
    · have t1 : ((er : Int) == 0) = false := by simp; omega
      have t1' : ((er : Int) != 0) = true := by simp; omega
      have HDE := Lib.hid (HE.out he)
      clear HE HG he
      cases bl
      all_goals
        go_wp2_with fail
        go_ret3
        rw [HDE.out]
        exact ⟨.slice none 0 0, rfl, Bs.nil _, HK.out⟩
theorem refdec18_c (w : World) (v : Value) (b : List UInt8) (large : Bool) (size : Int) (hb : Bs w v b) (hl : b.length ≤ 1000000) (hs : (Lit.int .i64 size).wf = true) :
    Calls Tryz.prog 9 #[v, .bool large, .int .i64 size] w fun e w' => ∃ v', e = .returned (.tuple #[v', .int .i64 (dec18 b large size).2.1, .int .i64 (dec18 b large size).2.2]) ∧ Bs w' v' (dec18 b large size).1 ∧ Keep [] w w' := by
  have hs2 : -9223372036854775808 ≤ size ∧ size ≤ 9223372036854775807 := by simpa [Lit.wf, IntKind.min, IntKind.max, IntKind.bits, IntKind.signed] using hs
  by_cases h : size < 0
  · have hd : dec18 b large size = ([], 0, 2) := by unfold dec18; rw [if_pos h]
    rw [hd]
    refine (refdec18_neg w v large size h).mono ?_
    rintro e w' ⟨rfl, rfl⟩
    exact ⟨_, rfl, Bs.nil _, Keep.refl _ _⟩
  · obtain ⟨m, rfl⟩ : ∃ m : Nat, size = m := ⟨size.toNat, by omega⟩
    exact refdec18_ok w v b large m hb hl hs2.2
end Go.Proofs.YtokfcgloogdeiaaGreatDoor
namespace Go.Proofs.YtokfcgloogdeiaaGreatDoor
set_option linter.unusedVariables false
set_option linter.unusedSimpArgs false

/-- a word, if there is one -/
def wordB (L : List Nat) (s : Nat) : List Bool := if s < L.length then bitsOf (code L s) (len L s) else []
/-- a token's bits -/
def tokB (large : Bool) (LL LD : List Nat) (t : Tk) : List Bool :=
  if t.len = 0 then wordB LL t.lit.toNat
  else ((wordB LL (lcOf t.len large).1 ++ bitsOf (lcOf t.len large).2.2.1 (lcOf t.len large).2.1) ++ wordB LD (dcOf t.dist large).1) ++ bitsOf (dcOf t.dist large).2.2.1 (dcOf t.dist large).2.1
/-- a token has words -/
def hasT (large : Bool) (LL LD : List Nat) (t : Tk) : Prop :=
  (t.len = 0 → t.lit.toNat < LL.length ∧ 0 < len LL t.lit.toNat) ∧
  (t.len ≠ 0 → (lcOf t.len large).2.2.2 = true ∧ (dcOf t.dist large).2.2.2 = true ∧ (lcOf t.len large).1 < LL.length ∧ (dcOf t.dist large).1 < LD.length ∧ 0 < len LL (lcOf t.len large).1 ∧ 0 < len LD (dcOf t.dist large).1)
theorem word_at (L : List UInt8) (LL : List Nat) (i : Nat) (hi : i < LL.length) (h0 : 0 < len LL i) (hL : ∀ x ∈ LL, x ≤ 16) (hw : wt LL ≤ 65536) (pre post : List Bool) (h : toBits L = (pre ++ wordB LL i) ++ post) :
    (⟨L, pre.length, true, 0⟩ : RS).next LL = ((i : Int), 0, ⟨L, (pre ++ wordB LL i).length, true, 0⟩) := by
  unfold wordB at h ⊢
  rw [if_pos hi] at h ⊢
  exact next_at L LL i hi h0 hL hw pre post h
theorem lcOf_ge (n : Int) (large : Bool) (h : (lcOf n large).2.2.2 = true) : 257 ≤ (lcOf n large).1 ∧ (lcOf n large).2.1 ≤ 16 := by
  obtain ⟨b, h1, _, _⟩ := lcOf_stand n large h
  have h2 := lenOf_le18 ((lcOf n large).1 : Int) large
  rw [h1] at h2
  refine ⟨?_, h2.2⟩
  unfold lenOf at h1
  by_cases g : ((lcOf n large).1 : Int) < 257 ∨ 285 < ((lcOf n large).1 : Int)
  · rw [if_pos g] at h1; simp at h1
  · omega
theorem dstOf_le18 (x : Int) (large : Bool) : (dstOf x large).2.1 ≤ 14 := by
  unfold dstOf
  by_cases h1 : x < 0 ∨ 31 < x ∨ (29 < x ∧ large = false)
  · rw [if_pos h1]; decide
  · rw [if_neg h1]
    obtain ⟨m, rfl⟩ : ∃ m : Nat, x = m := ⟨x.toNat, by omega⟩
    have := dbs_le ⟨m, by omega⟩
    rw [Int.toNat_natCast]
    exact this.2
theorem dcOf_le (n : Int) (large : Bool) (h : (dcOf n large).2.2.2 = true) : (dcOf n large).2.1 ≤ 14 := by
  obtain ⟨b, h1, _, _⟩ := dcOf_stand n large h
  have h2 := dstOf_le18 ((dcOf n large).1 : Int) large
  rw [h1] at h2; exact h2
section
variable {L : List UInt8} {large : Bool} {LL LD : List Nat} (hL : ∀ x ∈ LL, x ≤ 16) (hwl : wt LL ≤ 65536) (hD : ∀ x ∈ LD, x ≤ 16) (hwd : wt LD ≤ 65536)
include hL hwl hD hwd
/-- a token's word, then what stands behind it -/
theorem tok_at (t : Tk) (ht : hasT large LL LD t) (o : HS) (n : Nat) (pre post : List Bool) (h : toBits L = (pre ++ tokB large LL LD t) ++ post) :
    ∃ (x : Int) (r1 : RS), (⟨L, pre.length, true, 0⟩ : RS).next LL = (x, 0, r1) ∧ x ≠ 256 ∧ (tok18 large LD x ⟨r1, o, n⟩).1 = (o.tk t).1 ∧ ((o.tk t).1 = 0 → tok18 large LD x ⟨r1, o, n⟩ = (0, ⟨⟨L, (pre ++ tokB large LL LD t).length, true, 0⟩, (o.tk t).2, n⟩)) := by
  unfold tokB at h ⊢
  by_cases h0 : t.len = 0
  · rw [if_pos h0] at h ⊢
    obtain ⟨g1, g2⟩ := ht.1 h0
    have hn := word_at L LL _ g1 g2 hL hwl pre post h
    have hlt := t.lit.toNat_lt
    have htk : o.tk t = o.lit t.lit := by unfold HS.tk; rw [if_pos h0]
    refine ⟨_, _, hn, by omega, ?_, fun hz => ?_⟩
    · unfold tok18
      rw [if_pos (by omega), Int.toNat_natCast, UInt8.ofNat_toNat, htk]
    · rw [htk] at hz ⊢
      unfold tok18
      rw [if_pos (by omega), Int.toNat_natCast, UInt8.ofNat_toNat, hz]
  · rw [if_neg h0] at h ⊢
    obtain ⟨g1, g2, g3, g4, g5, g6⟩ := ht.2 h0
    obtain ⟨b1, e1, e2, e3⟩ := lcOf_stand t.len large g1
    obtain ⟨b2, d1, d2, d3⟩ := dcOf_stand t.dist large g2
    obtain ⟨m1, m2⟩ := lcOf_ge t.len large g1
    have m3 := dcOf_le t.dist large g2
    generalize lcOf t.len large = LC at *
    obtain ⟨c, lb, lx, lo⟩ := LC
    generalize dcOf t.dist large = DC at *
    obtain ⟨d, db, dx, dz⟩ := DC
    dsimp only at *
    have hn := word_at L LL c g3 g5 hL hwl pre ((bitsOf lx lb ++ wordB LD d) ++ bitsOf dx db ++ post) (by rw [h]; simp [List.append_assoc])
    have hb1 := bits_at L (pre ++ wordB LL c) (wordB LD d ++ bitsOf dx db ++ post) lx lb (by rw [h]; simp [List.append_assoc]) (by omega) e3
    have hn2 := word_at L LD d g4 g6 hD hwd ((pre ++ wordB LL c) ++ bitsOf lx lb) (bitsOf dx db ++ post) (by rw [h]; simp [List.append_assoc])
    have hb2 := bits_at L (((pre ++ wordB LL c) ++ bitsOf lx lb) ++ wordB LD d) post dx db (by rw [h]; simp [List.append_assoc]) (by omega) d3
    have hE : ∀ k, (⟨L, k, true, 0⟩ : RS).E = 0 := fun k => rfl
    have hlx : lenX large (c : Int) ⟨L, (pre ++ wordB LL c).length, true, 0⟩ = (0, b1 + lx, ⟨L, ((pre ++ wordB LL c) ++ bitsOf lx lb).length, true, 0⟩) := by
      unfold lenX
      rw [e1]
      dsimp only
      rw [if_neg (by simp), hb1]
      dsimp only
      rw [if_neg (by rw [hE]; simp)]
    have hdx : dstX large LD ⟨L, ((pre ++ wordB LL c) ++ bitsOf lx lb).length, true, 0⟩ = (0, b2 + dx, ⟨L, ((((pre ++ wordB LL c) ++ bitsOf lx lb) ++ wordB LD d) ++ bitsOf dx db).length, true, 0⟩) := by
      unfold dstX
      rw [hn2]
      dsimp only
      rw [if_neg (by simp), d1]
      dsimp only
      rw [if_neg (by simp), hb2]
      dsimp only
      rw [if_neg (by rw [hE]; simp)]
    have hc : ∀ n, copy18 large LD (c : Int) ⟨⟨L, (pre ++ wordB LL c).length, true, 0⟩, o, n⟩ = ((o.copy t.dist t.len).1, ⟨⟨L, ((((pre ++ wordB LL c) ++ bitsOf lx lb) ++ wordB LD d) ++ bitsOf dx db).length, true, 0⟩, (o.copy t.dist t.len).2, n⟩) := by
      intro n
      unfold copy18
      dsimp only
      rw [hlx]
      dsimp only
      rw [if_neg (by simp), hdx]
      dsimp only
      rw [if_neg (by simp), show ((b2 + dx : Nat) : Int) = t.dist by omega, show ((b1 + lx : Nat) : Int) = t.len by omega]
    have htk : o.tk t = o.copy t.dist t.len := by unfold HS.tk; rw [if_neg h0]
    refine ⟨_, _, hn, by omega, ?_, fun hz => ?_⟩
    · unfold tok18
      rw [if_neg (by omega), hc, htk]
    · unfold tok18
      rw [if_neg (by omega), hc]
      rw [htk] at hz ⊢
      rw [hz]
      simp only [List.append_assoc]
/-- words of tokens, and the end -/
theorem words_at (h256 : 256 < LL.length ∧ 0 < len LL 256) (ts : List Tk) (hts : ∀ t ∈ ts, hasT large LL LD t) (F : Nat) (hF : ts.length < F) (o : HS) (n : Nat) (pre post : List Bool) (h : toBits L = (pre ++ (ts.flatMap (tokB large LL LD) ++ wordB LL 256)) ++ post) :
    ((tellT o ts).1 = 0 → words18 large LL LD F ⟨⟨L, pre.length, true, 0⟩, o, n⟩ = (0, ⟨⟨L, (pre ++ (ts.flatMap (tokB large LL LD) ++ wordB LL 256)).length, true, 0⟩, (tellT o ts).2, n + ts.length + 1⟩)) ∧
    ((tellT o ts).1 ≠ 0 → (words18 large LL LD F ⟨⟨L, pre.length, true, 0⟩, o, n⟩).1 = (tellT o ts).1) := by
  induction ts generalizing F o n pre with
  | nil =>
    obtain ⟨F, rfl⟩ : ∃ G, F = G + 1 := ⟨F - 1, by simp at hF; omega⟩
    rw [List.flatMap_nil, List.nil_append] at h ⊢
    have hn := word_at L LL 256 h256.1 h256.2 hL hwl pre post h
    rw [tellT, words18]
    dsimp only
    rw [hn]
    dsimp only
    refine ⟨fun _ => ?_, fun h => absurd rfl h⟩
    rw [if_neg (show ¬ ((0 : Nat) ≠ 0) by simp), if_pos (show ((256 : Nat) : Int) = 256 from rfl)]; rfl
  | cons t ts ih =>
    obtain ⟨F, rfl⟩ : ∃ G, F = G + 1 := ⟨F - 1, by simp at hF; omega⟩
    rw [List.flatMap_cons] at h ⊢
    obtain ⟨x, r1, hn, hx, ht1, ht2⟩ := tok_at hL hwl hD hwd t (hts t (by simp)) o (n + 1) pre (ts.flatMap (tokB large LL LD) ++ wordB LL 256 ++ post) (by rw [h]; simp [List.append_assoc])
    rw [tellT, words18]
    dsimp only
    rw [hn]
    dsimp only
    rw [if_neg (show ¬ ((0 : Nat) ≠ 0) by simp), if_neg hx]
    by_cases hz : (o.tk t).1 = 0
    · rw [if_pos hz, ht2 hz]
      dsimp only
      rw [if_neg (show ¬ ((0 : Nat) ≠ 0) by simp)]
      have := ih (fun x hx => hts x (by simp [hx])) F (by simp at hF; omega) (o.tk t).2 (n + 1) (pre ++ tokB large LL LD t) (by rw [h]; simp [List.append_assoc])
      refine ⟨fun h0 => ?_, fun h0 => ?_⟩
      · rw [this.1 h0]
        simp only [List.append_assoc, List.length_cons]
        congr 3
        omega
      · exact this.2 h0
    · rw [if_neg hz, ht1, if_pos hz]
      exact ⟨fun h0 => absurd h0 hz, fun _ => rfl⟩
end
/-- bytes as tokens -/
def litT (bs : List UInt8) : List Tk := bs.map fun c => ⟨c, 0, 0⟩
theorem plL_at (L : List UInt8) (bs : List UInt8) (o : HS) (n : Nat) (pre post : List Bool) (h : toBits L = (pre ++ b8 bs) ++ post) :
    ((tellT o (litT bs)).1 = 0 → plL bs.length ⟨⟨L, pre.length, true, 0⟩, o, n⟩ = (0, ⟨⟨L, (pre ++ b8 bs).length, true, 0⟩, (tellT o (litT bs)).2, n + bs.length⟩)) ∧
    ((tellT o (litT bs)).1 ≠ 0 → (plL bs.length ⟨⟨L, pre.length, true, 0⟩, o, n⟩).1 = (tellT o (litT bs)).1) := by
  induction bs generalizing o n pre with
  | nil => exact ⟨fun _ => by simp [plL, litT, tellT, b8], fun h => by simp [litT, tellT] at h⟩
  | cons c bs ih =>
    rw [b8_cons] at h ⊢
    have hb := bits_at L pre (b8 bs ++ post) c.toNat 8 (by rw [h]; simp [List.append_assoc]) (by decide) c.toNat_lt
    have e8 : ((8 : Nat) : Int) = 8 := rfl
    rw [e8] at hb
    have hE : ∀ k, (⟨L, k, true, 0⟩ : RS).E = 0 := fun k => rfl
    have hcons : litT (c :: bs) = ⟨c, 0, 0⟩ :: litT bs := rfl
    have htk : o.tk ⟨c, 0, 0⟩ = o.lit c := by unfold HS.tk; rw [if_pos rfl]
    rw [hcons, tellT, htk, List.length_cons, plL]
    dsimp only
    rw [hb]
    dsimp only
    rw [if_neg (show ¬ ((⟨L, (pre ++ bitsOf c.toNat 8).length, true, 0⟩ : RS).E ≠ 0) by rw [hE]; simp), UInt8.ofNat_toNat]
    by_cases hz : (o.lit c).1 = 0
    · rw [if_pos hz, if_neg (show ¬ ((o.lit c).1 ≠ 0) by simpa using hz)]
      have := ih (o.lit c).2 (n + 1) (pre ++ bitsOf c.toNat 8) (by rw [h]; simp [List.append_assoc])
      refine ⟨fun h0 => ?_, fun h0 => this.2 h0⟩
      rw [this.1 h0]
      rw [show n + 1 + bs.length = n + (bs.length + 1) by omega, List.append_assoc]
    · rw [if_neg hz, if_pos hz]
      exact ⟨fun h0 => absurd h0 hz, fun _ => rfl⟩
end Go.Proofs.YtokfcgloogdeiaaGreatDoor
