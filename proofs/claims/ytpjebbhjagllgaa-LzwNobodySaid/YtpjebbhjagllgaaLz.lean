/- Contracts of lzw's calls over the landed code, as the laws of layer 10 and later layers use them. -/
import Derived.Test.YtpjebbhjagllgaaLz6
namespace Go.Proofs.Ytpjebbhjagllgaa
set_option linter.unusedVariables false
set_option linter.unusedSimpArgs false
open Go.ChangeShapes Go.WideShapes Go.ChangeAt Go.RowKit

/-- block q is the program's table s, bs its blocks -/
def LTab (w : World) (q : Nat) (bs : List Nat) (s : LT) : Prop := ∃ (sb : Nat) (vg : Value) (g k : Nat) (gs : List Nat), LTb w q sb vg g k gs s ∧ bs = q :: sb :: g :: vg.ownBlock.toList
theorem LTab.keep {w w' : World} {q : Nat} {bs S : List Nat} {s : LT} (h : LTab w q bs s) (k : Keep S w w') (hs : ∀ b ∈ bs, b ∉ S) : LTab w' q bs s := by
  obtain ⟨sb, vg, g, kk, gs, h, rfl⟩ := h
  exact ⟨sb, vg, g, kk, gs, h.keep k (hs q (by simp)) (hs sb (by simp)) (hs g (by simp)) (fun b hb => hs b (by simp [hb])), rfl⟩
theorem LTab.lt {w : World} {q : Nat} {bs : List Nat} {s : LT} (h : LTab w q bs s) : q ∈ bs ∧ ∀ b ∈ bs, b < w.heap.size := by
  obtain ⟨sb, vg, g, kk, gs, h, rfl⟩ := h
  refine ⟨by simp, fun b hb => ?_⟩
  obtain ⟨L, hL, _⟩ := h.lea
  rcases List.mem_cons.1 hb with rfl | hb
  · exact h.box.lt
  rcases List.mem_cons.1 hb with rfl | hb
  · exact h.slo.lt _ rfl
  rcases List.mem_cons.1 hb with rfl | hb
  · exact hL.lt
  · exact h.giv.lt b (by simpa using hb)
theorem LTab.ok {w : World} {q : Nat} {bs : List Nat} {s : LT} (h : LTab w q bs s) : s.ok := by
  obtain ⟨sb, vg, g, kk, gs, h, rfl⟩ := h; exact h.ok
theorem lz_new (w : World) : Calls Try.prog 8 #[] w fun e w' => ∃ q bs, e = .returned (.pointer (some ⟨q, 0, none⟩)) ∧ LTab w' q bs LT.new ∧ Keep [] w w' ∧ ∀ b ∈ bs, w.heap.size ≤ b := by
  refine (lnew_c w).mono ?_
  rintro e w' ⟨q, sb, g, rfl, h, k, h1, h2, h3⟩
  refine ⟨q, _, rfl, ⟨sb, _, g, 0, [], h, rfl⟩, k, fun b hb => ?_⟩
  simp [Value.ownBlock] at hb
  rcases hb with rfl | rfl | rfl <;> assumption
theorem lz_add (w : World) (q : Nat) (bs : List Nat) (s : LT) (p : Int) (c : UInt8) (hp : (Lit.int .i64 p).wf = true) (h : LTab w q bs s) : Calls Try.prog 10 #[.pointer (some ⟨q, 0, none⟩), .int .i64 p, .int .u8 c.toNat] w fun e w' => e = .returned (.int .i64 (s.add p c).1) ∧ ∃ bs', LTab w' q bs' (s.add p c).2 ∧ Keep bs w w' ∧ ∀ b ∈ bs', b ∈ bs ∨ w.heap.size ≤ b := by
  obtain ⟨sb, vg, g, k, gs, h, rfl⟩ := h
  by_cases hn : s.next < 0 ∨ ¬ parOk p
  · refine (ladd_no w q sb vg g k gs s p c h hn).mono ?_
    rintro e w' ⟨rfl, rfl⟩
    have e : s.add p c = (-1, s) := by unfold LT.add; rw [if_pos hn]
    rw [e]
    exact ⟨rfl, _, ⟨sb, vg, g, k, gs, h, rfl⟩, Keep.refl _ _, fun b hb => .inl hb⟩
  · have hpo : parOk p := by
      by_cases hp : parOk p
      · exact hp
      · exact absurd (.inr hp) hn
    have hnn : ¬ s.next < 0 := fun h => hn (.inl h)
    obtain ⟨n, hnx⟩ : ∃ n : Nat, s.next = n := ⟨s.next.toNat, by omega⟩
    obtain ⟨e, hf, h1, h2⟩ := LT.add_yes h.ok p c n hnx hpo
    have hok := LT.add_ok h.ok p c
    obtain ⟨p, rfl⟩ : ∃ p' : Nat, p = p' := ⟨p.toNat, by unfold parOk at hpo; omega⟩
    rw [e] at hok ⊢
    rw [Int.toNat_natCast] at hok ⊢
    refine (ladd_yes w q sb vg g k gs s p c n h hnx hpo hf h1 h2 hok).mono ?_
    rintro e w' ⟨rfl, vg', ht, hk, hb⟩
    refine ⟨rfl, _, ⟨sb, vg', g, k, _, ht, rfl⟩, hk, fun b hb' => ?_⟩
    rcases List.mem_cons.1 hb' with rfl | hb'
    · exact .inl (by simp)
    rcases List.mem_cons.1 hb' with rfl | hb'
    · exact .inl (by simp)
    rcases List.mem_cons.1 hb' with rfl | hb'
    · exact .inl (by simp)
    rcases hb b (by simpa using hb') with h3 | h3
    · exact .inl (by simp [h3])
    · exact .inr h3
theorem lz_clear (w : World) (q : Nat) (bs : List Nat) (s : LT) (h : LTab w q bs s) : Calls Try.prog 13 #[.pointer (some ⟨q, 0, none⟩)] w fun e w' => e = .returned (.tuple #[]) ∧ ∃ bs', LTab w' q bs' s.clear ∧ Keep bs w w' ∧ ∀ b ∈ bs', b ∈ bs ∨ w.heap.size ≤ b := by
  obtain ⟨sb, vg, g, k, gs, h, rfl⟩ := h
  refine (lclear_c w q sb vg g k gs s h).mono ?_
  rintro e w' ⟨rfl, vg', ht, hk, hb⟩
  exact ⟨rfl, _, ⟨sb, vg', g, 0, _, ht, rfl⟩, hk, fun b hb' => .inl (by rw [hb] at hb'; exact hb')⟩
theorem lz_next (w : World) (q : Nat) (bs : List Nat) (s : LT) (h : LTab w q bs s) : Calls Try.prog 17 #[.pointer (some ⟨q, 0, none⟩)] w fun e w' => e = .returned (.int .i64 s.next) ∧ Keep [] w w' := by
  obtain ⟨sb, vg, g, k, gs, h, rfl⟩ := h
  refine (lnext_c w q sb vg g k gs s h).mono ?_
  rintro e w' ⟨rfl, rfl⟩
  exact ⟨rfl, Keep.refl _ _⟩
theorem lz_used (w : World) (q : Nat) (bs : List Nat) (s : LT) (h : LTab w q bs s) : Calls Try.prog 22 #[.pointer (some ⟨q, 0, none⟩)] w fun e w' => e = .returned (.int .i64 s.rows.length) ∧ Keep [] w w' := by
  obtain ⟨sb, vg, g, k, gs, h, rfl⟩ := h
  refine (lused_c w q sb vg g k gs s h).mono ?_
  rintro e w' ⟨rfl, rfl⟩
  exact ⟨rfl, Keep.refl _ _⟩
theorem lz_child (w : World) (q : Nat) (bs : List Nat) (s : LT) (p : Int) (c : UInt8) (hp : (Lit.int .i64 p).wf = true) (h : LTab w q bs s) : Calls Try.prog 24 #[.pointer (some ⟨q, 0, none⟩), .int .i64 p, .int .u8 c.toNat] w fun e w' => e = .returned (.int .i64 (s.child p c)) ∧ LTab w' q bs s ∧ Keep bs w w' := by
  obtain ⟨sb, vg, g, k, gs, h, rfl⟩ := h
  refine (lchild_c w q sb vg g k gs s p c hp h).mono ?_
  rintro e w' ⟨rfl, ht, hk⟩
  exact ⟨rfl, ⟨sb, vg, g, _, gs, ht, rfl⟩, hk.mono fun x hx => by simp at hx; rcases hx with rfl | rfl <;> simp⟩
theorem lz_text (w : World) (q : Nat) (bs : List Nat) (s : LT) (c : Int) (hc : (Lit.int .i64 c).wf = true) (h : LTab w q bs s) : Calls Try.prog 18 #[.pointer (some ⟨q, 0, none⟩), .int .i64 c] w fun e w' => ∃ v', e = .returned (.tuple #[v', .bool (s.text c).isSome]) ∧ Bs w' v' ((s.text c).getD []) ∧ Keep [] w w' ∧ ∀ b, v'.ownBlock = some b → w.heap.size ≤ b := by
  obtain ⟨sb, vg, g, k, gs, h, rfl⟩ := h
  exact ltext_c w q sb s c h.rd h.ok h.ok.len h.box.lt (h.slo.lt sb rfl)
theorem lz_link (w : World) (q : Nat) (bs : List Nat) (s : LT) (c : Int) (hc : (Lit.int .i64 c).wf = true) (h : LTab w q bs s) (i : Nat) (hi : atI s.rows c = i) : Calls Try.prog 21 #[.pointer (some ⟨q, 0, none⟩), .int .i64 c] w fun e w' => e = .returned (.tuple #[.agg #[.int .i64 (rw' s.rows i).par, .int .u8 (rw' s.rows i).byt.toNat], .bool true]) ∧ Keep [] w w' := by
  obtain ⟨sb, vg, g, k, gs, h, rfl⟩ := h
  have hl : lk s.rows c = some (rw' s.rows i) := by unfold lk; rw [if_neg (by omega), hi, Int.toNat_natCast]
  obtain ⟨h1, h2⟩ := (lk_iff _ h.ok.srt _ _).1 hl
  have hb := h.ok.all _ h1
  obtain ⟨c, rfl⟩ : ∃ c' : Nat, c = c' := ⟨c.toNat, by omega⟩
  have hs := sloF_some hl
  have := lzlink_yes w q sb s.rows c h.rd (by omega) (by rw [hs])
  rw [hs] at this
  exact this
theorem lz_nolink (w : World) (q : Nat) (bs : List Nat) (s : LT) (c : Int) (hc : (Lit.int .i64 c).wf = true) (h : LTab w q bs s) (hi : atI s.rows c < 0) : Calls Try.prog 21 #[.pointer (some ⟨q, 0, none⟩), .int .i64 c] w fun e w' => e = .returned (.tuple #[.agg #[.int .i64 0, .int .u8 0], .bool false]) ∧ Keep [] w w' := by
  obtain ⟨sb, vg, g, k, gs, h, rfl⟩ := h
  refine lzlink_no w q sb s.rows c h.rd fun hc => ?_
  have : lk s.rows ((c.toNat : Nat) : Int) = none := by rw [show ((c.toNat : Nat) : Int) = c by omega]; exact (lk_at _ _).2 hi
  rw [sloF_none this]; rfl
end Go.Proofs.Ytpjebbhjagllgaa
