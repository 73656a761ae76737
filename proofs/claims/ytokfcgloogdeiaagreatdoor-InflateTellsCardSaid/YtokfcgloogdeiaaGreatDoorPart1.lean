/- Texts put together: Mem BitRd BitLook Within Kept Res4 -/
import Derived.Test.YtokfcgloogdeiaaGreatDoorRows
import Derived.WalkKit
import Derived.ProofKit
import Derived.Below
import Derived.Deep.DeepCutAuto
import Derived.Deep.QuietTactic
import Derived.BigQuiet
import Derived.Lib.Hide
import Derived.Deep.LoopGhost
import Derived.Deep.CutBlock
import Derived.Test.YtokfcgloogdeiaaGreatDoorPart4
/-! Memory: what a call leaves alone, rows of bytes. -/
namespace Go.Proofs.YtokfcgloogdeiaaGreatDoor
set_option linter.unusedVariables false
set_option linter.unusedSimpArgs false
open Go.ChangeShapes Go.WideShapes Go.ChangeAt Go.RowKit

/-- From w to w' nothing that was there has turned but the blocks of S. -/
structure Keep (S : List Nat) (w w' : World) : Prop where
  os : w'.os = w.os
  tape : w'.tape = w.tape
  output : w'.output = w.output
  size : w.heap.size ≤ w'.heap.size
  block : ∀ k, k < w.heap.size → k ∉ S → w'.heap[k]? = w.heap[k]?

theorem Keep.refl (S : List Nat) (w : World) : Keep S w w := ⟨rfl, rfl, rfl, Nat.le_refl _, fun _ _ _ => rfl⟩
theorem Keep.trans {S S' : List Nat} {a b c : World} (h : Keep S a b) (k : Keep S' b c) (hs : ∀ x ∈ S', x ∈ S ∨ a.heap.size ≤ x) : Keep S a c :=
  ⟨k.os.trans h.os, k.tape.trans h.tape, k.output.trans h.output, Nat.le_trans h.size k.size, fun i hi hn =>
    (k.block i (Nat.lt_of_lt_of_le hi h.size) (fun hm => by rcases hs i hm with h1 | h1; exact hn h1; omega)).trans (h.block i hi hn)⟩
theorem Keep.mono {S S' : List Nat} {a b : World} (h : Keep S a b) (hs : ∀ x ∈ S, x ∈ S') : Keep S' a b :=
  ⟨h.os, h.tape, h.output, h.size, fun i hi hn => h.block i hi (fun hm => hn (hs i hm))⟩
theorem Keep.nil {S : List Nat} {a b : World} (h : Keep [] a b) : Keep S a b := h.mono (by simp)
theorem Keep.drewN {S : List Nat} {a w : World} (h : Keep S a w) (n : Nat) : Keep S a (w.drewN n) := ⟨h.os, h.tape, h.output, h.size, h.block⟩
theorem Keep.drew {S : List Nat} {a w : World} (h : Keep S a w) : Keep S a w.drew := ⟨h.os, h.tape, h.output, h.size, h.block⟩
theorem Keep.alloc {S : List Nat} {a w : World} (h : Keep S a w) (o : Obj) : Keep S a (w.alloc o) :=
  h.trans (S' := []) ⟨rfl, rfl, rfl, by simp, fun k hk _ => Below.heap_alloc _ _ _ hk⟩ (by simp)
theorem Keep.setCell {S : List Nat} {a w : World} (h : Keep S a w) {p : Addr} (hp : p.block ∈ S ∨ a.heap.size ≤ p.block) (u : Value) : Keep S a (w.setCell p u) :=
  h.trans (S' := [p.block]) ⟨rfl, rfl, rfl, by simp, fun k _ hn => Below.heap_setCell _ _ _ _ (by simpa using hn)⟩ (by simpa using hp)
theorem Keep.grown {S : List Nat} {a w w' : World} {row : Option Nat} (h : Keep S a w) (hg : w.grownBy w' row) (hr : ∀ k, row = some k → k ∈ S ∨ a.heap.size ≤ k) : Keep S a w' :=
  h.trans (S' := row.toList) ⟨hg.os, hg.tape, hg.output, hg.size, fun k hk hn => hg.block k hk (by simpa [eq_comm] using hn)⟩ (by cases row <;> simp_all)
theorem Keep.below {a b : World} (h : Keep [] a b) : Below a.heap.size a b := ⟨h.os, h.tape, h.output, h.size, fun k hk => h.block k hk (by simp)⟩
theorem Keep.of_below {a b : World} (h : Below a.heap.size a b) : Keep [] a b := ⟨h.os, h.tape, h.output, h.size, fun k hk _ => h.block k hk⟩
theorem Keep.cell {S : List Nat} {w w' : World} (h : Keep S w w') {p : Addr} {v : Value} (hc : w.cell? p = some v) (hp : p.block ∉ S) : w'.cell? p = some v :=
  (World.cell?_of_block (w := w) (h.block p.block (World.block_lt_of_cell? w p hc) hp)).trans hc

/-- Block b is a row of cells that may be written. -/
def Blk (w : World) (b : Nat) (cs : Array Value) (t : TypeId) : Prop := w.heap[b]? = some (.cells cs t (0, 0))
theorem Blk.lt {w : World} {b : Nat} {cs : Array Value} {t : TypeId} (h : Blk w b cs t) : b < w.heap.size := lt_of_block h
theorem Blk.cell {w : World} {b : Nat} {cs : Array Value} {t : TypeId} (h : Blk w b cs t) (i : Nat) (v : Value) (hv : cs[i]? = some v) : w.cell? ⟨b, i, none⟩ = some v :=
  (cell_of_row w b i cs t (0, 0) h).trans hv
theorem Blk.free {w : World} {b : Nat} {cs : Array Value} {t : TypeId} (h : Blk w b cs t) (i : Nat) : w.frozen? ⟨b, i, none⟩ = false := by
  unfold Blk at h; simp [World.frozen?, h]
theorem Blk.keep {w w' : World} {b : Nat} {cs : Array Value} {t : TypeId} {S : List Nat} (h : Blk w b cs t) (k : Keep S w w') (hb : b ∉ S) : Blk w' b cs t :=
  (k.block b h.lt hb).trans h
theorem Blk.new (w : World) (cs : Array Value) (t : TypeId) : Blk (w.alloc (.cells cs t)) w.heap.size cs t := heap_alloc_new w _
theorem Blk.alloc {w : World} {b : Nat} {cs : Array Value} {t : TypeId} (h : Blk w b cs t) (o : Obj) : Blk (w.alloc o) b cs t := (Below.heap_alloc _ _ _ h.lt).trans h
theorem Blk.drewN {w : World} {b : Nat} {cs : Array Value} {t : TypeId} (h : Blk w b cs t) (n : Nat) : Blk (w.drewN n) b cs t := h
theorem Blk.other {w : World} {b : Nat} {cs : Array Value} {t : TypeId} (h : Blk w b cs t) {p : Addr} (hp : b ≠ p.block) (u : Value) : Blk (w.setCell p u) b cs t :=
  (Below.heap_setCell _ _ _ _ hp).trans h
theorem Blk.set {w : World} {b : Nat} {cs : Array Value} {t : TypeId} (h : Blk w b cs t) (i : Nat) (u : Value) : Blk (w.setCell ⟨b, i, none⟩ u) b (cs.setIfInBounds i u) t := by
  unfold Blk at h ⊢
  have hlt := lt_of_block h
  have h' : w.heap[b] = .cells cs t (0, 0) := by simpa [Array.getElem?_eq_getElem hlt] using h
  show (w.heap.modify b _)[b]? = _
  rw [Array.getElem?_eq_getElem (by simpa using hlt), Array.getElem_modify_self, h']
  rfl
theorem Blk.inj {w : World} {b : Nat} {cs cs' : Array Value} {t t' : TypeId} (h : Blk w b cs t) (h' : Blk w b cs' t') : cs = cs' ∧ t = t' := by
  unfold Blk at h h'; rw [h] at h'; simpa using h'

theorem Keep.setRow {w : World} {g : Nat} (cs : Array Value) : Keep [g] w (w.setRow g cs) :=
  ⟨rfl, rfl, rfl, by simp [World.setRow], fun k hk hn => setRow_other w g k cs (by simpa using hn)⟩
theorem Blk.setRow {w : World} {g : Nat} {c : Array Value} {t : TypeId} (h : Blk w g c t) (c' : Array Value) : Blk (w.setRow g c') g c' t := setRow_heap w g _ _ _ _ h
/-- v is a slice that holds the bytes l. -/
def Bs (w : World) (v : Value) (l : List UInt8) : Prop :=
  ∃ a cap, v = .slice a l.length cap ∧ l.length ≤ cap ∧ cap ≤ maxLen ∧ (a = none → cap = 0) ∧
    ∀ x, a = some x → ∀ i (hi : i < l.length), w.cell? (x.add i) = some (.int .u8 (l[i].toNat))
/-- the block of a slice's array -/
def inBlk (v : Value) (S : List Nat) : Prop := ∃ k, v.ownBlock = some k ∧ k ∈ S
theorem Bs.keep {w w' : World} {v : Value} {l : List UInt8} {S : List Nat} (h : Bs w v l) (k : Keep S w w') (hb : ∀ b, v.ownBlock = some b → b ∉ S) : Bs w' v l := by
  obtain ⟨a, cap, rfl, h1, h2, h3, h4⟩ := h
  refine ⟨a, cap, rfl, h1, h2, h3, fun x hx i hi => k.cell (h4 x hx i hi) ?_⟩
  subst hx
  have : (x.add i).block = x.block := by unfold Addr.add; split <;> rfl
  rw [this]; exact hb _ rfl
theorem Bs.keep' {w w' : World} {v : Value} {l : List UInt8} {S : List Nat} (h : Bs w v l) (k : Keep S w w') (hb : l ≠ [] → ∀ b, v.ownBlock = some b → b ∉ S) : Bs w' v l := by
  by_cases hl : l = []
  · subst hl
    obtain ⟨a, cap, rfl, h1, h2, h3, h4⟩ := h
    exact ⟨a, cap, rfl, h1, h2, h3, fun _ _ i hi => by simp at hi⟩
  · exact h.keep k (hb hl)
theorem Bs.nil (w : World) : Bs w (.slice none 0 0) [] := ⟨none, 0, rfl, by simp, by simp, fun _ => rfl, fun _ h => by cases h⟩

def ints8 (l : List UInt8) : List Value := l.map fun c => .int .u8 (c.toNat)
/-- v is a slice of bytes of the call's own, onto which it may append. -/
def OwnB (w : World) (v : Value) (l : List UInt8) : Prop := w.ownsRow 0 5 1 v l.length (ints8 l)
theorem OwnB.bs {w : World} {v : Value} {l : List UInt8} (h : OwnB w v l) : Bs w v l := by
  rcases h.2 with ⟨rfl, hn⟩ | ⟨g, cap, cur, rfl, _, hh, hc, hm, hs, ht⟩
  · obtain rfl : l = [] := List.eq_nil_of_length_eq_zero hn
    exact Bs.nil w
  · refine ⟨some ⟨g, 0, none⟩, cap, rfl, hc, hm, (fun h => nomatch h), fun x hx i hi => ?_⟩
    obtain rfl : (⟨g, 0, none⟩ : Addr) = x := by simpa using hx
    have e : (⟨g, 0, none⟩ : Addr).add i = ⟨g, i, none⟩ := by unfold Addr.add; split <;> simp_all
    rw [e, cell_of_row w g i cur _ (0, 0) hh]
    have : (ints8 l)[i]? = some (.int .u8 (l[i].toNat)) := by simp [ints8, hi]
    rw [← ht, List.getElem?_take] at this
    split at this
    · simpa using this
    · cases this
theorem OwnB.keep {w w' : World} {v : Value} {l : List UInt8} {S : List Nat} (h : OwnB w v l) (k : Keep S w w') (hb : ∀ b, v.ownBlock = some b → b ∉ S) : OwnB w' v l := by
  refine ⟨h.1, ?_⟩
  rcases h.2 with h2 | ⟨g, cap, cur, rfl, hb0, hh, r⟩
  · exact .inl h2
  · exact .inr ⟨g, cap, cur, rfl, hb0, (k.block g (lt_of_block hh) (hb g rfl)).trans hh, r⟩
theorem OwnB.lt {w : World} {v : Value} {l : List UInt8} (h : OwnB w v l) : ∀ b, v.ownBlock = some b → b < w.heap.size := fun b hb => (World.ownsRow.lt h b hb).2
theorem OwnB.shape {w : World} {v : Value} {l : List UInt8} (h : OwnB w v l) : ∃ a n c, v = .slice a n c := by
  rcases h.2 with ⟨rfl, _⟩ | ⟨g, cap, cur, rfl, _⟩ <;> exact ⟨_, _, _, rfl⟩
theorem OwnB.nil (w : World) : OwnB w (.slice none 0 0) [] := World.ownsRow_nil w 0 _ 1

theorem quiet_left {P : Program} {f : FuncId} {args : Array Value} {w : World} {n : Nat} {v : Value}
    (h : Calls P f args (w.drewN n) fun e w' => e = .returned v ∧ w.drewN n = w') : Calls P f args (w.drewN n) fun e w'' => e = .returned v ∧ ∃ m, w'' = w.drewN m :=
  h.mono fun _ _ ⟨he, hm⟩ => ⟨he, n, hm.symm⟩
theorem ret_int {k : IntKind} {a b : Int} (h : a = b) : Ending.returned (.int k a) = .returned (.int k b) := by rw [h]
theorem ret_ints {k k' : IntKind} {a b a' b' : Int} (h : a = b) (h' : a' = b') : Ending.returned (.tuple #[.int k a, .int k' a']) = .returned (.tuple #[.int k b, .int k' b']) := by rw [h, h']
theorem info8 : (Tryz.prog.info? 5).map (fun i => (i.zero, i.size, i.bytes)) = some (some (.int .u8 0), 1, 1) := by kernel_rfl
/-- an owned row of bytes: nil, or a block -/
theorem OwnB.cases {w : World} {v : Value} {l : List UInt8} (h : OwnB w v l) : (v = .slice none 0 0 ∧ l = []) ∨ ∃ g cap, v = .slice (some ⟨g, 0, none⟩) l.length cap ∧ l.length ≤ cap ∧ cap ≤ maxLen ∧
    (∀ i (hi : i < l.length), w.cell? ⟨g, i, none⟩ = some (.int .u8 (l[i].toNat))) ∧ g < w.heap.size := by
  obtain ⟨a, cap, hv, h1, h2, h3, h4⟩ := h.bs
  rcases h.2 with ⟨rfl, hn⟩ | ⟨g, cap', cur, rfl, _, hh, hc, hm, hs, ht⟩
  · exact .inl ⟨rfl, List.eq_nil_of_length_eq_zero hn⟩
  · refine .inr ⟨g, cap', rfl, hc, hm, fun i hi => ?_, lt_of_block hh⟩
    simp only [Value.slice.injEq] at hv
    obtain ⟨rfl, _, rfl⟩ := hv
    have := h4 _ rfl i hi
    rwa [show (⟨g, 0, none⟩ : Addr).add i = ⟨g, i, none⟩ by unfold Addr.add; split <;> simp_all] at this
theorem OwnB.store {w : World} {g n cap : Nat} {l : List UInt8} (h : OwnB w (.slice (some ⟨g, 0, none⟩) n cap) l) (j : Nat) (hj : j < l.length) (c : UInt8) : OwnB (w.setCell ⟨g, j, none⟩ (.int .u8 (c.toNat))) (.slice (some ⟨g, 0, none⟩) n cap) (l.set j c) := by
  have hn : n = l.length := by
    rcases h.2 with ⟨h', _⟩ | ⟨g', cap', cur, h', _⟩
    · simp at h'
    · simp only [Value.slice.injEq] at h'; exact h'.2.1
  subst hn
  have := (World.ownsRow.stored h j (.int .u8 (c.toNat))).1
  unfold OwnB
  rw [List.length_set]
  have e : ints8 (l.set j c) = (ints8 l).set j (.int .u8 (c.toNat)) := by simp [ints8, List.map_set]
  rw [e]; exact this
theorem OwnB.free {w : World} {g n cap : Nat} {l : List UInt8} (h : OwnB w (.slice (some ⟨g, 0, none⟩) n cap) l) (j : Nat) : w.frozen? ⟨g, j, none⟩ = false := by
  have hn : n = l.length := by
    rcases h.2 with ⟨h', _⟩ | ⟨g', cap', cur, h', _⟩
    · simp at h'
    · simp only [Value.slice.injEq] at h'; exact h'.2.1
  subst hn
  exact World.ownsRow.frozenAt h j

theorem Keep.cellW {W w : World} (k : Keep [] W w) {p : Addr} {v : Value} (h : W.cell? p = some v) : w.cell? p = some v := k.cell h (by simp)
end Go.Proofs.YtokfcgloogdeiaaGreatDoor
namespace Go.Proofs.YtokfcgloogdeiaaGreatDoor
set_option linter.unusedVariables false
set_option linter.unusedSimpArgs false
open Go.ChangeShapes Go.WideShapes Go.ChangeAt Go.RowKit

/-- the state of a reader: its bytes, how many bits were read, whether Open made it, its error -/
structure RS where
  l : List UInt8
  pos : Nat
  made : Bool
  err : Nat
def RS.E (s : RS) : Nat := if s.made then s.err else 1
def RS.left (s : RS) : Nat := if s.E = 0 then 8 * s.l.length - s.pos else 0
def RS.fail (s : RS) (e : Nat) : RS := if s.E = 0 then { s with err := e } else s
def RS.ok (s : RS) : Prop := s.pos ≤ 8 * s.l.length ∧ s.l.length ≤ 140737488355328 ∧ s.err < 100

/-- block r is a reader in state s; its bytes lie in the slice v -/
def Rd (w : World) (r : Nat) (v : Value) (s : RS) : Prop :=
  Blk w r #[v, .int .i64 s.pos, .bool s.made, .int .i64 s.err] 97 ∧ OwnB w v s.l ∧ s.ok ∧ (∀ b, v.ownBlock = some b → b ≠ r)
theorem Rd.keep {w w' : World} {r : Nat} {v : Value} {s : RS} {S : List Nat} (h : Rd w r v s) (k : Keep S w w') (hr : r ∉ S) (hv : ∀ b, v.ownBlock = some b → b ∉ S) : Rd w' r v s :=
  ⟨h.1.keep k hr, h.2.1.keep k hv, h.2.2⟩

theorem Rd.drewN {w : World} {r : Nat} {v : Value} {s : RS} (h : Rd w r v s) (n : Nat) : Rd (w.drewN n) r v s := h.keep ((Keep.refl [] w).drewN _) (by simp) (by simp)
theorem err_c (w : World) (r : Nat) (v : Value) (s : RS) (h : Rd w r v s) : Calls Tryz.prog 46 #[.pointer (some ⟨r, 0, none⟩)] w fun e w' => e = .returned (.int .i64 s.E) ∧ w = w' := by
  have c2 := h.1.cell 2 _ rfl
  have c3 := h.1.cell 3 _ rfl
  cases hm : s.made
  · have hf : s.E = 1 := by simp [RS.E, hm]
    rw [hm] at c2
    have HF := Lib.hid hf; clear hf hm
    go_enter Tryz.func46, Tryz.ntmps46
    go_wp2
    go_ret
    exact ⟨by rw [HF.out]; rfl, rfl⟩
  · have hf : s.E = s.err := by simp [RS.E, hm]
    rw [hm] at c2
    have HF := Lib.hid hf; clear hf hm
    go_enter Tryz.func46, Tryz.ntmps46
    go_wp2
    go_ret
    exact ⟨by rw [HF.out]; rfl, rfl⟩
theorem err_nil (w : World) : Calls Tryz.prog 46 #[.pointer none] w fun e w' => e = .returned (.int .i64 1) ∧ w = w' := by
  go_enter Tryz.func46, Tryz.ntmps46
  go_wp2
  go_ret
  exact ⟨rfl, rfl⟩
theorem left_c (w : World) (r : Nat) (v : Value) (s : RS) (h : Rd w r v s) : Calls Tryz.prog 25 #[.pointer (some ⟨r, 0, none⟩)] w fun e w' => e = .returned (.int .i64 s.left) ∧ ∃ n, w' = w.drewN n := by
  have c0 := h.1.cell 0 _ rfl
  have c1 := h.1.cell 1 _ rfl
  obtain ⟨a, cap, rfl, _⟩ := h.2.1.bs
  have hk := h.2.2.1
  unfold RS.ok at hk
  obtain ⟨k1, k2, k3⟩ := hk
  by_cases he : s.E = 0
  · have hf : ((s.left : Nat) : Int) = 8 * s.l.length - s.pos := by unfold RS.left; rw [if_pos he]; omega
    have he2 : ((s.E : Int) != 0) = false := by simp [he]
    have HF := Lib.hid hf; clear hf he
    go_enter Tryz.func25, Tryz.ntmps25
    go_wp2_with (refine (err_c _ _ _ _ h).mono ?_; rintro e w' ⟨rfl, rfl⟩)
    go_quiet (fail)
    go_wp2
    go_ret
    exact ⟨by rw [HF.out]; rfl, _, rfl⟩
  · have hf : s.left = 0 := by unfold RS.left; rw [if_neg he]
    have he2 : ((s.E : Int) != 0) = true := by simp; omega
    have HF := Lib.hid hf; clear hf he
    go_enter Tryz.func25, Tryz.ntmps25
    go_wp2_with (refine (err_c _ _ _ _ h).mono ?_; rintro e w' ⟨rfl, rfl⟩)
    go_ret
    exact ⟨by rw [HF.out]; rfl, 0, rfl⟩

theorem RS.fail_l (s : RS) (e : Nat) : (s.fail e).l = s.l := by unfold RS.fail; split <;> rfl
theorem fail_c (w : World) (r : Nat) (v : Value) (s : RS) (e : Nat) (he : e < 100) (h : Rd w r v s) : Calls Tryz.prog 61 #[.pointer (some ⟨r, 0, none⟩), .int .i64 e] w fun en w' => en = .returned (.tuple #[]) ∧ Rd w' r v (s.fail e) ∧ Keep [r] w w' := by
  have c3 := h.1.cell 3 _ rfl
  have f3 := h.1.free 3
  by_cases h0 : s.E = 0
  · have hf : s.fail e = { s with err := e } := by unfold RS.fail; rw [if_pos h0]
    have he2 : ((s.E : Int) == 0) = true := by simp [h0]
    have HF := Lib.hid hf; clear hf h0
    go_enter Tryz.func61, Tryz.ntmps61
    go_wp2_with (refine (err_c _ _ _ _ h).mono ?_; rintro e w' ⟨rfl, rfl⟩)
    go_end0
    refine ⟨rfl, ?_, (Keep.refl _ _).setCell (by simp) _⟩
    rw [HF.out]
    exact ⟨h.1.set 3 _, h.2.1.keep ((Keep.refl [r] _).setCell (by simp) _) (by simpa using h.2.2.2), ⟨h.2.2.1.1, h.2.2.1.2.1, he⟩, h.2.2.2⟩
  · have hf : s.fail e = s := by unfold RS.fail; rw [if_neg h0]
    have he2 : ((s.E : Int) == 0) = false := by simp; omega
    have HF := Lib.hid hf; clear hf h0
    go_enter Tryz.func61, Tryz.ntmps61
    go_wp2_with (refine (err_c _ _ _ _ h).mono ?_; rintro e w' ⟨rfl, rfl⟩)
    go_end0
    exact ⟨rfl, by rw [HF.out]; exact h, Keep.refl _ _⟩
theorem fail_nil (w : World) (e : Nat) : Calls Tryz.prog 61 #[.pointer none, .int .i64 e] w fun en w' => en = .returned (.tuple #[]) ∧ w = w' := by
  go_enter Tryz.func61, Tryz.ntmps61
  go_wp2_with (refine (err_nil _).mono ?_; rintro e w' ⟨rfl, rfl⟩)
  go_end0
  exact ⟨rfl, rfl⟩

theorem skip_c (w : World) (r : Nat) (v : Value) (s : RS) (n : Nat) (hn : s.pos + n ≤ 8 * s.l.length) (h : Rd w r v s) : Calls Tryz.prog 63 #[.pointer (some ⟨r, 0, none⟩), .int .i64 n] w fun en w' => en = .returned (.tuple #[]) ∧ Rd w' r v { s with pos := s.pos + n } ∧ Keep [r] w w' := by
  have c1 := h.1.cell 1 _ rfl
  have f1 := h.1.free 1
  have hk := h.2.2.1
  unfold RS.ok at hk
  obtain ⟨k1, k2, k3⟩ := hk
  by_cases h0 : n = 0
  · subst h0
    go_enter Tryz.func63, Tryz.ntmps63
    go_wp2
    go_end0
    exact ⟨rfl, h, Keep.refl _ _⟩
  · have hp : 0 < (n : Int) := by omega
    go_enter Tryz.func63, Tryz.ntmps63
    go_wp2
    go_end0
    refine ⟨rfl, ?_, (Keep.refl _ _).setCell (by simp) _⟩
    exact ⟨h.1.set 1 _, h.2.1.keep ((Keep.refl [r] _).setCell (by simp) _) (by simpa using h.2.2.2), ⟨hn, k2, k3⟩, h.2.2.2⟩
theorem skip_nil (w : World) : Calls Tryz.prog 63 #[.pointer none, .int .i64 0] w fun en w' => en = .returned (.tuple #[]) ∧ w = w' := by
  go_enter Tryz.func63, Tryz.ntmps63
  go_wp2
  go_end0
  exact ⟨rfl, rfl⟩
theorem left_nil (w : World) : Calls Tryz.prog 25 #[.pointer none] w fun e w' => e = .returned (.int .i64 0) ∧ w = w' := by
  go_enter Tryz.func25, Tryz.ntmps25
  go_wp2_with (refine (err_nil _).mono ?_; rintro e w' ⟨rfl, rfl⟩)
  go_ret
  exact ⟨rfl, rfl⟩
theorem align_nil (w : World) : Calls Tryz.prog 77 #[.pointer none] w fun e w' => e = .returned (.tuple #[]) ∧ w = w' := by
  go_enter Tryz.func77, Tryz.ntmps77
  go_wp2_with fail
  refine (left_nil _).mono ?_; rintro e w' ⟨rfl, rfl⟩
  go_wp2_with fail
  refine (skip_nil _).mono ?_; rintro e w' ⟨rfl, rfl⟩
  go_wp2_with fail
  go_end0
  exact ⟨rfl, rfl⟩
theorem RS.left_le (s : RS) (_ : s.ok) : s.left ≤ 8 * s.l.length - s.pos := by unfold RS.left; split <;> omega
def RS.align (s : RS) : RS := { s with pos := s.pos + s.left % 8 }
theorem align_c (w : World) (r : Nat) (v : Value) (s : RS) (h : Rd w r v s) : Calls Tryz.prog 77 #[.pointer (some ⟨r, 0, none⟩)] w fun e w' => e = .returned (.tuple #[]) ∧ Rd w' r v s.align ∧ Keep [r] w w' := by
  have hl := RS.left_le s h.2.2.1
  have hk := h.2.2.1.1
  go_enter Tryz.func77, Tryz.ntmps77
  go_wp2_with fail
  refine (left_c _ _ _ _ h).mono ?_; rintro e w' ⟨rfl, n, rfl⟩
  go_wp2_with fail
  refine (skip_c _ r v s (s.left % 8) (by omega) (h.keep ((Keep.refl [] w).drewN n) (by simp) (by simp))).mono ?_
  rintro e w' ⟨rfl, hr, hk⟩
  go_wp2_with fail
  go_end0
  exact ⟨rfl, hr, ((Keep.refl [] w).drewN n).nil.trans hk (by simp)⟩
end Go.Proofs.YtokfcgloogdeiaaGreatDoor
namespace Go.Proofs.YtokfcgloogdeiaaGreatDoor
set_option linter.unusedVariables false
set_option linter.unusedSimpArgs false
open Go.ChangeShapes Go.WideShapes Go.ChangeAt Go.RowKit

theorem byteAt_get (l : List UInt8) (i : Nat) (hi : i < l.length) : (l[i].toNat) = byteAt l i := by
  unfold byteAt; rw [List.getD_eq_getElem?_getD, List.getElem?_eq_getElem hi]; rfl

theorem or_step (l : List UInt8) (p k : Nat) (hk : k < 8) (K : Int) (hK : K = 2 ^ (8 * k)) : Go.bits .or .u64 ((num l (8 * p) (8 * k) : Nat) : Int) ((byteAt l (p + k) : Nat) * K) = ((num l (8 * p) (8 * (k + 1)) : Nat) : Int) := by
  subst hK
  have h1 := num_lt l (8 * p) (8 * k)
  have hb := byteAt_lt l (p + k)
  have h3 : 2 ^ (8 * k) ≤ 2 ^ 56 := Nat.pow_le_pow_right (by decide) (by omega)
  have h4 : byteAt l (p + k) * 2 ^ (8 * k) < 18446744073709551616 := by
    have : byteAt l (p + k) * 2 ^ (8 * k) ≤ 255 * 2 ^ 56 := Nat.mul_le_mul (by omega) h3
    omega
  have h5 : num l (8 * p) (8 * k) < 18446744073709551616 := by omega
  rw [show ((byteAt l (p + k) : Nat) : Int) * 2 ^ (8 * k) = ((byteAt l (p + k) * 2 ^ (8 * k) : Nat) : Int) by simp]
  rw [u64_or_nat _ _ h5 h4, Nat.or_comm, nat_join (8 * k) _ _ (by simp) h1, num_bytes, Nat.mul_comm, Nat.add_comm]
theorem or_stepw (l : List UInt8) (p k n : Nat) (hk : k < 8) (hn : n = num l (8 * p) (8 * k)) : Go.bits .or .u64 (n : Int) (IntKind.u64.wrap ((byteAt l (p + k) : Nat) * 2 ^ (8 * k))) = ((num l (8 * p) (8 * (k + 1)) : Nat) : Int) := by
  have hb := byteAt_lt l (p + k)
  have h3 : 2 ^ (8 * k) ≤ 2 ^ 56 := Nat.pow_le_pow_right (by decide) (by omega)
  have h4 : byteAt l (p + k) * 2 ^ (8 * k) < 18446744073709551616 := by
    have : byteAt l (p + k) * 2 ^ (8 * k) ≤ 255 * 2 ^ 56 := Nat.mul_le_mul (by omega) h3
    omega
  have e : IntKind.u64.wrap (((byteAt l (p + k) : Nat) : Int) * 2 ^ (8 * k)) = ((byteAt l (p + k) : Nat) : Int) * 2 ^ (8 * k) := by
    rw [show ((byteAt l (p + k) : Nat) : Int) * 2 ^ (8 * k) = ((byteAt l (p + k) * 2 ^ (8 * k) : Nat) : Int) by simp]
    simp only [IntKind.wrap, IntKind.bits, IntKind.signed]
    generalize byteAt l (p + k) * 2 ^ (8 * k) = q at h4
    simp; omega
  rw [e, hn]
  exact or_step l p k hk _ rfl
theorem win8 (l : List UInt8) (p : Nat) : Go.bits .or .u64 (Go.bits .or .u64 (Go.bits .or .u64 (Go.bits .or .u64 (Go.bits .or .u64 (Go.bits .or .u64 (Go.bits .or .u64 (byteAt l p) ((byteAt l (p + 1)) * 256)) ((byteAt l (p + 2)) * 65536)) ((byteAt l (p + 3)) * 16777216))
    ((byteAt l (p + 4)) * 4294967296)) ((byteAt l (p + 5)) * 1099511627776)) ((byteAt l (p + 6)) * 281474976710656)) ((byteAt l (p + 7)) * 72057594037927936) = ((num l (8 * p) 64 : Nat) : Int) := by
  have h0 := num_byte l p
  have e := or_step l p 1 (by decide) 256 rfl
  rw [← h0, show (8 : Nat) = 8 * 1 from rfl, e, or_step l p 2 (by decide) 65536 rfl, or_step l p 3 (by decide) 16777216 rfl, or_step l p 4 (by decide) 4294967296 rfl, or_step l p 5 (by decide) 1099511627776 rfl,
    or_step l p 6 (by decide) 281474976710656 rfl, or_step l p 7 (by decide) 72057594037927936 rfl]

theorem window_c (w : World) (r : Nat) (v : Value) (s : RS) (p : Nat) (hp : p ≤ s.l.length) (h : Rd w r v s) : Calls Tryz.prog 76 #[.pointer (some ⟨r, 0, none⟩), .int .i64 p] w fun e w' => e = .returned (.int .u64 (num s.l (8 * p) 64)) ∧ ∃ n, w' = w.drewN n := by
  have c0 := h.1.cell 0 _ rfl
  have hk := h.2.2.1
  unfold RS.ok at hk
  obtain ⟨_, k2, _⟩ := hk
  rcases h.2.1.cases with ⟨rfl, hl⟩ | ⟨g, cap, rfl, hc, hm, hcell, hg⟩
  · have hp0 : p = 0 := by rw [hl] at hp; simpa using hp
    subst hp0
    have hf : num s.l (8 * 0) 64 = 0 := num_end _ _ _ (by simp [hl])
    have HF := Lib.hid hf; clear hf hl
    go_enter Tryz.func76, Tryz.ntmps76
    go_wp2
    refine wp_loop_rounds 1 ?_
    rw [rounds_succ]
    go_wp2
    go_ret
    exact ⟨by rw [HF.out]; rfl, 0, rfl⟩
  · unfold maxLen at hm
    by_cases h8 : 8 ≤ s.l.length - p
    · have hpc : ¬ p = cap := by omega
      have hpc2 : p < cap := by omega
      have b0 := byteAt_lt s.l p
      have b1 := byteAt_lt s.l (p + 1)
      have b2 := byteAt_lt s.l (p + 2)
      have b3 := byteAt_lt s.l (p + 3)
      have b4 := byteAt_lt s.l (p + 4)
      have b5 := byteAt_lt s.l (p + 5)
      have b6 := byteAt_lt s.l (p + 6)
      have b7 := byteAt_lt s.l (p + 7)
      have e0 := hcell p (by omega)
      have e1 := hcell (p + 1) (by omega)
      have e2 := hcell (p + 2) (by omega)
      have e3 := hcell (p + 3) (by omega)
      have e4 := hcell (p + 4) (by omega)
      have e5 := hcell (p + 5) (by omega)
      have e6 := hcell (p + 6) (by omega)
      have e7 := hcell (p + 7) (by omega)
      rw [byteAt_get] at e0 e1 e2 e3 e4 e5 e6 e7
      clear hcell
      go_enter Tryz.func76, Tryz.ntmps76
      go_wp2
      go_quiet (fail)
      go_wp2
      go_ret
      exact ⟨congrArg (fun n => Ending.returned (.int .u64 n)) (win8 s.l p), _, rfl⟩
    · by_cases hpc : p = cap
      · have hpl : p = s.l.length := by omega
        have hf : num s.l (8 * p) 64 = 0 := num_end _ _ _ (by omega)
        have HF := Lib.hid hf; clear hf
        have hle : (s.l.length : Int) ≤ p := by omega
        have hle2 : (p : Int) ≤ s.l.length := by omega
        have hpc2 : p = cap := hpc
        clear hpl hcell
        go_enter Tryz.func76, Tryz.ntmps76
        go_wp2
        refine wp_loop_rounds 1 ?_
        rw [rounds_succ]
        go_wp2
        go_ret
        exact ⟨by rw [HF.out]; rfl, 0, rfl⟩
      · have hpc2 : p < cap := by omega
        have hf : num s.l (8 * p) 64 = num s.l (8 * p) (8 * (s.l.length - p)) := num_all _ _ _ _ (by omega) (by omega)
        have HF := Lib.hid hf; clear hf
        go_enter Tryz.func76, Tryz.ntmps76
        go_wp2
        go_loop [6, 66] (fun x i => ∃ k n : Nat, k ≤ s.l.length - p ∧ i = .int .i64 k ∧ x = .int .u64 n ∧ Hid (n = num s.l (8 * p) (8 * k))) (fun _ i => 8 - (intOf i).toNat)
        case atStart => exact ⟨0, 0, by omega, rfl, rfl, rfl⟩
        case round =>
          obtain ⟨k, n, hk, rfl, rfl, HN⟩ := hrel
          by_cases hlt : k < s.l.length - p
          · have e0 := hcell (p + k) (by omega)
            rw [byteAt_get] at e0
            have b0 := byteAt_lt s.l (p + k)
            have hk8 : k < 8 := by omega
            go_wp2
            refine ⟨⟨k + 1, num s.l (8 * p) (8 * (k + 1)), by omega, by go_num, congrArg (Value.int .u64) (or_stepw s.l p k n hk8 HN.out), rfl⟩, ?_⟩
            simp [intOf]; omega
          · go_wp2
            go_ret
            exact ⟨by rw [HF.out, HN.out, show k = s.l.length - p by omega]; rfl, 0, rfl⟩
end Go.Proofs.YtokfcgloogdeiaaGreatDoor
namespace Go.Proofs.YtokfcgloogdeiaaGreatDoor
set_option linter.unusedVariables false
set_option linter.unusedSimpArgs false
open Go.ChangeShapes Go.WideShapes Go.ChangeAt Go.RowKit

theorem within_c (x lo hi : Int) (w : World) (h : lo ≤ hi) : Calls Tryz.prog 18 #[.int .i64 x, .int .i64 lo, .int .i64 hi] w fun e w' => e = .returned (.int .i64 (max lo (min x hi))) ∧ w = w' := by
  by_cases h1 : x < lo
  · have hf : max lo (min x hi) = lo := by omega
    have HF := Lib.hid hf; clear hf
    go_enter Tryz.func18, Tryz.ntmps18
    go_wp2
    go_ret
    exact ⟨by rw [HF.out]; rfl, rfl⟩
  · by_cases h2 : hi < x
    · have hf : max lo (min x hi) = hi := by omega
      have HF := Lib.hid hf; clear hf
      go_enter Tryz.func18, Tryz.ntmps18
      go_wp2
      go_ret
      exact ⟨by rw [HF.out]; rfl, rfl⟩
    · have hf : max lo (min x hi) = x := by omega
      have HF := Lib.hid hf; clear hf
      go_enter Tryz.func18, Tryz.ntmps18
      go_wp2
      go_ret
      exact ⟨by rw [HF.out]; rfl, rfl⟩
end Go.Proofs.YtokfcgloogdeiaaGreatDoor
namespace Go.Proofs.YtokfcgloogdeiaaGreatDoor
set_option linter.unusedVariables false
set_option linter.unusedSimpArgs false
open Go.ChangeShapes Go.WideShapes Go.ChangeAt Go.RowKit

/-- a world in which all that w has stands as in w -/
structure Kept (w : World) where
  x : World
  h : Keep [] w x
instance (w : World) : Inhabited (Kept w) := ⟨⟨w, Keep.refl [] w⟩⟩
theorem wp_region_kept {P : Program} {id : Nat} {Q : Exit → Act → World → Prop} {a : Act} {w : World} {l : List Oper} (hm : P.follows .mixedOrders = true) (hB : Region.lexB .any l.toArray = true)
    (h : wpQuiet P l.toArray (fun w' => ∃ p : Kept w, w' = p.x) (fun a' => ∀ w', (∃ p : Kept w, w' = p.x) → Q .normal a' w') l a) : (Code.region id l.toArray true).wp P Q a w :=
  wp_region_quiet (C := fun w' => ∃ p : Kept w, w' = p.x) hm hB ⟨⟨w.drew, (Keep.refl [] w).drew⟩, rfl⟩ (by simpa using h)
/-- a callee's contract, met in such a world -/
theorem kept_of {P : Program} {f : FuncId} {args : Array Value} {w : World} {p : Kept w} {v : Value}
    (h : Calls P f args p.x fun e w' => e = .returned v ∧ Keep [] p.x w') : Calls P f args p.x fun e w'' => e = .returned v ∧ ∃ q : Kept w, w'' = q.x :=
  h.mono fun _ w' ⟨he, hk⟩ => ⟨he, ⟨w', p.h.trans hk (by simp)⟩, rfl⟩
theorem kept_drewN {P : Program} {f : FuncId} {args : Array Value} {w : World} {v : Value}
    (h : Calls P f args w fun e w' => e = .returned v ∧ ∃ n, w' = w.drewN n) : Calls P f args w fun e w' => e = .returned v ∧ Keep [] w w' :=
  h.mono fun _ w' ⟨he, n, hn⟩ => ⟨he, hn ▸ (Keep.refl [] w).drewN n⟩
theorem kept_same {P : Program} {f : FuncId} {args : Array Value} {w : World} {v : Value}
    (h : Calls P f args w fun e w' => e = .returned v ∧ w = w') : Calls P f args w fun e w' => e = .returned v ∧ Keep [] w w' :=
  h.mono fun _ w' ⟨he, hn⟩ => ⟨he, hn ▸ Keep.refl [] w⟩
/-- the load of a whole array in such a region -/
theorem wpQuiet_loadA {P : Program} {ops : Array Oper} {Q : Act → Prop} {a : Act} {o : Oper} {rest : List Oper} {w : World} (ty : TypeId) (x : Operand) (ho : o.op = .load ty x) (hw : Region.wanted o (yielded ops a.tmps) = true)
    (g : Nat) (hx : a.eval x = .pointer (some ⟨g, 0, none⟩)) (c : Array Value) (hl : ∀ p : Kept w, (Instr.loadAt ty (.pointer (some ⟨g, 0, none⟩))).run P p.x = .ok (.agg c) p.x)
    (h : wpQuiet P ops (fun w' => ∃ p : Kept w, w' = p.x) Q rest (a.put o.dst (.agg c))) : wpQuiet P ops (fun w' => ∃ p : Kept w, w' = p.x) Q (o :: rest) a := by
  unfold wpQuiet
  rw [if_pos hw]
  refine ⟨.agg c, ?_, h⟩
  rintro _ ⟨p, rfl⟩
  unfold Oper.quietAt execOp
  simp only [ho, hx, Sem.run_bind, Sem.run_pure, Result.andThen_ok, hl p]
  exact ⟨rfl, rfl⟩
end Go.Proofs.YtokfcgloogdeiaaGreatDoor
namespace Go.Proofs.YtokfcgloogdeiaaGreatDoor
set_option linter.unusedVariables false
set_option linter.unusedSimpArgs false
open Go.ChangeShapes Go.WideShapes Go.ChangeAt Go.RowKit

theorem results_tmp4 {fn : Func} {t u v x : Tmp} (h : fn.results = #[.tmp t, .tmp u, .tmp v, .tmp x]) (tmps : Array Value) (P : Program) (w : World) :
    (results fn tmps).run P w = .ok (.tuple #[tmps.getD t undef, tmps.getD u undef, tmps.getD v undef, tmps.getD x undef]) w := by
  simp [results, h]
end Go.Proofs.YtokfcgloogdeiaaGreatDoor
