/- Texts put together: CutB Gr RefLz RefLz2 RefLz3 RefLz4 ShMath ShEnc ShEnc2 RefSh RefSh2 RefSh3 -/
import Derived.Test.YtkefidbokeifdaaPart3
import Derived.Lib.ByteType
import Derived.Deep.Slices
import Derived.Laws.OwnMore
import Derived.Test.YtkefidbokeifdaaPart4
import Derived.Test.YtkefidbokeifdaaPart1
import Derived.BigQuiet
import Derived.OwnWalk
namespace Go.Proofs.Ytkefidbokeifdaa
set_option linter.unusedVariables false
set_option linter.unusedSimpArgs false
open Go.ChangeShapes Go.WideShapes Go.ChangeAt Go.RowKit

theorem under8 : Try.prog.underlying 22 = some (.slice (Try.prog.elem 22)) ∧ Try.prog.elem 22 = 5 := by
  have h := Try.underlying22
  constructor
  · simp [Program.elem, h]
  · simp [Program.elem, h]
theorem size8 (w : World) : (Go.sizeOf 5).run Try.prog w = .ok 1 w := Lib.byte_size info8 w
theorem addr_block (x : Addr) (i : Nat) : (x.add i).block = x.block := by unfold Addr.add; split <;> rfl
theorem Bs.cutOf {w : World} {a : Option Addr} {l : List UInt8} {cap : Nat} (h : Bs w (.slice a l.length cap) l) (i j m : Nat) (hij : i ≤ j) (hj : j ≤ l.length) (hm : j ≤ m) (hmc : m ≤ cap) :
    Bs w (sliced a i j m 1) ((l.drop i).take (j - i)) ∧ (sliced a i j m 1).ownBlock = (Value.slice a l.length cap).ownBlock := by
  obtain ⟨a', cap', hv, h1, h2, h3, h4⟩ := h
  simp only [Value.slice.injEq] at hv
  obtain ⟨rfl, _, rfl⟩ := hv
  have e : ((l.drop i).take (j - i)).length = j - i := by simp; omega
  unfold sliced
  constructor
  · refine ⟨_, m - i, by rw [e], by rw [e]; omega, by omega, ?_, fun x hx k hk => ?_⟩
    · intro hn
      split at hn
      · omega
      · have : a = none := by simpa using hn
        have := h3 this; omega
    · rw [e] at hk
      have hne : ¬ m = i := by omega
      rw [if_neg hne] at hx
      cases a with
      | none => simp at hx
      | some y =>
        obtain rfl : y.add (i * 1) = x := by simpa using hx
        rw [Go.Deep.add_add, show i * 1 + k = i + k by omega, h4 y rfl (i + k) (by omega)]
        simp
  · split
    · cases a <;> rfl
    · cases a with
      | none => rfl
      | some y => simp [Value.ownBlock, addr_block]
/-- v[x:y] -/
theorem Bs.cut {w : World} {v : Value} {l : List UInt8} (h : Bs w v l) (i j : Nat) (x y : Int) (hx : x = i) (hy : y = j) (hij : i ≤ j) (hj : j ≤ l.length) :
    ∃ v', (∀ W, (Instr.slice 22 v (some (.int .i64 x)) (some (.int .i64 y)) none).run Try.prog W = .ok v' W) ∧ Bs w v' ((l.drop i).take (j - i)) ∧ v'.ownBlock = v.ownBlock := by
  subst hx hy
  obtain ⟨a, cap, rfl, h1, h2⟩ := h.shape
  obtain ⟨k1, k2⟩ := h.cutOf i j cap hij hj (by omega) (by omega)
  exact ⟨_, fun W => by rw [run_slice_lh W _ _ _ _ under8.1 .i64 .i64 _ _ (by omega) (by omega) (by omega), under8.2, size8]; rfl, k1, k2⟩
/-- v[x:] -/
theorem Bs.from {w : World} {v : Value} {l : List UInt8} (h : Bs w v l) (i : Nat) (x : Int) (hx : x = i) (hi : i ≤ l.length) :
    ∃ v', (∀ W, (Instr.slice 22 v (some (.int .i64 x)) none none).run Try.prog W = .ok v' W) ∧ Bs w v' (l.drop i) ∧ v'.ownBlock = v.ownBlock := by
  subst hx
  obtain ⟨a, cap, rfl, h1, h2⟩ := h.shape
  obtain ⟨k1, k2⟩ := h.cutOf i l.length cap hi (Nat.le_refl _) h1 (by omega)
  have e : (l.drop i).take (l.length - i) = l.drop i := List.take_of_length_le (by simp)
  rw [e] at k1
  exact ⟨_, fun W => by rw [run_slice_l W _ _ _ _ under8.1 .i64 _ (by omega) (by omega), under8.2, size8]; rfl, k1, k2⟩
/-- v[:y] -/
theorem Bs.upto {w : World} {v : Value} {l : List UInt8} (h : Bs w v l) (j : Nat) (y : Int) (hy : y = j) (hj : j ≤ l.length) :
    ∃ v', (∀ W, (Instr.slice 22 v none (some (.int .i64 y)) none).run Try.prog W = .ok v' W) ∧ Bs w v' (l.take j) ∧ v'.ownBlock = v.ownBlock := by
  subst hy
  obtain ⟨a, cap, rfl, h1, h2⟩ := h.shape
  obtain ⟨k1, k2⟩ := h.cutOf 0 j cap (by omega) hj (by omega) (by omega)
  exact ⟨_, fun W => by rw [run_slice_h W _ _ _ _ under8.1 .i64 _ (by omega) (by omega), under8.2, size8]; rfl, by simpa using k1, k2⟩
/-- the beginning of a slice, as a walk writes it out -/
theorem Bs.pre {w : World} {a : Option Addr} {l : List UInt8} {cap : Nat} (h : Bs w (.slice a l.length cap) l) (n : Nat) (hn : n ≤ l.length) : Bs w (.slice a n cap) (l.take n) := by
  obtain ⟨a', cap', hv, h1, h2, h3, h4⟩ := h
  simp only [Value.slice.injEq] at hv
  obtain ⟨rfl, _, rfl⟩ := hv
  have e : (l.take n).length = n := by rw [List.length_take]; omega
  refine ⟨a, cap, by rw [e], by omega, h2, h3, fun x hx i hi => ?_⟩
  rw [e] at hi
  rw [h4 x hx i (by omega)]; simp
end Go.Proofs.Ytkefidbokeifdaa
namespace Go.Proofs.Ytkefidbokeifdaa
set_option linter.unusedVariables false
set_option linter.unusedSimpArgs false
open Go.ChangeShapes Go.WideShapes Go.ChangeAt Go.RowKit

/-- a kind of element: its cells, its type's number, its slices' -/
structure El (α : Type) where
  sz : Nat
  ty : TypeId
  sl : TypeId
  bytes : Nat
  enc : α → List Value
structure El.Good {α : Type} (E : El α) : Prop where
  pos : 0 < E.sz
  len : ∀ x, (E.enc x).length = E.sz
  one : ∀ x, ∀ u ∈ E.enc x, u.oneCell' = true
  info : (Try.prog.info? E.ty).map (fun i => (i.zero.map (·.cells.size), i.size, i.bytes)) = some (some E.sz, E.sz, E.bytes)
  under : Try.prog.underlying E.sl = some (.slice E.ty)
  small : E.bytes ≤ 1000
section
variable {α : Type} {E : El α}
def El.cells (E : El α) (xs : List α) : List Value := xs.flatMap E.enc
theorem El.cells_append (E : El α) (a b : List α) : E.cells (a ++ b) = E.cells a ++ E.cells b := by simp [El.cells]
theorem El.cells_one (E : El α) (x : α) : E.cells [x] = E.enc x := by simp [El.cells]
theorem El.cells_cons (E : El α) (x : α) (xs : List α) : E.cells (x :: xs) = E.enc x ++ E.cells xs := by simp [El.cells]
theorem El.cells_len (G : E.Good) (xs : List α) : (E.cells xs).length = xs.length * E.sz := by
  induction xs with
  | nil => simp [El.cells]
  | cons x xs ih => rw [E.cells_cons, List.length_append, ih, G.len, List.length_cons, Nat.succ_mul, Nat.add_comm]
theorem El.cells_get (G : E.Good) (xs : List α) (i j : Nat) (h : i < xs.length) (hj : j < E.sz) : (E.cells xs)[i * E.sz + j]? = (E.enc xs[i])[j]? := by
  induction xs generalizing i with
  | nil => simp at h
  | cons x xs ih =>
    rw [E.cells_cons]
    have hl := G.len x
    cases i with
    | zero => rw [Nat.zero_mul, Nat.zero_add, List.getElem?_append_left (by omega)]; rfl
    | succ i =>
      rw [List.getElem?_append_right (by rw [hl, Nat.succ_mul]; omega), hl, show (i + 1) * E.sz + j - E.sz = i * E.sz + j by rw [Nat.succ_mul]; omega]
      exact ih i (by simpa using h)
theorem El.cells_set (G : E.Good) (xs : List α) (i j : Nat) (h : i < xs.length) (hj : j < E.sz) (y : α) (u : Value) (hy : E.enc y = (E.enc xs[i]).set j u) : E.cells (xs.set i y) = (E.cells xs).set (i * E.sz + j) u := by
  induction xs generalizing i with
  | nil => simp at h
  | cons x xs ih =>
    have hl := G.len x
    cases i with
    | zero =>
      rw [List.set_cons_zero, E.cells_cons, E.cells_cons, Nat.zero_mul, Nat.zero_add, List.set_append_left _ _ (by omega), hy]; rfl
    | succ i =>
      rw [List.set_cons_succ, E.cells_cons, E.cells_cons, List.set_append_right _ _ (by rw [hl, Nat.succ_mul]; omega), hl, show (i + 1) * E.sz + j - E.sz = i * E.sz + j by rw [Nat.succ_mul]; omega, ih i (by simpa using h) hy]
theorem El.cells_take (G : E.Good) (xs : List α) (n : Nat) : E.cells (xs.take n) = (E.cells xs).take (n * E.sz) := by
  induction xs generalizing n with
  | nil => simp [El.cells]
  | cons x xs ih =>
    cases n with
    | zero => simp [El.cells]
    | succ n =>
      have hl := G.len x
      have h1 : (E.enc x).take ((n + 1) * E.sz) = E.enc x := List.take_of_length_le (by rw [hl, Nat.succ_mul]; omega)
      rw [List.take_succ_cons, E.cells_cons, E.cells_cons, ih, List.take_append, hl, show (n + 1) * E.sz - E.sz = n * E.sz by rw [Nat.succ_mul]; omega, h1]
theorem El.cells_drop (G : E.Good) (xs : List α) (n : Nat) : E.cells (xs.drop n) = (E.cells xs).drop (n * E.sz) := by
  induction xs generalizing n with
  | nil => simp [El.cells]
  | cons x xs ih =>
    cases n with
    | zero => simp
    | succ n =>
      have hl := G.len x
      have h1 : (E.enc x).drop ((n + 1) * E.sz) = [] := List.drop_eq_nil_of_le (by rw [hl, Nat.succ_mul]; omega)
      rw [List.drop_succ_cons, E.cells_cons, ih, List.drop_append, hl, show (n + 1) * E.sz - E.sz = n * E.sz by rw [Nat.succ_mul]; omega, h1]; rfl
theorem El.one' (G : E.Good) (xs : List α) : ∀ u ∈ E.cells xs, u.oneCell' = true := by
  intro u hu
  obtain ⟨x, _, h⟩ := List.mem_flatMap.1 hu
  exact G.one x u h
/-- v is a slice of the elements xs -/
def Gs (E : El α) (w : World) (v : Value) (xs : List α) : Prop :=
  ∃ a cap, v = .slice a xs.length cap ∧ xs.length ≤ cap ∧ cap ≤ maxLen ∧ (a = none → cap = 0) ∧ ∀ x, a = some x → ∀ j, j < xs.length * E.sz → w.cell? (x.add j) = (E.cells xs)[j]?
theorem Gs.keep (G : E.Good) {w w' : World} {v : Value} {xs : List α} {S : List Nat} (h : Gs E w v xs) (k : Keep S w w') (hb : ∀ b, v.ownBlock = some b → b ∉ S) : Gs E w' v xs := by
  obtain ⟨a, cap, rfl, h1, h2, h3, h4⟩ := h
  refine ⟨a, cap, rfl, h1, h2, h3, fun x hx j hj => ?_⟩
  have hs := h4 x hx j hj
  obtain ⟨u, hu⟩ : ∃ u, (E.cells xs)[j]? = some u := ⟨_, List.getElem?_eq_getElem (by rw [El.cells_len G]; exact hj)⟩
  rw [hu] at hs ⊢
  refine k.cell hs ?_
  subst hx
  rw [addr_block]; exact hb _ rfl
theorem Gs.drewN (G : E.Good) {w : World} {v : Value} {xs : List α} (h : Gs E w v xs) (n : Nat) : Gs E (w.drewN n) v xs := h.keep G ((Keep.refl [] w).drewN _) (by simp)
theorem Gs.sh {w : World} {v : Value} {xs : List α} (h : Gs E w v xs) : ∃ a cap, v = .slice a xs.length cap ∧ xs.length ≤ cap ∧ cap ≤ 9223372036854775807 := by
  obtain ⟨a, cap, rfl, h1, h2, _⟩ := h
  unfold maxLen at h2
  exact ⟨a, cap, rfl, h1, by omega⟩
theorem Gs.nil (E : El α) (w : World) : Gs E w (.slice none 0 0) [] := ⟨none, 0, rfl, by simp, by simp, fun _ => rfl, fun x hx => nomatch hx⟩
theorem Gs.at (G : E.Good) {w : World} {v : Value} {xs : List α} (h : Gs E w v xs) (i : Nat) (hi : i < xs.length) : ∃ b off cap, v = .slice (some ⟨b, off, none⟩) xs.length cap ∧ ∀ j, j < E.sz → w.cell? ⟨b, off + (i * E.sz + j), none⟩ = (E.enc xs[i])[j]? := by
  obtain ⟨a, cap, rfl, h1, h2, h3, h4⟩ := h
  cases a with
  | none => have := h3 rfl; omega
  | some x =>
    obtain ⟨b, off, spot⟩ := x
    have hin : ∀ i j, i < xs.length → j < E.sz → i * E.sz + j < xs.length * E.sz := fun i j h1 h2 => by
      have := Nat.mul_le_mul_right E.sz (show i + 1 ≤ xs.length by omega)
      rw [Nat.succ_mul] at this; omega
    have hspot : spot = none := by
      have hz : 0 < xs.length := by omega
      have c0 := h4 _ rfl (0 * E.sz + 0) (hin 0 0 hz G.pos)
      rw [El.cells_get G xs 0 0 hz G.pos, List.getElem?_eq_getElem (by rw [G.len]; exact G.pos)] at c0
      simpa [Addr.add] using World.cell?_spot c0
    subst hspot
    have e : ∀ m, (⟨b, off, none⟩ : Addr).add m = ⟨b, off + m, none⟩ := fun m => by cases m <;> simp [Addr.add]
    refine ⟨b, off, cap, rfl, fun j hj => ?_⟩
    rw [← e, h4 _ rfl _ (hin i j hi hj), El.cells_get G xs i j hi hj]
theorem Gs.lt (G : E.Good) {w : World} {v : Value} {xs : List α} (h : Gs E w v xs) (hl : xs ≠ []) : ∀ b, v.ownBlock = some b → b < w.heap.size := by
  intro b hb
  have hp : 0 < xs.length := by cases xs with | nil => exact absurd rfl hl | cons _ _ => simp
  obtain ⟨b', off, cap, rfl, hc⟩ := h.at G 0 hp
  obtain rfl : b' = b := by simpa [Value.ownBlock] using hb
  have := hc 0 G.pos
  rw [List.getElem?_eq_getElem (by rw [G.len]; exact G.pos)] at this
  apply Decidable.byContradiction
  intro hn
  have h2 : w.heap[b']? = none := by rw [Array.getElem?_eq_none_iff]; omega
  simp [World.cell?, h2] at this
theorem Gs.keep' (G : E.Good) {w w' : World} {v : Value} {xs : List α} {S : List Nat} (h : Gs E w v xs) (k : Keep S w w') (hb : xs ≠ [] → ∀ b, v.ownBlock = some b → b ∉ S) : Gs E w' v xs := by
  by_cases h0 : xs = []
  · subst h0
    obtain ⟨a, cap, rfl, h1, h2, h3, h4⟩ := h
    exact ⟨a, cap, rfl, h1, h2, h3, fun x _ j hj => by simp at hj⟩
  · exact h.keep G k (hb h0)
theorem Gs.src (G : E.Good) {w : World} {v : Value} {xs : List α} (h : Gs E w v xs) : Src w E.sz v xs.length (E.cells xs) := by
  obtain ⟨a, cap, rfl, h1, h2, h3, h4⟩ := h
  refine ⟨El.cells_len G xs, El.one' G xs, ?_⟩
  cases a with
  | none =>
    obtain rfl := h3 rfl
    have : xs.length = 0 := by omega
    left; simp [this]
  | some x =>
    refine .inr ⟨x, cap, rfl, fun j u hu => ?_⟩
    have hj : j < xs.length * E.sz := by rw [← El.cells_len G]; exact (List.getElem?_eq_some_iff.1 hu).1
    rw [h4 x rfl j hj, hu]
/-- a literal of elements -/
theorem Gs.lit (G : E.Good) {w : World} {g : Nat} {cs : Array Value} {t : TypeId} (xs : List α) (n : Nat) (hb : Blk w g cs t) (hc : cs.toList = E.cells xs) (hn : xs.length = n) (hl : n ≤ maxLen) : Gs E w (.slice (some ⟨g, 0, none⟩) n n) xs := by
  subst hn
  refine ⟨some ⟨g, 0, none⟩, xs.length, rfl, Nat.le_refl _, hl, (fun h => nomatch h), fun x hx j hj => ?_⟩
  obtain rfl : (⟨g, 0, none⟩ : Addr) = x := by simpa using hx
  rw [show (⟨g, 0, none⟩ : Addr).add j = ⟨g, j, none⟩ by cases j <;> simp [Addr.add]]
  obtain ⟨u, hu⟩ : ∃ u, (E.cells xs)[j]? = some u := ⟨_, List.getElem?_eq_getElem (by rw [El.cells_len G]; exact hj)⟩
  rw [hu]
  exact hb.cell j _ (by rw [← Array.getElem?_toList, hc]; exact hu)
/-- v is a slice of the elements xs of the call's own -/
def OwnG (E : El α) (w : World) (v : Value) (xs : List α) : Prop := w.ownsRow 0 E.ty E.sz v xs.length (E.cells xs)
theorem OwnG.nil (E : El α) (w : World) : OwnG E w (.slice none 0 0) [] := World.ownsRow_nil w 0 _ _
theorem OwnG.keep {w w' : World} {v : Value} {xs : List α} {S : List Nat} (h : OwnG E w v xs) (k : Keep S w w') (hb : ∀ b, v.ownBlock = some b → b ∉ S) : OwnG E w' v xs := by
  refine ⟨h.1, ?_⟩
  rcases h.2 with h2 | ⟨g, cap, cur, rfl, hb0, hh, r⟩
  · exact .inl h2
  · exact .inr ⟨g, cap, cur, rfl, hb0, (k.block g (lt_of_block hh) (hb g rfl)).trans hh, r⟩
theorem OwnG.lt {w : World} {v : Value} {xs : List α} (h : OwnG E w v xs) : ∀ b, v.ownBlock = some b → b < w.heap.size := fun b hb => (World.ownsRow.lt h b hb).2
theorem OwnG.gs {w : World} {v : Value} {xs : List α} (h : OwnG E w v xs) : Gs E w v xs := by
  rcases h.2 with ⟨rfl, hn⟩ | ⟨g, cap, cur, rfl, _, hh, hc, hm, hs, ht⟩
  · obtain rfl : xs = [] := List.eq_nil_of_length_eq_zero hn
    exact Gs.nil E w
  · refine ⟨some ⟨g, 0, none⟩, cap, rfl, hc, hm, (fun h => nomatch h), fun x hx j hj => ?_⟩
    obtain rfl : (⟨g, 0, none⟩ : Addr) = x := by simpa using hx
    have e : (⟨g, 0, none⟩ : Addr).add j = ⟨g, j, none⟩ := by cases j <;> simp [Addr.add]
    rw [e, cell_of_row w g j cur _ (0, 0) hh, ← ht, List.getElem?_take, if_pos (by omega)]
    simp
theorem OwnG.shape {w : World} {v : Value} {xs : List α} (h : OwnG E w v xs) : (v = .slice none 0 0 ∧ xs = []) ∨ ∃ g c, v = .slice (some ⟨g, 0, none⟩) xs.length c ∧ xs.length ≤ c ∧ c ≤ maxLen := by
  rcases h.2 with ⟨h', hn⟩ | ⟨g', cap', cur, h', _, _, h1, h2, _⟩
  · exact .inl ⟨h', List.eq_nil_of_length_eq_zero hn⟩
  · exact .inr ⟨g', cap', h', h1, h2⟩
theorem OwnG.free {w : World} {g n cap : Nat} {xs : List α} (h : OwnG E w (.slice (some ⟨g, 0, none⟩) n cap) xs) (j : Nat) : w.frozen? ⟨g, j, none⟩ = false := by
  have hn : n = xs.length := by
    obtain ⟨_, _, e, _⟩ := h.gs
    simp only [Value.slice.injEq] at e; exact e.2.1
  subst hn
  exact World.ownsRow.frozenAt h j
theorem OwnG.cell (G : E.Good) {w : World} {g n cap : Nat} {xs : List α} (h : OwnG E w (.slice (some ⟨g, 0, none⟩) n cap) xs) (i j : Nat) (hi : i < xs.length) (hj : j < E.sz) : w.cell? ⟨g, i * E.sz + j, none⟩ = (E.enc xs[i])[j]? := by
  obtain ⟨b, off, cp, hv, hc⟩ := h.gs.at G i hi
  simp only [Value.slice.injEq, Option.some.injEq, Addr.mk.injEq] at hv
  obtain ⟨⟨rfl, rfl, _⟩, _, _⟩ := hv
  have := hc j hj
  rwa [Nat.zero_add] at this
/-- one cell of an element stored anew -/
theorem OwnG.store (G : E.Good) {w : World} {g n cap : Nat} {xs : List α} (h : OwnG E w (.slice (some ⟨g, 0, none⟩) n cap) xs) (i j : Nat) (hi : i < xs.length) (hj : j < E.sz) (y : α) (u : Value) (hy : E.enc y = (E.enc xs[i]).set j u) :
    OwnG E (w.setCell ⟨g, i * E.sz + j, none⟩ u) (.slice (some ⟨g, 0, none⟩) n cap) (xs.set i y) := by
  have hn : n = xs.length := by
    obtain ⟨_, _, e, _⟩ := h.gs
    simp only [Value.slice.injEq] at e; exact e.2.1
  subst hn
  unfold OwnG
  rw [List.length_set, El.cells_set G xs i j hi hj y u hy]
  exact (World.ownsRow.stored h (i * E.sz + j) u).1
theorem run_appendG (G : E.Good) (w : World) (ty : TypeId) (v : Value) (xs : List α) (hown : OwnG E w v xs) (xv : Value) (ys : List α) (hsrc : Gs E w xv ys) (hlen : xs.length + ys.length ≤ 140000000000) :
    ∃ v' w', (Builtin.append_ #[E.sl, E.sl] ty #[v, xv]).run Try.prog w = .ok v' w' ∧ OwnG E w' v' (xs ++ ys) ∧ Keep v.ownBlock.toList w w' ∧ (∀ b, v'.ownBlock = some b → v.ownBlock = some b ∨ b = w.heap.size) := by
  obtain ⟨i0, hi, hzz⟩ := Option.map_eq_some_iff.1 G.info
  simp only [Prod.mk.injEq] at hzz
  obtain ⟨hz, hz1, hz2⟩ := hzz
  obtain ⟨z, hz, hzc⟩ := Option.map_eq_some_iff.1 hz
  have hb := G.small
  have hbytes : (xs.length + ys.length) * E.bytes ≤ 140737488355328 := Nat.le_trans (Nat.mul_le_mul hlen hb) (by decide)
  obtain ⟨v', w', hr, h2, h3, h4, h5⟩ := run_append_any (P := Try.prog) w E.sl ty E.ty i0 z E.sz E.bytes G.under hi hz hz1 hz2 hzc G.pos v xs.length (E.cells xs) hown xv ys.length (E.cells ys) (hsrc.src G) (by unfold maxLen; omega) hbytes
  exact ⟨v', w', hr, by unfold OwnG; rw [List.length_append, E.cells_append]; exact h2, (Keep.refl _ _).grown h3 (fun k hk => .inl (by simp [hk])), h4⟩
/-- append of elements -/
theorem wpList_appendG (G : E.Good) {w : World} {ops : Array Oper} {rest : List Oper} {o : Oper} {a : Act} {Q : Exit → Act → World → Prop} (s x : Operand) (hgd : o.guard = none)
    (ho : o.op = .call { callee := .builtin .append, args := #[s, x], argTypes := #[E.sl, E.sl] })
    (v : Value) (xs : List α) (hs : a.eval s = v) (hown : OwnG E w v xs) (xv : Value) (ys : List α) (hx : a.eval x = xv) (hsrc : Gs E w xv ys) (hlen : xs.length + ys.length ≤ 140000000000)
    (h : ∀ v' w', OwnG E w' v' (xs ++ ys) → Keep v.ownBlock.toList w w' → (∀ b, v'.ownBlock = some b → v.ownBlock = some b ∨ b = w.heap.size) → wpList Try.prog ops Q rest (a.put o.dst v') w') : wpList Try.prog ops Q (o :: rest) a w := by
  obtain ⟨v', w', hr, h2, h3, h4⟩ := run_appendG G w o.type v xs hown xv ys hsrc hlen
  refine wpList_plain hgd fun K hK => ?_
  unfold Oper.wp execOp
  simp only [ho, resolve, invoke, builtin, Sem.run_bind, Sem.run_pure, Result.andThen_ok, List.map_toArray, List.map_cons, List.map_nil, hs, hx, hr]
  exact hK _ _ (h v' w' h2 h3 h4)
/-- append of elements, as a step of a region that draws -/
theorem step_appendG (G : E.Good) {w : World} {ops : Array Oper} {o : Oper} {a : Act} {K : Act → World → Prop} {Q : Exit → Act → World → Prop} {F : Prop} (s x : Operand) (hgd : o.guard = none)
    (ho : o.op = .call { callee := .builtin .append, args := #[s, x], argTypes := #[E.sl, E.sl] })
    (v : Value) (xs : List α) (hs : a.eval s = v) (hown : OwnG E w v xs) (xv : Value) (ys : List α) (hx : a.eval x = xv) (hsrc : Gs E w xv ys) (hlen : xs.length + ys.length ≤ 140000000000)
    (h : ∀ v' w', OwnG E w' v' (xs ++ ys) → Keep v.ownBlock.toList w w' → (∀ b, v'.ownBlock = some b → v.ownBlock = some b ∨ b = w.heap.size) → K (a.put o.dst v') w') :
    if Region.wanted o (yielded ops a.tmps) = true then Oper.wp Try.prog o a w K Q else F := by
  have hw : Region.wanted o (yielded ops a.tmps) = true := by simp [Region.wanted, hgd]
  rw [if_pos hw]
  obtain ⟨v', w', hr, h2, h3, h4⟩ := run_appendG G w o.type v xs hown xv ys hsrc hlen
  unfold Oper.wp execOp
  simp only [ho, resolve, invoke, builtin, Sem.run_bind, Sem.run_pure, Result.andThen_ok, List.map_toArray, List.map_cons, List.map_nil, hs, hx, hr]
  exact h v' w' h2 h3 h4
theorem El.Good.size (G : E.Good) (w : World) : (Go.sizeOf (Try.prog.elem E.sl)).run Try.prog w = .ok E.sz w := by
  obtain ⟨i0, hi, hzz⟩ := Option.map_eq_some_iff.1 G.info
  simp only [Prod.mk.injEq] at hzz
  have e : Try.prog.elem E.sl = E.ty := by simp [Program.elem, G.under]
  rw [e]
  simp [sizeOf, typeInfo, hi, hzz.2.1]
theorem El.Good.under' (G : E.Good) : Try.prog.underlying E.sl = some (.slice (Try.prog.elem E.sl)) := by
  have e : Try.prog.elem E.sl = E.ty := by simp [Program.elem, G.under]
  rw [e]; exact G.under
theorem Gs.cutOf (G : E.Good) {w : World} {a : Option Addr} {l : List α} {cap : Nat} (h : Gs E w (.slice a l.length cap) l) (i j m : Nat) (hij : i ≤ j) (hj : j ≤ l.length) (hm : j ≤ m) (hmc : m ≤ cap) :
    Gs E w (sliced a i j m E.sz) ((l.drop i).take (j - i)) ∧ (∀ b, (sliced a i j m E.sz).ownBlock = some b → (Value.slice a l.length cap).ownBlock = some b) := by
  obtain ⟨a', cap', hv, h1, h2, h3, h4⟩ := h
  simp only [Value.slice.injEq] at hv
  obtain ⟨rfl, _, rfl⟩ := hv
  have e : ((l.drop i).take (j - i)).length = j - i := by simp; omega
  unfold sliced
  constructor
  · refine ⟨_, m - i, by rw [e], by rw [e]; omega, by omega, ?_, fun x hx k hk => ?_⟩
    · intro hn
      split at hn
      · omega
      · have : a = none := by simpa using hn
        have := h3 this; omega
    · rw [e] at hk
      have hne : ¬ m = i := by rintro rfl; have : j = m := by omega
                               subst this; simp at hk
      rw [if_neg hne] at hx
      cases a with
      | none => simp at hx
      | some y =>
        obtain rfl : y.add (i * E.sz) = x := by simpa using hx
        have h5 : i * E.sz + k < l.length * E.sz := by
          have h6 := Nat.mul_le_mul_right E.sz hj
          have h7 : (j - i) * E.sz = j * E.sz - i * E.sz := Nat.sub_mul _ _ _
          omega
        have h6 : (E.cells ((l.drop i).take (j - i)))[k]? = (E.cells l)[i * E.sz + k]? := by
          rw [El.cells_take G, El.cells_drop G, List.getElem?_take, if_pos (by omega), List.getElem?_drop]
        rw [Go.Deep.add_add, h4 y rfl (i * E.sz + k) h5, h6]
  · intro b hb
    revert hb
    split
    · cases a <;> exact fun h => h
    · cases a with
      | none => exact fun h => h
      | some y => simp [Value.ownBlock, addr_block]
/-- v[x:y] -/
theorem Gs.cut (G : E.Good) {w : World} {v : Value} {l : List α} (h : Gs E w v l) (i j : Nat) (x y : Int) (hx : x = i) (hy : y = j) (hij : i ≤ j) (hj : j ≤ l.length) :
    ∃ v', (∀ W, (Instr.slice E.sl v (some (.int .i64 x)) (some (.int .i64 y)) none).run Try.prog W = .ok v' W) ∧ Gs E w v' ((l.drop i).take (j - i)) ∧ ∀ b, v'.ownBlock = some b → v.ownBlock = some b := by
  subst hx hy
  obtain ⟨a, cap, rfl, h1, h2⟩ := h.sh
  obtain ⟨k1, k2⟩ := h.cutOf G i j cap hij hj (by omega) (by omega)
  exact ⟨_, fun W => by rw [run_slice_lh W _ _ _ _ G.under' .i64 .i64 _ _ (by omega) (by omega) (by omega), G.size]; rfl, k1, k2⟩
/-- v[x:] -/
theorem Gs.from (G : E.Good) {w : World} {v : Value} {l : List α} (h : Gs E w v l) (i : Nat) (x : Int) (hx : x = i) (hi : i ≤ l.length) :
    ∃ v', (∀ W, (Instr.slice E.sl v (some (.int .i64 x)) none none).run Try.prog W = .ok v' W) ∧ Gs E w v' (l.drop i) ∧ ∀ b, v'.ownBlock = some b → v.ownBlock = some b := by
  subst hx
  obtain ⟨a, cap, rfl, h1, h2⟩ := h.sh
  obtain ⟨k1, k2⟩ := h.cutOf G i l.length cap hi (Nat.le_refl _) h1 (by omega)
  have e : (l.drop i).take (l.length - i) = l.drop i := List.take_of_length_le (by simp)
  rw [e] at k1
  exact ⟨_, fun W => by rw [run_slice_l W _ _ _ _ G.under' .i64 _ (by omega) (by omega), G.size]; rfl, k1, k2⟩
/-- v[:y] -/
theorem Gs.upto (G : E.Good) {w : World} {v : Value} {l : List α} (h : Gs E w v l) (j : Nat) (y : Int) (hy : y = j) (hj : j ≤ l.length) :
    ∃ v', (∀ W, (Instr.slice E.sl v none (some (.int .i64 y)) none).run Try.prog W = .ok v' W) ∧ Gs E w v' (l.take j) ∧ ∀ b, v'.ownBlock = some b → v.ownBlock = some b := by
  subst hy
  obtain ⟨a, cap, rfl, h1, h2⟩ := h.sh
  obtain ⟨k1, k2⟩ := h.cutOf G 0 j cap (by omega) hj (by omega) (by omega)
  exact ⟨_, fun W => by rw [run_slice_h W _ _ _ _ G.under' .i64 _ (by omega) (by omega), G.size]; rfl, by simpa using k1, k2⟩
/-- the beginning of a slice, as a walk writes it out -/
theorem Gs.pre (G : E.Good) {w : World} {a : Option Addr} {l : List α} {cap : Nat} (h : Gs E w (.slice a l.length cap) l) (n : Nat) (hn : n ≤ l.length) : Gs E w (.slice a n cap) (l.take n) := by
  obtain ⟨a', cap', hv, h1, h2, h3, h4⟩ := h
  simp only [Value.slice.injEq] at hv
  obtain ⟨rfl, _, rfl⟩ := hv
  have e : (l.take n).length = n := by rw [List.length_take]; omega
  refine ⟨a, cap, by rw [e], by omega, h2, h3, fun x hx i hi => ?_⟩
  rw [e] at hi
  have h6 := Nat.mul_le_mul_right E.sz hn
  rw [h4 x hx i (by omega), El.cells_take G, List.getElem?_take, if_pos hi]
end
end Go.Proofs.Ytkefidbokeifdaa
namespace Go.Proofs.Ytkefidbokeifdaa
set_option linter.unusedVariables false
set_option linter.unusedSimpArgs false
open Go.ChangeShapes Go.WideShapes Go.ChangeAt Go.RowKit

/-- a row of the document's table -/
def ER : El Lk := ⟨3, 110, 103, 24, fun r => [.int .i64 r.code, .int .i64 r.par, .int .u8 r.byt.toNat]⟩
theorem ERg : ER.Good := by
  refine ⟨by decide, fun _ => rfl, fun x u hu => ?_, by kernel_rfl, Try.underlying103, by decide⟩
  simp only [ER, List.mem_cons, List.not_mem_nil, or_false] at hu
  rcases hu with rfl | rfl | rfl <;> rfl
theorem Gs.lk {w : World} {v : Value} {rows : List Lk} (h : Gs ER w v rows) (i : Nat) (hi : i < rows.length) : ∃ b off cap, v = .slice (some ⟨b, off, none⟩) rows.length cap ∧ w.cell? ⟨b, off + i * 3, none⟩ = some (.int .i64 (rw' rows i).code) ∧
    w.cell? ⟨b, off + i * 3 + 1, none⟩ = some (.int .i64 (rw' rows i).par) ∧ w.cell? ⟨b, off + i * 3 + 2, none⟩ = some (.int .u8 (rw' rows i).byt.toNat) := by
  obtain ⟨b, off, cap, hv, hc⟩ := h.at ERg i hi
  rw [rw'_get _ _ hi]
  exact ⟨b, off, cap, hv, hc 0 (by decide), hc 1 (by decide), hc 2 (by decide)⟩
/-- block q is the document's table s, v its rows -/
def RT (w : World) (q : Nat) (v : Value) (s : LT) : Prop := Blk w q #[v, .int .i64 s.last] 105 ∧ Gs ER w v s.rows ∧ s.ok ∧ s.rows.length ≤ 8000 ∧ ∀ b, v.ownBlock = some b → b ≠ q ∧ b < w.heap.size
theorem RT.keep {w w' : World} {q : Nat} {v : Value} {s : LT} {S : List Nat} (h : RT w q v s) (k : Keep S w w') (hq : q ∉ S) (hv : s.rows ≠ [] → ∀ b, v.ownBlock = some b → b ∉ S) : RT w' q v s :=
  ⟨h.1.keep k hq, h.2.1.keep' ERg k hv, h.2.2.1, h.2.2.2.1, fun b hb => ⟨(h.2.2.2.2 b hb).1, Nat.lt_of_lt_of_le (h.2.2.2.2 b hb).2 k.size⟩⟩
theorem RT.drewN {w : World} {q : Nat} {v : Value} {s : LT} (h : RT w q v s) (n : Nat) : RT (w.drewN n) q v s := h.keep ((Keep.refl [] w).drewN _) (by simp) (by simp)
set_option maxRecDepth 100000 in
set_option maxHeartbeats 2000000 in
theorem rat_c (w : World) (q : Nat) (v : Value) (s : LT) (c : Int) (h : RT w q v s) : Calls Try.prog 58 #[.pointer (some ⟨q, 0, none⟩), .int .i64 c] w fun e w' => e = .returned (.int .i64 (atI s.rows c)) ∧ ∃ n, w' = w.drewN n := by
  obtain ⟨hB, hG, hok, hlen, _⟩ := h
  have c0 : w.cell? ⟨q, 0, none⟩ = some v := hB.cell 0 _ rfl
  have hsrt := hok.srt
  clear hB hok
  generalize s.rows = rows at *
  have HAT := Lib.hid (fun i hi => hG.lk i hi)
  have HLA := Lib.hid (lwb_all rows hsrt c)
  have HUN := Lib.hid (lwb_unique rows c)
  have HSR := Lib.hid hsrt
  obtain ⟨a, cap, rfl, _⟩ := hG.sh
  clear hG hsrt
  go_enter Try.func58, Try.ntmps58
  go_wp2_with fail
  go_quiet (fail)
  go_wp2_with fail
  go_loopw [5, 6] (fun lo hi wr => ∃ l k : Nat, l ≤ k ∧ k ≤ rows.length ∧ lo = .int .i64 l ∧ hi = .int .i64 k ∧ Hid (∀ i, i < l → ((rw' rows i).code : Int) < c) ∧ Hid (∀ i, k ≤ i → i < rows.length → c ≤ ((rw' rows i).code : Int)) ∧ ∃ m, wr = w.drewN m) (fun lo hi _ => (intOf hi).toNat - (intOf lo).toNat)
  case atStart => exact ⟨0, rows.length, by omega, by omega, rfl, rfl, fun i h => by omega, fun i h1 h2 => by omega, _, rfl⟩
  case round =>
    obtain ⟨l, k, hlk, hk, rfl, rfl, HL, HK, m, rfl⟩ := hrel
    by_cases hlt : l < k
    · obtain ⟨d, hd⟩ : ∃ d, (l + k) / 2 = d := ⟨_, rfl⟩
      have hdi : ((l : Int) + k) / 2 = d := by omega
      have d1 : l ≤ d := by omega
      have d2 : d < k := by omega
      obtain ⟨b, off, cap', hv, e0, _, _⟩ := HAT.out d (by omega)
      simp only [Value.slice.injEq] at hv
      obtain ⟨rfl, x1, rfl⟩ := hv
      clear x1 hd
      have hdl : (d : Int) < rows.length := by omega
      by_cases hc : ((rw' rows d).code : Int) < c
      · have HL2 : Hid (∀ i, i < d + 1 → ((rw' rows i).code : Int) < c) := fun i hi => by
          rcases Nat.lt_or_ge i d with h | h
          · have := HSR.out i d h (by omega); omega
          · obtain rfl : i = d := by omega
            exact hc
        generalize (rw' rows d).code = z at *
        go_wp2_with fail
        go_roundw
        case rel => exact ⟨d + 1, k, by omega, hk, by go_num, rfl, HL2, HK, _, rfl⟩
        case measure => simp [intOf]; omega
      · have HK2 : Hid (∀ i, d ≤ i → i < rows.length → c ≤ ((rw' rows i).code : Int)) := fun i h1 h2 => by
          rcases Nat.eq_or_lt_of_le h1 with h | h
          · subst h; omega
          · have := HSR.out d i h h2; omega
        generalize (rw' rows d).code = z at *
        go_wp2_with fail
        go_roundw
        case rel => exact ⟨l, d, d1, by omega, rfl, by rw [hdi], HL, HK2, _, rfl⟩
        case measure => simp [intOf]; omega
    · obtain rfl : l = k := by omega
      have hl : l = lwb rows c := HUN.out l hk HL.out (fun h => HK.out l (Nat.le_refl _) h)
      by_cases hin : l < rows.length
      · obtain ⟨b, off, cap', hv, e0, _, _⟩ := HAT.out l hin
        simp only [Value.slice.injEq] at hv
        obtain ⟨rfl, x1, rfl⟩ := hv
        clear x1
        have hdl : (l : Int) < rows.length := by omega
        by_cases hc : ((rw' rows l).code : Int) = c
        · have HR : Hid (atI rows c = l) := by unfold Hid atI; rw [← hl, if_pos ⟨hin, hc⟩]
          have hce : (((rw' rows l).code : Int) == c) = true := by simpa using hc
          clear hl hc
          generalize (rw' rows l).code = z at *
          go_wp2_with fail
          go_ret
          exact ⟨by rw [HR.out]; rfl, _, rfl⟩
        · have HR : Hid (atI rows c = -1) := by unfold Hid atI; rw [← hl, if_neg (fun g => hc g.2)]
          have hce : (((rw' rows l).code : Int) == c) = false := by simpa using hc
          clear hl hc
          generalize (rw' rows l).code = z at *
          go_wp2_with fail
          go_ret
          exact ⟨by rw [HR.out]; rfl, _, rfl⟩
      · have HR : Hid (atI rows c = -1) := by unfold Hid atI; rw [← hl, if_neg (fun g => hin g.1)]
        clear hl
        go_wp2_with fail
        go_ret
        exact ⟨by rw [HR.out]; rfl, _, rfl⟩
theorem nxF_succ (rows : List Lk) (f i : Nat) : nxF rows (f + 1) i = if i < 8192 then (if atI rows (i : Nat) < 0 then (i : Int) else nxF rows f (i + 1)) else -1 := rfl
set_option maxRecDepth 100000 in
set_option maxHeartbeats 2000000 in
theorem rnext_c (w : World) (q : Nat) (v : Value) (s : LT) (h : RT w q v s) : Calls Try.prog 44 #[.pointer (some ⟨q, 0, none⟩)] w fun e w' => e = .returned (.int .i64 s.next) ∧ ∃ n, w' = w.drewN n := by
  have c1 : w.cell? ⟨q, 1, none⟩ = some (.int .i64 s.last) := h.1.cell 1 _ rfl
  have HA := Lib.hid (fun m c => rat_c (w.drewN m) q v s c (h.drewN m))
  have hlast := h.2.2.1.last.2
  have HN : Hid (s.next = nxF s.rows 8192 (s.last + 1)) := rfl
  clear h
  generalize s.last = la at *
  generalize s.next = nx at *
  generalize s.rows = rows at *
  have HS := Lib.hid (nxF_succ rows)
  go_enter Try.func44, Try.ntmps44
  go_wp2_with fail
  go_loopw [3] (fun iv wr => ∃ (i f : Nat), i ≤ 8192 ∧ 8192 ≤ i + f ∧ iv = .int .i64 i ∧ Hid (nx = nxF rows f i) ∧ ∃ m, wr = w.drewN m) (fun iv _ => 8192 - (intOf iv).toNat)
  case atStart => exact ⟨la + 1, 8192, by omega, by omega, by go_num, HN, 0, rfl⟩
  case round =>
    clear HN
    obtain ⟨i, f, hi, hf, rfl, HN, m, rfl⟩ := hrel
    by_cases hlt : i < 8192
    · obtain ⟨f', rfl⟩ : ∃ f', f = f' + 1 := ⟨f - 1, by omega⟩
      have hst := HN.out
      rw [HS.out, if_pos hlt] at hst
      have HAI := Lib.hid (HA.out m (i : Int))
      rcases Int.lt_or_le (atI rows (i : Nat)) 0 with hneg | hpos
      · rw [if_pos hneg] at hst
        have HST := Lib.hid hst
        clear hst
        generalize atI rows (i : Nat) = z at *
        go_wp2_with fail
        refine HAI.out.mono ?_; rintro e w2 ⟨rfl, m2, rfl⟩
        go_wp2_with fail
        go_ret
        exact ⟨by rw [HST.out]; rfl, _, rfl⟩
      · have hn : ¬ atI rows (i : Nat) < 0 := by omega
        rw [if_neg hn] at hst
        have HST := Lib.hid hst
        clear hst
        generalize atI rows (i : Nat) = z at *
        go_wp2_with fail
        refine HAI.out.mono ?_; rintro e w2 ⟨rfl, m2, rfl⟩
        go_wp2_with fail
        go_roundw
        case rel => exact ⟨i + 1, f', by omega, by omega, by go_num, HST, _, rfl⟩
        case measure => simp [intOf]; omega
    · have HST : Hid (nx = -1) := by
        unfold Hid; rw [HN.out]
        cases f with
        | zero => rfl
        | succ f => rw [HS.out, if_neg hlt]
      obtain rfl : i = 8192 := by omega
      clear hlt
      go_wp2_with fail
      go_ret
      exact ⟨by rw [HST.out]; rfl, _, rfl⟩
/-- the first k rows have no such link -/
theorem child_none (s : LT) (p : Int) (c : UInt8) (h : ∀ i, i < s.rows.length → ¬ (((rw' s.rows i).par : Int) = p ∧ (rw' s.rows i).byt = c)) : s.child p c = -1 := by
  unfold LT.child
  have : (s.rows.find? fun r => decide ((r.par : Int) = p ∧ r.byt = c)) = none := by
    rw [List.find?_eq_none]
    intro r hr
    obtain ⟨i, hi, rfl⟩ := (mem_iff_rw' _ _).1 hr
    simpa using h i hi
  rw [this]
theorem child_some (s : LT) (p : Int) (c : UInt8) (k : Nat) (hk : k < s.rows.length) (h1 : ((rw' s.rows k).par : Int) = p ∧ (rw' s.rows k).byt = c) (h : ∀ i, i < k → ¬ (((rw' s.rows i).par : Int) = p ∧ (rw' s.rows i).byt = c)) : s.child p c = (rw' s.rows k).code := by
  unfold LT.child
  have : (s.rows.find? fun r => decide ((r.par : Int) = p ∧ r.byt = c)) = some (rw' s.rows k) := by
    rw [List.find?_eq_some_iff_getElem]
    refine ⟨by simpa using h1, k, hk, (rw'_get _ _ hk).symm, fun j hj => ?_⟩
    have := h j hj
    rw [rw'_get _ _ (by omega)] at this
    show (!decide _) = true
    rw [decide_eq_false this]; rfl
  rw [this]
end Go.Proofs.Ytkefidbokeifdaa
namespace Go.Proofs.Ytkefidbokeifdaa
set_option linter.unusedVariables false
set_option linter.unusedSimpArgs false
open Go.ChangeShapes Go.WideShapes Go.ChangeAt Go.RowKit

theorem srt_len (rows : List Lk) (hs : srt rows) (h : ∀ r ∈ rows, 257 ≤ r.code) : ∀ i, i < rows.length → 257 + i ≤ (rw' rows i).code := by
  intro i
  induction i with
  | zero => intro hi; have := h _ (mem_rw' rows 0 hi); omega
  | succ i ih => intro hi; have h1 := ih (by omega); have h2 := hs i (i + 1) (by omega) hi; omega
theorem LT.ok.len {s : LT} (h : s.ok) : s.rows.length ≤ 7935 := by
  rcases Nat.eq_zero_or_pos s.rows.length with h0 | h0
  · omega
  · have h1 := srt_len _ h.srt (fun r hr => (h.all r hr).1) (s.rows.length - 1) (by omega)
    have h2 := (h.all _ (mem_rw' s.rows (s.rows.length - 1) (by omega))).2.1
    omega
theorem rnew_c (w : World) : Calls Try.prog 40 #[] w fun e w' => e = .returned (.pointer (some ⟨w.heap.size, 0, none⟩)) ∧ RT w' w.heap.size (.slice none 0 0) LT.new ∧ Keep [] w w' := by
  have h := Blk.new w #[.slice none 0 0, .int .i64 256] 105
  go_enter Try.func40, Try.ntmps40
  go_wp2_with fail
  go_ret
  exact ⟨rfl, ⟨h, Gs.nil ER _, LT.new_ok, by decide, by simp [Value.ownBlock]⟩, (Keep.refl [] w).alloc _⟩
theorem radd_no (w : World) (q : Nat) (v : Value) (s : LT) (p : Int) (c : UInt8) (h : RT w q v s) (hn : s.next < 0 ∨ ¬ parOk p) : Calls Try.prog 45 #[.pointer (some ⟨q, 0, none⟩), .int .i64 p, .int .u8 c.toNat] w fun e w' => e = .returned (.int .i64 (-1)) ∧ ∃ n, w' = w.drewN n := by
  have HN := Lib.hid (rnext_c w q v s h)
  clear h
  generalize s.next = nx at *
  by_cases h1 : nx < 0
  · have d1 : decide (nx < 0) = true := by simpa using h1
    clear hn
    go_enter Try.func45, Try.ntmps45
    go_wp2_with fail
    refine HN.out.mono ?_; rintro e w2 ⟨rfl, m, rfl⟩
    go_wp2_with fail
    go_ret
    exact ⟨rfl, _, rfl⟩
  · have hp : ¬ parOk p := by rcases hn with h | h; exact absurd h h1; exact h
    have d1 : decide (nx < 0) = false := by simpa using h1
    clear hn
    by_cases h2 : p < 0
    · have d2 : decide (p < 0) = true := by simpa using h2
      clear hp
      go_enter Try.func45, Try.ntmps45
      go_wp2_with fail
      refine HN.out.mono ?_; rintro e w2 ⟨rfl, m, rfl⟩
      go_wp2_with fail
      go_ret
      exact ⟨rfl, _, rfl⟩
    · have d2 : decide (p < 0) = false := by simpa using h2
      by_cases h3 : 8191 < p
      · have d3 : decide (p > 8191) = true := by simpa using h3
        clear hp
        go_enter Try.func45, Try.ntmps45
        go_wp2_with fail
        refine HN.out.mono ?_; rintro e w2 ⟨rfl, m, rfl⟩
        go_wp2_with fail
        go_ret
        exact ⟨rfl, _, rfl⟩
      · have d3 : decide (p > 8191) = false := by simpa using h3
        have h4 : p = 256 := by unfold parOk at hp; omega
        subst h4
        clear hp
        go_enter Try.func45, Try.ntmps45
        go_wp2_with fail
        refine HN.out.mono ?_; rintro e w2 ⟨rfl, m, rfl⟩
        go_wp2_with fail
        go_ret
        exact ⟨rfl, _, rfl⟩
set_option maxRecDepth 100000 in
set_option maxHeartbeats 4000000 in
theorem radd_yes (w : World) (q : Nat) (v : Value) (s : LT) (p : Nat) (c : UInt8) (n : Nat) (h : RT w q v s) (hn : s.next = (n : Int)) (hn2 : n < 8192) (hp : parOk p) : Calls Try.prog 45 #[.pointer (some ⟨q, 0, none⟩), .int .i64 (p : Int), .int .u8 c.toNat] w fun e w' => e = .returned (.int .i64 n) ∧
    ∃ v', Blk w' q #[v', .int .i64 n] 105 ∧ Gs ER w' v' (ins s.rows ⟨n, p, c⟩) ∧ Keep [q] w w' ∧ ∀ b, v'.ownBlock = some b → w.heap.size ≤ b ∧ b < w'.heap.size := by
  have HN := Lib.hid (rnext_c w q v s h)
  rw [hn] at HN
  obtain ⟨hB, hG, hok, hlen, hbq⟩ := h
  unfold parOk at hp
  have d1 : decide ((n : Int) < 0) = false := by simp
  have d2 : decide ((p : Int) < 0) = false := by simp
  have d3 : decide ((p : Int) > 8191) = false := by simp; omega
  have d4 : ((p : Int) == 256) = false := by rw [beq_eq_false_iff_ne]; omega
  have hlw := lwb_le s.rows (n : Int)
  have HLT := Lib.hid (lwb_lt s.rows (n : Int))
  have HGE := Lib.hid (lwb_ge s.rows (n : Int))
  have HINS : Hid (ins s.rows ⟨n, p, c⟩ = s.rows.take (lwb s.rows n) ++ ⟨n, p, c⟩ :: s.rows.drop (lwb s.rows n)) := rfl
  clear hn hok hp
  generalize s.last = la at *
  generalize ins s.rows ⟨n, p, c⟩ = res at *
  generalize lwb s.rows (n : Int) = at' at *
  generalize s.rows = rows at *
  have HAT := Lib.hid (fun i hi => hG.lk i hi)
  have hqw := hB.lt
  have HG := Lib.hid hG
  have HB := Lib.hid hB
  have c0 : w.cell? ⟨q, 0, none⟩ = some v := hB.cell 0 _ rfl
  obtain ⟨a, cap, rfl, hcap, hcap2⟩ := hG.sh
  clear hG hB hbq
  go_enter Try.func45, Try.ntmps45
  go_wp2_with fail
  refine HN.out.mono ?_; rintro e w2 ⟨rfl, m0, rfl⟩
  clear HN
  go_wp2_with fail
  go_loopw [9] (fun kv wr => ∃ k : Nat, k ≤ at' ∧ kv = .int .i64 k ∧ ∃ m, wr = w.drewN m) (fun kv _ => at' - (intOf kv).toNat)
  case atStart => exact ⟨0, by omega, rfl, m0, rfl⟩
  case round =>
    obtain ⟨k, hk, rfl, m, rfl⟩ := hrel
    have hstop : (k : Int) < rows.length → ∃ b off z, a = some ⟨b, off, none⟩ ∧ w.cell? ⟨b, off + k * 3, none⟩ = some (.int .i64 z) ∧ (k < at' → z < (n : Int)) ∧ (k = at' → ¬ z < (n : Int)) := fun hin => by
      obtain ⟨b, off, cap', hv, e0, _, _⟩ := HAT.out k (by omega)
      simp only [Value.slice.injEq] at hv
      exact ⟨b, off, _, hv.1, e0, fun h => HLT.out k h, fun h => by subst h; have := HGE.out (by omega); omega⟩
    go_upto_region 6 with fail
    go_cut [44] (fun cv wx => wx = w.drewN m ∧ cv = .bool (decide (k < at')))
    case first =>
      by_cases hin : (k : Int) < rows.length
      · obtain ⟨b, off, z, rfl, e0, hc1, hc2⟩ := hstop hin
        clear hstop
        by_cases hlt : k < at'
        · have hz := hc1 hlt
          have dz : decide (z < (n : Int)) = true := by simpa using hz
          have dk : decide (k < at') = true := by simpa using hlt
          clear hc1 hc2
          go_wp2_with fail
          go_meet
          exact ⟨rfl, by rw [dk]⟩
        · have hz := hc2 (by omega)
          have dz : decide (z < (n : Int)) = false := by simpa using hz
          have dk : decide (k < at') = false := by simpa using hlt
          clear hc1 hc2
          go_wp2_with fail
          go_meet
          exact ⟨rfl, by rw [dk]⟩
      · have dk : decide (k < at') = false := by simp; omega
        clear hstop
        go_wp2_with fail
        go_meet
        exact ⟨rfl, by rw [dk]⟩
    case rest =>
      clear hstop
      obtain ⟨rfl, rfl⟩ := hcut
      by_cases hlt : k < at'
      · go_wp2_with fail
        go_roundw
        case rel => exact ⟨k + 1, by omega, by go_num, _, rfl⟩
        case measure => simp [intOf]; omega
      · obtain rfl : k = at' := by omega
        have hG2 := HG.out.drewN ERg m
        have hs1 := hG2.pre ERg k (by omega)
        have hO1 := OwnG.nil ER (w.drewN m)
        have K2 : Hid (Keep [q] w (w.drewN m)) := (Keep.refl [q] w).drewN m
        have hB2 := HB.out.drewN m
        have hz2 : w.heap.size = (w.drewN m).heap.size := rfl
        have hkc : (k : Int) ≤ cap := by omega
        have hkl : (k : Int) ≤ rows.length := by omega
        generalize w.drewN m = w2 at *
        have hr : res = (rows.take k ++ [⟨n, p, c⟩]) ++ (rows.drop k).take (rows.length - k) := by
          rw [HINS.out, List.take_of_length_le (l := rows.drop k) (by simp)]; simp
        have HRES := Lib.hid hr
        have hresl : res.length = rows.length + 1 := by rw [hr]; simp; omega
        have hqw2 := hB2.lt
        have c0 : w2.cell? ⟨q, 0, none⟩ = some (.slice a rows.length cap) := hB2.cell 0 _ rfl
        clear hr HB HG HAT HLT HGE HINS
        go_upto_region 9 with (at_builtin; (refine wpList_appendG ERg (.tmp 47) (.tmp 53) rfl rfl (.slice none 0 0) [] rfl hO1 (.slice a k cap) (rows.take k) rfl hs1 (by simp; omega) ?_); (intro v3 w3 ho3 hk3 hb3))
        have hB3 := hB2.keep hk3 (by simp [Value.ownBlock])
        have hG3 := hG2.keep' ERg hk3 (by simp [Value.ownBlock])
        have K3 : Hid (Keep [q] w w3) := K2.out.trans (hk3.mono (by simp [Value.ownBlock])) (fun x hx => .inl hx)
        have hz3 : w2.heap.size ≤ w3.heap.size := hk3.size
        have kA : Keep [] w3 (w3.alloc (.cells #[.int .i64 n, .int .i64 p, .int .u8 c.toNat] 110)) := (Keep.refl [] w3).alloc _
        have ho3A := ho3.keep kA (by simp)
        have hlit : Gs ER (w3.alloc (.cells #[.int .i64 n, .int .i64 p, .int .u8 c.toNat] 110)) (.slice (some ⟨w3.heap.size, 0, none⟩) 1 1) [⟨n, p, c⟩] := Gs.lit ERg [⟨n, p, c⟩] 1 (Blk.new w3 _ _) rfl rfl (by decide)
        have hB3A := hB3.keep kA (by simp)
        have hG3A := hG3.keep ERg kA (by simp)
        have hn3 : ∀ x, v3.ownBlock = some x → x = w2.heap.size := fun x hm => by
          rcases hb3 x hm with h | h
          · simp [Value.ownBlock] at h
          · exact h
        go_upto_region 10 with (at_builtin; (refine wpList_appendG ERg (.tmp 55) (.tmp 61) rfl rfl v3 _ rfl ho3A (.slice (some ⟨w3.heap.size, 0, none⟩) 1 1) [⟨n, p, c⟩] rfl hlit (by simp; omega) ?_); (intro v4 w4 ho4 hk4 hb4))
        have hB4 := hB3A.keep hk4 (fun hm => by have := hn3 q (by simpa using hm); omega)
        have hG4 := hG3A.keep' ERg hk4 (fun hne b hb hm => by have h1 := hG2.lt ERg hne b hb; have := hn3 b (by simpa using hm); omega)
        have K4 : Hid (Keep [q] w w4) := (K3.out.trans (kA.mono (by simp)) (fun x hx => .inl hx)).trans hk4 (fun x hx => by right; have := hn3 x (by simpa using hx); omega)
        have hn4 : ∀ x, v4.ownBlock = some x → w2.heap.size ≤ x ∧ x < w4.heap.size := fun x hm => ⟨by
          rcases hb4 x hm with h | h
          · have := hn3 x h; omega
          · rw [h]; exact Nat.le_trans hz3 kA.size, ho4.lt x hm⟩
        have c0 : w4.cell? ⟨q, 0, none⟩ = some (.slice a rows.length cap) := hB4.cell 0 _ rfl
        have hs4 := (hG4.cutOf ERg k rows.length cap (by omega) (by omega) (by omega) (Nat.le_refl _)).1
        clear hO1 hs1 hG2 hk3 hb3 hG3 hB3 ho3 ho3A hlit hB3A hG3A hk4 hb4 kA hB2
        go_upto_region 11 with (at_builtin; (refine wpList_appendG ERg (.tmp 63) (.tmp 69) rfl rfl v4 _ rfl ho4 _ _ rfl hs4 (by simp; omega) ?_); (intro v5 w5 ho5 hk5 hb5))
        have hB5 := hB4.keep hk5 (fun hm => by have := hn4 q (by simpa using hm); omega)
        have K5 : Hid (Keep [q] w w5) := K4.out.trans hk5 (fun x hx => by right; have := hn4 x (by simpa using hx); omega)
        have hn5 : ∀ x, v5.ownBlock = some x → w2.heap.size ≤ x := fun x hm => by
          rcases hb5 x hm with h | h
          · exact (hn4 x h).1
          · have := K4.out.size; omega
        have ho6 : OwnG ER w5 v5 res := by rw [HRES.out]; exact ho5
        have hcap6 := hcap2
        clear hb5 hn4 hs4 hG4 ho4 hk5 hB4 K4 ho5 HRES
        rcases ho6.shape with ⟨_, h6⟩ | ⟨g5, c5, rfl, _⟩
        · exfalso
          have : res.length = 0 := by rw [h6]; rfl
          rw [hresl] at this; omega
        clear hresl
        have c0 : w5.cell? ⟨q, 0, none⟩ = some (.slice a rows.length cap) := hB5.cell 0 _ rfl
        have c1 : w5.cell? ⟨q, 1, none⟩ = some (.int .i64 la) := hB5.cell 1 _ rfl
        have f0 := hB5.free 0
        have f1 := hB5.free 1
        have hgq : q ≠ g5 := by have := hn5 g5 rfl; omega
        have HB7 : Hid (Blk ((w5.setCell ⟨q, 0, none⟩ (.slice (some ⟨g5, 0, none⟩) res.length c5)).setCell ⟨q, 1, none⟩ (.int .i64 n)) q #[.slice (some ⟨g5, 0, none⟩) res.length c5, .int .i64 n] 105) := (hB5.set 0 _).set 1 _
        have K7 : Hid (Keep [q] w5 ((w5.setCell ⟨q, 0, none⟩ (.slice (some ⟨g5, 0, none⟩) res.length c5)).setCell ⟨q, 1, none⟩ (.int .i64 n))) := ((Keep.refl [q] w5).setCell (.inl (by simp)) _).setCell (.inl (by simp)) _
        have HG7 : Hid (Gs ER ((w5.setCell ⟨q, 0, none⟩ (.slice (some ⟨g5, 0, none⟩) res.length c5)).setCell ⟨q, 1, none⟩ (.int .i64 n)) (.slice (some ⟨g5, 0, none⟩) res.length c5) res) := ho6.gs.keep ERg K7.out (fun b hb => by
          obtain rfl : g5 = b := by simpa [Value.ownBlock] using hb
          simp; omega)
        have HLT5 : Hid (g5 < w5.heap.size) := ho6.lt g5 rfl
        clear hB5 ho6
        go_wp2_with fail
        all_goals
          go_ret
          exact ⟨rfl, _, HB7.out, HG7.out, K5.out.trans K7.out (fun x hx => .inl hx), fun b hb => ⟨hn5 b hb, by
            obtain rfl : g5 = b := by simpa [Value.ownBlock] using hb
            have := HLT5.out; simpa using this⟩⟩
theorem radd_c (w : World) (q : Nat) (v : Value) (s : LT) (p : Int) (c : UInt8) (h : RT w q v s) : Calls Try.prog 45 #[.pointer (some ⟨q, 0, none⟩), .int .i64 p, .int .u8 c.toNat] w fun e w' => e = .returned (.int .i64 (s.add p c).1) ∧ ∃ v', RT w' q v' (s.add p c).2 ∧ Keep [q] w w' ∧ ∀ b, v'.ownBlock = some b → v.ownBlock = some b ∨ w.heap.size ≤ b := by
  by_cases hn : s.next < 0 ∨ ¬ parOk p
  · refine (radd_no w q v s p c h hn).mono ?_
    rintro e w' ⟨rfl, n, rfl⟩
    have e1 : s.add p c = (-1, s) := by unfold LT.add; rw [if_pos hn]
    rw [e1]
    exact ⟨rfl, v, h.drewN n, (Keep.refl _ _).drewN n, fun b hb => .inl hb⟩
  · have e1 : s.add p c = (s.next, ⟨ins s.rows ⟨s.next.toNat, p.toNat, c⟩, s.next.toNat⟩) := by unfold LT.add; rw [if_neg hn]
    have hp : parOk p := by
      by_cases hp : parOk p
      · exact hp
      · exact absurd (.inr hp) hn
    obtain ⟨pn, rfl⟩ : ∃ pn : Nat, p = pn := ⟨p.toNat, by unfold parOk at hp; omega⟩
    have hadd := LT.add_ok h.2.2.1 pn c
    rw [e1] at hadd ⊢
    rcases s.next_cases h.2.2.1 with h1 | ⟨n, h1, h2, h3, _⟩
    · exact absurd (.inl (by omega)) hn
    · rw [h1, Int.toNat_natCast, Int.toNat_natCast] at hadd ⊢
      refine (radd_yes w q v s pn c n h h1 h3 hp).mono ?_
      rintro e w' ⟨rfl, v', b1, b2, b3, b4⟩
      exact ⟨rfl, v', ⟨b1, b2, hadd, by have := hadd.len; omega, fun b hb => by have := b4 b hb; have := h.1.lt; omega⟩, b3, fun b hb => .inr (b4 b hb).1⟩
end Go.Proofs.Ytkefidbokeifdaa
namespace Go.Proofs.Ytkefidbokeifdaa
set_option linter.unusedVariables false
set_option linter.unusedSimpArgs false
open Go.ChangeShapes Go.WideShapes Go.ChangeAt Go.RowKit

/-- is a code a parent of one of the first k rows -/
def isParK (rows : List Lk) (k c : Nat) : Bool := isPar (rows.take k) c
theorem isParK_succ (rows : List Lk) (k c : Nat) (hk : k < rows.length) : isParK rows (k + 1) c = (isParK rows k c || (rw' rows k).par == c) := by
  unfold isParK isPar
  rw [List.take_succ_eq_append_getElem hk, List.any_append, ← rw'_get _ _ hk]; simp
theorem isParK_all (rows : List Lk) (c : Nat) : isParK rows rows.length c = isPar rows c := by unfold isParK; rw [List.take_length]
theorem isParK_true (rows : List Lk) (k c : Nat) (h : isParK rows k c = true) : isPar rows c = true := by
  unfold isParK isPar at *
  rw [List.any_eq_true] at *
  obtain ⟨x, hx, h2⟩ := h
  exact ⟨x, List.mem_of_mem_take hx, h2⟩
/-- what is kept of the first i rows -/
def keptK (rows : List Lk) (i : Nat) : List Lk := (rows.take i).filter fun r => isPar rows r.code
theorem keptK_succ (rows : List Lk) (i : Nat) (hi : i < rows.length) : keptK rows (i + 1) = keptK rows i ++ (if isPar rows (rw' rows i).code then [rw' rows i] else []) := by
  unfold keptK
  rw [List.take_succ_eq_append_getElem hi, List.filter_append, ← rw'_get _ _ hi]
  congr 1
  simp only [List.filter_cons, List.filter_nil]
theorem keptK_all (s : LT) : keptK s.rows s.rows.length = s.clear.rows := by unfold keptK LT.clear; rw [List.take_length]
theorem keptK_len (rows : List Lk) (i : Nat) : (keptK rows i).length ≤ rows.length := by
  unfold keptK
  exact Nat.le_trans (List.length_filter_le _ _) (by rw [List.length_take]; omega)
set_option maxRecDepth 100000 in
set_option maxHeartbeats 4000000 in
theorem rclear_c (w : World) (q : Nat) (v : Value) (s : LT) (h : RT w q v s) : Calls Try.prog 57 #[.pointer (some ⟨q, 0, none⟩)] w fun e w' => e = .returned (.tuple #[]) ∧ ∃ v', RT w' q v' s.clear ∧ Keep [q] w w' ∧ ∀ b, v'.ownBlock = some b → w.heap.size ≤ b := by
  have hcok := LT.clear_ok h.2.2.1
  have hcl := hcok.len
  have hKA := keptK_all s
  have hlast : s.clear.last = 256 := rfl
  obtain ⟨hB, hG, hok, hlen, hbq⟩ := h
  have HC := Lib.hid hcok
  have HCL := Lib.hid hcl
  clear hok hcok hcl
  have HRT : Hid (∀ w' v', Blk w' q #[v', .int .i64 256] 105 → Gs ER w' v' (keptK s.rows s.rows.length) → (∀ b, v'.ownBlock = some b → b ≠ q ∧ b < w'.heap.size) → RT w' q v' s.clear) := fun w' v' h1 h2 h3 => ⟨by rw [hlast]; exact h1, by rw [← hKA]; exact h2, HC.out, by have := HCL.out; omega, h3⟩
  clear hKA hlast HC HCL
  generalize s.clear = sc at *
  generalize s.last = la at *
  generalize s.rows = rows at *
  have hqw := hB.lt
  have HG := Lib.hid hG
  have HB := Lib.hid hB
  have c0 : w.cell? ⟨q, 0, none⟩ = some v := hB.cell 0 _ rfl
  have HAT := Lib.hid (fun w' (k : Keep [] w w') i hi => (hG.keep ERg k (by simp)).lk i hi)
  obtain ⟨a, cap, rfl, hcap, hcap2⟩ := hG.sh
  clear hG hB hbq
  go_enter Try.func57, Try.ntmps57
  go_wp2_with fail
  go_loopw [2, 3] (fun ov iv wr => ∃ i : Nat, i ≤ rows.length ∧ iv = .int .i64 i ∧ Hid (OwnG ER wr ov (keptK rows i)) ∧ Hid (Keep [] w wr) ∧ Hid (∀ b, ov.ownBlock = some b → w.heap.size ≤ b)) (fun _ iv _ => rows.length - (intOf iv).toNat)
  case atStart => exact ⟨0, by omega, rfl, OwnG.nil ER _, Keep.refl _ _, fun b hb => by simp [Value.ownBlock] at hb⟩
  case round =>
    obtain ⟨i, hi, rfl, HO, HK, HN⟩ := hrel
    have c0r : wr.cell? ⟨q, 0, none⟩ = some (.slice a rows.length cap) := HK.out.cell c0 (by simp)
    by_cases hlt : i < rows.length
    · have hil : (i : Int) < rows.length := by omega
      go_wp2_with fail
      go_loopw [4, 5] (fun tv kv w2 => ∃ (k : Nat) (t : Bool), k ≤ rows.length ∧ tv = .bool t ∧ kv = .int .i64 k ∧ Hid (t = isParK rows k (rw' rows i).code) ∧ ∃ m, w2 = wr.drewN m) (fun _ kv _ => rows.length - (intOf kv).toNat)
      case atStart => exact ⟨0, false, by omega, rfl, rfl, rfl, 0, rfl⟩
      case round =>
        clear c0
        obtain ⟨k, t, hk, rfl, rfl, HT, m, rfl⟩ := hrel
        go_upto_region 6 with fail
        go_cut [25] (fun cv wx => wx = wr.drewN m ∧ cv = .bool (decide (k < rows.length) && !t))
        case first =>
          by_cases hkl : (k : Int) < rows.length
          · have dk : decide (k < rows.length) = true := by simp; omega
            cases t
            all_goals
              go_wp2_with fail
              go_meet
              exact ⟨rfl, by rw [dk]; rfl⟩
          · have dk : decide (k < rows.length) = false := by simp; omega
            go_wp2_with fail
            go_meet
            exact ⟨rfl, by rw [dk]; rfl⟩
        case rest =>
          obtain ⟨rfl, rfl⟩ := hcut
          by_cases hb : k < rows.length ∧ t = false
          · obtain ⟨hkl, rfl⟩ := hb
            have dk : (decide (k < rows.length) && !false) = true := by simp; omega
            rw [dk]
            obtain ⟨b, off, cap', hv, _, e1, _⟩ := HAT.out wr HK.out k hkl
            simp only [Value.slice.injEq] at hv
            obtain ⟨hv1, x1, rfl⟩ := hv
            clear x1
            obtain ⟨b', off', cap', hv, e0, _, e2⟩ := HAT.out wr HK.out i hlt
            simp only [Value.slice.injEq] at hv
            obtain ⟨hv2, x1, rfl⟩ := hv
            clear x1
            rw [hv1] at hv2
            simp only [Option.some.injEq, Addr.mk.injEq, and_true] at hv2
            obtain ⟨rfl, rfl⟩ := hv2
            subst hv1
            have hkz : (k : Int) < rows.length := by omega
            have hst := isParK_succ rows k (rw' rows i).code hkl
            rw [← HT.out, Bool.false_or] at hst
            obtain ⟨d, hd⟩ : ∃ d, ((rw' rows k).par == (rw' rows i).code) = d := ⟨_, rfl⟩
            have hd2 : (((rw' rows k).par : Int) == ((rw' rows i).code : Int)) = d := by rw [← hd]; cases hx : ((rw' rows k).par == (rw' rows i).code) <;> simp at hx ⊢ <;> omega
            have HD : Hid (d = isParK rows (k + 1) (rw' rows i).code) := by unfold Hid; rw [hst, hd]
            clear hst hd
            generalize (rw' rows k).par = z1 at *
            generalize hcode : (rw' rows i).code = z2 at *
            go_wp2_with fail
            go_quiet (fail)
            go_wp2_with fail
            go_roundw
            case rel => exact ⟨k + 1, d, by omega, rfl, by go_num, by rw [hcode]; exact HD, _, rfl⟩
            case measure => simp [intOf]; omega
          · have hb' : t = false → ¬ k < rows.length := fun h hk => hb ⟨hk, h⟩
            have dk : (decide (k < rows.length) && !t) = false := by
              cases t
              · have := hb' rfl; simp; omega
              · simp
            rw [dk]
            have HP : Hid (isPar rows (rw' rows i).code = t) := by
              unfold Hid
              cases t
              · have : k = rows.length := by have := hb' rfl; omega
                subst this
                rw [← isParK_all]; exact HT.out.symm
              · exact isParK_true rows k _ HT.out.symm
            clear dk hb hb'
            cases t
            · have hks := keptK_succ rows i hlt
              rw [HP.out] at hks
              have HO2 : Hid (OwnG ER (wr.drewN m) u2 (keptK rows (i + 1))) := by
                unfold Hid; rw [hks]; simpa using HO.out.keep ((Keep.refl [] wr).drewN m) (by simp)
              clear hks
              go_wp2_with fail
              go_roundw
              case rel => exact ⟨i + 1, by omega, by go_num, HO2, HK.out.drewN m, HN⟩
              case measure => simp [intOf]; omega
            · have hks := keptK_succ rows i hlt
              rw [HP.out, if_pos rfl] at hks
              obtain ⟨b, off, cap', hv, e0, e1, e2⟩ := HAT.out wr HK.out i hlt
              simp only [Value.slice.injEq] at hv
              obtain ⟨rfl, x1, rfl⟩ := hv
              clear x1
              obtain ⟨r, hr⟩ : ∃ r, rw' rows i = r := ⟨_, rfl⟩
              rw [hr] at e0 e1 e2 hks
              have kA : Keep [] wr ((wr.drewN m).alloc (.cells #[.int .i64 r.code, .int .i64 r.par, .int .u8 r.byt.toNat] 110)) := ((Keep.refl [] wr).drewN m).alloc _
              have hOA := HO.out.keep kA (by simp)
              have hlit : Gs ER ((wr.drewN m).alloc (.cells #[.int .i64 r.code, .int .i64 r.par, .int .u8 r.byt.toNat] 110)) (.slice (some ⟨wr.heap.size, 0, none⟩) 1 1) [r] := Gs.lit ERg [r] 1 (Blk.new (wr.drewN m) _ _) rfl rfl (by decide)
              have hll := keptK_len rows i
              clear hr
              go_wp2_with (at_builtin; (refine wpList_appendG ERg (.tmp 47) (.tmp 55) rfl rfl u2 _ rfl hOA (.slice (some ⟨wr.heap.size, 0, none⟩) 1 1) [r] rfl hlit (by simp; omega) ?_); (intro v5 w5 ho5 hk5 hb5))
              go_roundw
              case rel => exact ⟨i + 1, by omega, by go_num, by unfold Hid; rw [hks]; exact ho5, (HK.out.trans kA (by simp)).trans hk5 (fun x hx => .inr (HN.out x (by simpa using hx))), fun b hb => by
                rcases hb5 b hb with h | h
                · exact HN.out b h
                · rw [h]; have h1 := HK.out.size; have h2 := kA.size; omega⟩
              case measure => simp [intOf]; omega
    · obtain rfl : i = rows.length := by omega
      have ho6 := HO.out
      have hqr : q < wr.heap.size := Nat.lt_of_lt_of_le hqw HK.out.size
      have hBr := HB.out.keep HK.out (by simp)
      have f0 := hBr.free 0
      have f1 := hBr.free 1
      have c1 : wr.cell? ⟨q, 1, none⟩ = some (.int .i64 la) := hBr.cell 1 _ rfl
      obtain ⟨g5, n5, c5, rfl, hg5⟩ : ∃ g5 n5 c5, u2 = .slice g5 n5 c5 ∧ (∀ y, g5 = some y → y.block ≠ q) := by
        rcases ho6.shape with ⟨h1, _⟩ | ⟨g5, c5, h1, _⟩
        · exact ⟨none, 0, 0, h1, fun y hy => nomatch hy⟩
        · refine ⟨_, _, _, h1, fun y hy => ?_⟩
          have := HN.out g5 (by rw [h1]; rfl)
          obtain rfl : (⟨g5, 0, none⟩ : Addr) = y := by simpa using hy
          show g5 ≠ q
          omega
      have hnq : ∀ b, (Value.slice g5 n5 c5).ownBlock = some b → b ≠ q ∧ b < ((wr.setCell ⟨q, 0, none⟩ (.slice g5 n5 c5)).setCell ⟨q, 1, none⟩ (.int .i64 256)).heap.size := fun b hb => ⟨by have := HN.out b hb; omega, by have := ho6.lt b hb; simpa using this⟩
      have HB7 : Hid (Blk ((wr.setCell ⟨q, 0, none⟩ (.slice g5 n5 c5)).setCell ⟨q, 1, none⟩ (.int .i64 256)) q #[.slice g5 n5 c5, .int .i64 256] 105) := (hBr.set 0 _).set 1 _
      have K7 : Hid (Keep [q] wr ((wr.setCell ⟨q, 0, none⟩ (.slice g5 n5 c5)).setCell ⟨q, 1, none⟩ (.int .i64 256))) := ((Keep.refl [q] wr).setCell (.inl (by simp)) _).setCell (.inl (by simp)) _
      have HG7 : Hid (Gs ER ((wr.setCell ⟨q, 0, none⟩ (.slice g5 n5 c5)).setCell ⟨q, 1, none⟩ (.int .i64 256)) (.slice g5 n5 c5) (keptK rows rows.length)) := ho6.gs.keep ERg K7.out (fun b hb => by have := (hnq b hb).1; simpa using this)
      have HNQ := Lib.hid hnq
      clear hBr ho6 hg5 hnq c0
      go_wp2_with fail
      go_end0
      exact ⟨rfl, _, HRT.out _ _ HB7.out HG7.out HNQ.out, (HK.out.mono (by simp)).trans K7.out (fun x hx => .inl hx), HN.out⟩
end Go.Proofs.Ytkefidbokeifdaa
namespace Go.Proofs.Ytkefidbokeifdaa
set_option linter.unusedVariables false
set_option linter.unusedSimpArgs false
open Go.ChangeShapes Go.WideShapes Go.ChangeAt Go.RowKit

theorem txF_byte (rows : List Lk) (f : Nat) (c : Int) (out : List UInt8) (h : 0 ≤ c ∧ c < 256) : txF rows (f + 1) c out = some (UInt8.ofNat c.toNat :: out) := by rw [txF, if_pos h]
theorem txF_free (rows : List Lk) (f : Nat) (c : Int) (out : List UInt8) (h : ¬ (0 ≤ c ∧ c < 256)) (h2 : atI rows c < 0) : txF rows (f + 1) c out = none := by rw [txF, if_neg h, if_pos h2]
theorem txF_link (rows : List Lk) (f : Nat) (c : Int) (out : List UInt8) (h : ¬ (0 ≤ c ∧ c < 256)) (i : Nat) (h2 : atI rows c = i) : txF rows (f + 1) c out = txF rows f (rw' rows i).par ((rw' rows i).byt :: out) := by
  rw [txF, if_neg h, if_neg (by omega), h2, Int.toNat_natCast]
set_option maxRecDepth 100000 in
set_option maxHeartbeats 4000000 in
theorem rtext_c (w : World) (q : Nat) (v : Value) (s : LT) (c : Int) (h : RT w q v s) : Calls Try.prog 43 #[.pointer (some ⟨q, 0, none⟩), .int .i64 c] w fun e w' => ∃ v', e = .returned (.tuple #[v', .bool (s.text c).isSome]) ∧ OwnB w' v' ((s.text c).getD []) ∧ Keep [] w w' ∧ ∀ b, v'.ownBlock = some b → w.heap.size ≤ b := by
  have HX : Hid (s.text c = txF s.rows (s.rows.length + 1) c []) := rfl
  have HAT := Lib.hid (fun w' c (k : Keep [] w w') => rat_c w' q v s c (h.keep k (by simp) (by simp)))
  obtain ⟨hB, hG, hok, hlen, hbq⟩ := h
  have c0 : w.cell? ⟨q, 0, none⟩ = some v := hB.cell 0 _ rfl
  have HG := Lib.hid (fun w' (k : Keep [] w w') i hi => (hG.keep ERg k (by simp)).lk i hi)
  obtain ⟨a, cap, rfl, hcap, hcap2⟩ := hG.sh
  clear hG hB hok hbq
  generalize s.text c = ans at *
  generalize s.rows = rows at *
  go_enter Try.func43, Try.ntmps43
  go_wp2_with fail
  go_loopw [1, 6, 7] (fun cv ov nv wr => ∃ (n f : Nat) (c : Int) (out : List UInt8), n + f = rows.length + 1 ∧ out.length = n ∧ cv = .int .i64 c ∧ nv = .int .i64 n ∧ Hid (OwnB wr ov out) ∧ Hid (ans = txF rows f c out.reverse) ∧ Hid (Keep [] w wr) ∧ Hid (∀ b, ov.ownBlock = some b → w.heap.size ≤ b)) (fun _ _ nv _ => rows.length + 1 - (intOf nv).toNat)
  case atStart => exact ⟨0, rows.length + 1, c, [], by omega, rfl, rfl, rfl, OwnB.nil _, HX, Keep.refl _ _, fun b hb => by simp [Value.ownBlock] at hb⟩
  case round =>
    clear HX
    obtain ⟨n, f, c, out, hnf, rfl, rfl, rfl, HO, HX, HK, HN⟩ := hrel
    have c0r : wr.cell? ⟨q, 0, none⟩ = some (.slice a rows.length cap) := HK.out.cell c0 (by simp)
    by_cases hlt : out.length ≤ rows.length
    · obtain ⟨f', rfl⟩ : ∃ f', f = f' + 1 := ⟨f - 1, by omega⟩
      have hnl : (out.length : Int) ≤ rows.length := by omega
      by_cases hb : 0 ≤ c ∧ c < 256
      · obtain ⟨y, hy⟩ : ∃ y : UInt8, c = (y.toNat : Int) := ⟨UInt8.ofNat c.toNat, by rw [UInt8.toNat_ofNat', Nat.mod_eq_of_lt (by omega)]; omega⟩
        subst hy
        have hyl := y.toNat_lt
        have HR : Hid (ans = some (y :: out.reverse)) := by
          unfold Hid; rw [HX.out, txF_byte _ _ _ _ hb]; simp
        have hu8 : IntKind.u8.wrap (y.toNat : Int) = (y.toNat : Int) := by rw [IntKind.wrap_u8]; omega
        have hOsp := Lib.hid (fun w' (k : Keep [] wr w') j hj => (HO.out.bs.keep k (by simp)).spot j hj)
        obtain ⟨oa, oc, hov, _⟩ := HO.out.bs
        subst hov
        have hyz : (0 : Int) ≤ (y.toNat : Int) := by omega
        have hyz2 : (y.toNat : Int) < 256 := by omega
        clear hb HX
        go_wp2_with fail
        have hO1 := OwnB.lit1 wr y
        have K1 := (Keep.refl [] wr).alloc (.cells #[.int .u8 (y.toNat)] 5)
        obtain ⟨w3, hw3⟩ : ∃ x, wr.alloc (.cells #[.int .u8 (y.toNat)] 5) = x := ⟨_, rfl⟩
        rw [hw3] at hO1 K1 ⊢
        obtain ⟨g3, hg3⟩ : ∃ x, wr.heap.size = x := ⟨_, rfl⟩
        rw [hg3] at hO1 ⊢
        have HG3 := Lib.hid hg3
        clear hw3 hg3
        have hS0 : Hid (OwnB w3 (.slice (some ⟨g3, 0, none⟩) 1 1) (y :: (out.drop out.length).reverse)) := by
          rw [List.drop_of_length_le (Nat.le_refl _)]; exact hO1
        have HK1 := Lib.hid K1
        clear hO1 K1
        go_loopw [8, 9] (fun bv iv w4 => ∃ (j : Nat) (z : Int), j ≤ out.length ∧ iv = .int .i64 z ∧ Hid (z = (j : Int) - 1) ∧ Hid (OwnB w4 bv (y :: (out.drop j).reverse)) ∧ Hid (Keep [] wr w4) ∧ Hid (∀ b, bv.ownBlock = some b → g3 ≤ b)) (fun _ iv _ => (intOf iv + 1).toNat)
        case atStart => exact ⟨out.length, (out.length : Int) - 1, by omega, rfl, rfl, hS0, HK1, fun b hb => by simp [Value.ownBlock] at hb; omega⟩
        case round =>
          clear hS0 HK1
          obtain ⟨j, z, hj, rfl, HZ, HB, HK4, HN4⟩ := hrel
          by_cases hj0 : j = 0
          · subst hj0
            obtain rfl : z = -1 := HZ.out
            have hd : decide ((-1 : Int) ≥ 0) = false := by decide
            have hb0 := HB.out
            rw [List.drop_zero] at hb0
            have HB0 := Lib.hid hb0
            clear hb0
            go_wp2_with fail
            go_ret2
            rw [HR.out]
            exact ⟨_, rfl, HB0.out, HK.out.trans HK4.out (by simp), fun b hb => by have h1 := HN4.out b hb; have h2 := HK.out.size; have h3 := HG3.out; omega⟩
          · obtain ⟨j', rfl⟩ : ∃ j', j = j' + 1 := ⟨j - 1, by omega⟩
            obtain rfl : z = (j' : Int) := by have := HZ.out; omega
            clear HZ hj0
            obtain ⟨b, off, cap', hv, e0⟩ := hOsp.out _ HK4.out j' (by omega)
            simp only [Value.slice.injEq] at hv
            obtain ⟨rfl, x1, rfl⟩ := hv
            clear x1
            have hds : out.drop j' = out[j'] :: out.drop (j' + 1) := List.drop_eq_getElem_cons (by omega)
            obtain ⟨d, hd⟩ : ∃ d, out[j'] = d := ⟨_, rfl⟩
            rw [hd] at e0 hds
            have HL : Hid ((y :: (out.drop (j' + 1)).reverse) ++ [d] = y :: (out.drop j').reverse) := by unfold Hid; rw [hds]; simp
            have hjl : (j' : Int) < out.length := by omega
            clear hd hds
            have hoA := HB.out.keep ((Keep.refl [] wr).alloc (.cells #[.int .u8 (d.toNat)] 5)) (by simp)
            have hsA := Bs.new1 wr d
            have hll : (y :: (out.drop (j' + 1)).reverse).length ≤ 9000 := by simp; omega
            go_wp2_with (at_builtin; (refine wpList_appendB (.tmp 36) (.tmp 41) rfl rfl u8 _ rfl hoA _ [d] rfl hsA (by simp at hll ⊢; omega) ?_); (intro v5 w5 ho5 hk5 hb5 hz5))
            go_roundw
            case rel => exact ⟨j', (j' : Int) - 1, by omega, by go_num, rfl, by rw [← HL.out]; exact ho5, (HK4.out.alloc _).trans hk5 (fun x hx => .inr (by have h1 := HN4.out x (by simpa using hx); have h3 := HG3.out; omega)), fun b hb => by
              rcases hb5 b hb with h | h
              · exact HN4.out b h
              · have h1 := HK4.out.size; have h3 := HG3.out; simp at h; omega⟩
            case measure => simp [intOf]
      · have hb2 : (decide (c ≥ 0) && decide (c < 256)) = false := by
          rw [Bool.and_eq_false_iff, decide_eq_false_iff_not, decide_eq_false_iff_not]; omega
        have hb3 : c < 0 ∨ (¬ c < 0 ∧ ¬ c < 256) := by omega
        have HA := Lib.hid (HAT.out wr c HK.out)
        have hcase : (atI rows c < 0 ∧ ans = none) ∨ ∃ i : Nat, atI rows c = i ∧ i < rows.length ∧ ans = txF rows f' (rw' rows i).par ((rw' rows i).byt :: out.reverse) := by
          rcases atI_cases rows c with h | ⟨i, h1, h2, _⟩
          · exact .inl ⟨by omega, by rw [HX.out, txF_free _ _ _ _ hb (by omega)]⟩
          · exact .inr ⟨i, h1, h2, by rw [HX.out, txF_link _ _ _ _ hb i h1]⟩
        obtain ⟨oa, oc, hov, hrest⟩ := HO.out.bs
        subst hov
        have hcz : decide (c ≥ 0) = false ∨ (decide (c ≥ 0) = true ∧ decide (c < 256) = false) := by
          rcases hb3 with h | h
          · left; simp; omega
          · right; simp; omega
        clear hb hb2 hb3 hrest HX
        rcases hcase with ⟨hneg, hans⟩ | ⟨i, hat, hil, hans⟩
        · have HR := Lib.hid hans
          have dn : decide (atI rows c < 0) = true := by simpa using hneg
          clear hans hneg
          generalize atI rows c = z at *
          rcases hcz with h1 | ⟨h1, h2⟩
          all_goals
            go_wp2_with fail
            refine HA.out.mono ?_; rintro e w2 ⟨rfl, m, rfl⟩
            go_wp2_with fail
            go_ret2
            rw [HR.out]
            exact ⟨_, rfl, OwnB.nil _, HK.out.drewN m, fun b hb => by simp [Value.ownBlock] at hb⟩
        · have HR := Lib.hid hans
          rw [hat] at HA
          obtain ⟨b, off, cap', hv, e0, e1w, e2w⟩ := HG.out w (Keep.refl [] w) i hil
          simp only [Value.slice.injEq] at hv
          obtain ⟨rfl, x1, rfl⟩ := hv
          clear x1 hat hans
          have hilz : (i : Int) < rows.length := by omega
          obtain ⟨par, hpar⟩ : ∃ x, (rw' rows i).par = x := ⟨_, rfl⟩
          obtain ⟨d, hd⟩ : ∃ x, (rw' rows i).byt = x := ⟨_, rfl⟩
          rw [hpar, hd] at HR
          rw [hpar] at e1w
          rw [hd] at e2w
          have e2 := HK.out.cell e2w (by simp)
          have hrev : (d :: out.reverse) = (out ++ [d]).reverse := by simp
          rw [hrev] at HR
          have HE1 := Lib.hid e1w
          clear hpar hd hrev e0 e1w e2w
          rcases hcz with h1 | ⟨h1, h2⟩
          all_goals
            go_wp2_with fail
            refine HA.out.mono ?_; rintro e w2 ⟨rfl, m, rfl⟩
            have kA : Keep [] wr ((wr.drewN m).alloc (.cells #[.int .u8 (d.toNat)] 5)) := ((Keep.refl [] wr).drewN m).alloc _
            have hoA := HO.out.keep kA (by simp)
            have hsA := Bs.new1 (wr.drewN m) d
            clear HA
            go_wp2_with (at_builtin; (refine wpList_appendB (.tmp 49) (.tmp 59) rfl rfl (.slice oa out.length oc) _ rfl hoA _ [d] rfl hsA (by simp; omega) ?_); (intro v5 w5 ho5 hk5 hb5 hz5); (have KE : Keep [] w w5 := (HK.out.trans kA (by simp)).trans hk5 (fun x hx => .inr (HN.out x (by simpa using hx)))); (have c05 := KE.cell c0 (by simp)); (have e15 := KE.cell HE1.out (by simp)))
            go_roundw
            case rel => exact ⟨out.length + 1, f', par, out ++ [d], by omega, by simp, rfl, by go_num, ho5, HR, KE, fun b hb => by
              rcases hb5 b hb with h | h
              · exact HN.out b h
              · rw [h]; have h1 := HK.out.size; have h2 := kA.size; omega⟩
            case measure => simp [intOf]; omega
    · obtain rfl : f = 0 := by omega
      have HR : Hid (ans = none) := HX.out
      go_wp2_with fail
      go_ret2
      rw [HR.out]
      exact ⟨_, rfl, OwnB.nil _, HK.out, fun b hb => by simp [Value.ownBlock] at hb⟩
end Go.Proofs.Ytkefidbokeifdaa
namespace Go.Proofs.Ytkefidbokeifdaa
set_option linter.unusedVariables false
set_option linter.unusedSimpArgs false

/-- a state of reading: the reader, the table, what was told, the width, the last code (-1: none), the steps -/
structure SH where
  r : RS
  t : LT
  out : List UInt8
  w : Nat
  last : Int
  n : Nat
def SH.code (s : SH) : Nat × SH := ((s.r.bits s.w).1, { s with r := (s.r.bits s.w).2, n := s.n + 1 })
def SH.control (s : SH) : Nat × SH :=
  if s.code.2.r.err ≠ 0 then (s.code.2.r.err, s.code.2)
  else if s.code.1 = 1 ∧ s.code.2.w < 13 then (0, { s.code.2 with w := s.code.2.w + 1 })
  else if s.code.1 = 2 then (0, { s.code.2 with t := s.code.2.t.clear }) else (7, s.code.2)
def SH.tell (size : Int) (s : SH) (x : Nat) (t : List UInt8) : Nat × SH :=
  if size - s.out.length < t.length then (9, s)
  else (0, { s with out := s.out ++ t, t := if s.last < 0 then s.t else (s.t.add s.last (t.headD 0)).2, last := x })
def SH.str (s : SH) (x : Nat) : Option (List UInt8) :=
  match s.t.text x with
  | some t => some t
  | none => if s.last < 0 ∨ (x : Int) ≠ s.t.next then none else (s.t.text s.last).map fun t => t ++ [t.headD 0]
def SH.step (size : Int) (s : SH) : Nat × SH :=
  if s.code.2.r.err ≠ 0 then (s.code.2.r.err, s.code.2)
  else if s.code.1 = 256 then s.code.2.control
  else match s.code.2.str s.code.1 with
    | none => (7, s.code.2)
    | some t => s.code.2.tell size s.code.1 t
def SH.run (size : Int) : Nat → SH → Nat × SH
  | 0, s => (0, s)
  | f + 1, s => if size ≤ s.out.length then (0, s) else if (s.step size).1 ≠ 0 then s.step size else SH.run size f (s.step size).2
def SH.start (l : List UInt8) : SH := ⟨⟨l, 0, true, 0⟩, LT.new, [], 9, -1, 0⟩
/-- what bytes tell: the bytes, the steps, the error -/
def shDec (l : List UInt8) (size : Int) : List UInt8 × Nat × Nat :=
  if size < 0 then ([], 0, 2)
  else if (SH.run size (8 * l.length + 1) (SH.start l)).1 ≠ 0 then ([], 0, (SH.run size (8 * l.length + 1) (SH.start l)).1)
  else if 8 ≤ (SH.run size (8 * l.length + 1) (SH.start l)).2.r.left then ([], 0, 5)
  else ((SH.run size (8 * l.length + 1) (SH.start l)).2.out, (SH.run size (8 * l.length + 1) (SH.start l)).2.n, 0)

theorem txF_ne (rows : List Lk) (f : Nat) (c : Int) (out t : List UInt8) (h : txF rows f c out = some t) : t ≠ [] := by
  induction f generalizing c out with
  | zero => cases h
  | succ f ih =>
    rw [txF_lk] at h
    split at h
    · cases h; simp
    · split at h
      · cases h
      · exact ih _ _ h
theorem text_ne {s : LT} {c : Int} {t : List UInt8} (h : s.text c = some t) : t ≠ [] := txF_ne _ _ _ _ _ h
theorem text_len {s : LT} (hs : s.ok) {c : Int} {t : List UInt8} (h : s.text c = some t) : t.length ≤ 7936 := by
  have := txF_len _ _ _ _ _ h
  have := hs.len
  simp at *; omega
/-- a state of reading that stands -/
structure SH.ok (s : SH) (size : Int) : Prop where
  made : s.r.made = true
  err : s.r.err = 0
  rok : s.r.ok
  tok : s.t.ok
  w9 : 9 ≤ s.w
  w13 : s.w ≤ 13
  last : -1 ≤ s.last ∧ s.last < 8192
  steps : 9 * s.n ≤ s.r.pos
  size : s.out.length ≤ size
  told : s.out.length ≤ 8000 * s.n
/-- reading a code of so many bits -/
theorem bits_ok (r : RS) (n : Nat) (h1 : 1 ≤ n) (h2 : n ≤ 13) (hm : r.made = true) (he : r.err = 0) (hk : r.ok) :
    (r.bits n = (0, { r with err := 3 })) ∨ (r.bits n = (num r.l r.pos n, { r with pos := r.pos + n }) ∧ r.pos + n ≤ 8 * r.l.length ∧ num r.l r.pos n < 8192) := by
  have hE : r.E = 0 := by simp [RS.E, hm, he]
  have hl : r.left = 8 * r.l.length - r.pos := by unfold RS.left; rw [if_pos hE]
  have hp := hk.1
  unfold RS.bits
  rw [if_neg (by omega), if_neg (by simpa using hE)]
  by_cases h : (r.left : Int) < n
  · left; rw [if_pos h]; unfold RS.fail; rw [if_pos hE]
  · right
    rw [if_neg h]
    refine ⟨by simp, by omega, ?_⟩
    have := num_lt r.l r.pos n
    have h3 : 2 ^ n ≤ 2 ^ 13 := Nat.pow_le_pow_right (by decide) h2
    omega
theorem SH.ok.code_ok {s : SH} {size : Int} (h : s.ok size) : s.code.2.r.err = 3 ∨ (s.code.2.r.err = 0 ∧ s.code.1 < 8192 ∧ s.code.2.ok size ∧ s.code.2.r.pos = s.r.pos + s.w ∧ s.code.2.r.l = s.r.l ∧ s.code.2.out = s.out) := by
  rcases bits_ok s.r s.w (by have := h.w9; omega) h.w13 h.made h.err h.rok with e | ⟨e, h1, h2⟩
  · left; unfold SH.code; rw [e]
  · right
    unfold SH.code; rw [e]
    have h9 := h.w9
    have h3 := h.steps
    have h4 := h.told
    exact ⟨h.err, h2, ⟨h.made, h.err, ⟨h1, h.rok.2⟩, h.tok, h9, h.w13, h.last, by show 9 * (s.n + 1) ≤ s.r.pos + s.w; omega, h.size, by show s.out.length ≤ 8000 * (s.n + 1); omega⟩, rfl, rfl, rfl⟩
theorem SH.ok.control_ok {s : SH} {size : Int} (h : s.ok size) : s.control.1 ≠ 0 ∨ (s.control.2.ok size ∧ s.r.pos + 9 ≤ s.control.2.r.pos ∧ s.control.2.r.l = s.r.l ∧ s.control.2.out = s.out) := by
  unfold SH.control
  rcases h.code_ok with e | ⟨e, h1, h2, h3, h4, h5⟩
  · left; rw [if_pos (by omega)]; simp only [e]; decide
  · rw [if_neg (by omega)]
    have h9 := h.w9
    split
    · rename_i hw
      right
      exact ⟨⟨h2.made, h2.err, h2.rok, h2.tok, by show 9 ≤ s.code.2.w + 1; have := h2.w9; omega, by show s.code.2.w + 1 ≤ 13; omega, h2.last, h2.steps, h2.size, h2.told⟩, by show _ ≤ s.code.2.r.pos; omega, h4, h5⟩
    · split
      · right
        exact ⟨⟨h2.made, h2.err, h2.rok, LT.clear_ok h2.tok, h2.w9, h2.w13, h2.last, h2.steps, h2.size, h2.told⟩, by show _ ≤ s.code.2.r.pos; omega, h4, h5⟩
      · left; exact (by decide : (7 : Nat) ≠ 0)
theorem SH.str_some {s : SH} {size : Int} (h : s.ok size) {x : Nat} {t : List UInt8} (hx : s.str x = some t) : t ≠ [] ∧ t.length ≤ 7937 := by
  unfold SH.str at hx
  split at hx
  · rename_i t' e
    cases hx
    exact ⟨text_ne e, by have := text_len h.tok e; omega⟩
  · split at hx
    · cases hx
    · cases e : s.t.text s.last with
      | none => rw [e] at hx; cases hx
      | some t' =>
        rw [e] at hx
        simp only [Option.map_some, Option.some.injEq] at hx
        subst hx
        have := text_len h.tok e
        exact ⟨by simp, by simp; omega⟩
theorem SH.tell_ok {s : SH} {size : Int} (h : s.ok size) (x : Nat) (hx : x < 8192) (t : List UInt8) (ht : t.length ≤ 7937) (hs : s.out.length + 8000 ≤ 8000 * s.n) : (s.tell size x t).1 ≠ 0 ∨ ((s.tell size x t).2.ok size ∧ (s.tell size x t).2.r = s.r) := by
  unfold SH.tell
  split
  · left; exact (by decide : (9 : Nat) ≠ 0)
  · rename_i hn
    right
    refine ⟨⟨h.made, h.err, h.rok, ?_, h.w9, h.w13, by show -1 ≤ (x : Int) ∧ (x : Int) < 8192; omega, h.steps, ?_, ?_⟩, rfl⟩
    · show (if s.last < 0 then s.t else (s.t.add s.last (t.headD 0)).2).ok
      split
      · exact h.tok
      · exact LT.add_ok h.tok _ _
    · show ((s.out ++ t).length : Int) ≤ size
      rw [List.length_append]; omega
    · show (s.out ++ t).length ≤ 8000 * s.n
      rw [List.length_append]; omega
theorem SH.ok.step_ok {s : SH} {size : Int} (h : s.ok size) : (s.step size).1 ≠ 0 ∨ ((s.step size).2.ok size ∧ s.r.pos + 9 ≤ (s.step size).2.r.pos ∧ (s.step size).2.r.l = s.r.l) := by
  unfold SH.step
  rcases h.code_ok with e | ⟨e, h1, h2, h3, h4, h5⟩
  · left; rw [if_pos (by omega)]; simp only [e]; decide
  · rw [if_neg (by omega)]
    have h9 := h.w9
    split
    · rcases h2.control_ok with e' | ⟨a, b, c, d⟩
      · exact .inl e'
      · exact .inr ⟨a, by omega, by rw [c, h4]⟩
    · split
      · left; exact (by decide : (7 : Nat) ≠ 0)
      · rename_i t ht
        have hs := SH.str_some h2 ht
        have h6 := h.told
        rcases SH.tell_ok h2 s.code.1 h1 t hs.2 (by rw [h5]; show _ ≤ 8000 * (s.n + 1); omega) with e' | ⟨a, b⟩
        · exact .inl e'
        · exact .inr ⟨a, by rw [b]; omega, by rw [b, h4]⟩
theorem SH.run_ok {size : Int} (f : Nat) {s : SH} (h : s.ok size) (hf : 8 * s.r.l.length + 1 ≤ s.r.pos + f) : (SH.run size f s).1 ≠ 0 ∨ ((SH.run size f s).2.ok size ∧ size ≤ (SH.run size f s).2.out.length ∧ (SH.run size f s).2.r.l = s.r.l) := by
  induction f generalizing s with
  | zero => have := h.rok.1; omega
  | succ f ih =>
    rw [SH.run]
    split
    · rename_i hs; exact .inr ⟨h, hs, rfl⟩
    · split
      · rename_i hs he; exact .inl he
      · rename_i hs he
        rcases h.step_ok with e | ⟨a, b, c⟩
        · exact absurd e he
        · rcases ih a (by rw [c]; omega) with e | ⟨a2, b2, c2⟩
          · exact .inl e
          · exact .inr ⟨a2, b2, by rw [c2, c]⟩
theorem SH.start_ok (l : List UInt8) (size : Int) (hs : 0 ≤ size) (hl : l.length ≤ 140737488355328) : (SH.start l).ok size :=
  ⟨rfl, rfl, ⟨Nat.zero_le _, hl, by show 0 < 100; omega⟩, LT.new_ok, by show 9 ≤ 9; omega, by show 9 ≤ 13; omega, by show (-1 : Int) ≤ -1 ∧ (-1 : Int) < 8192; omega, by show 9 * 0 ≤ 0; omega, by simpa [SH.start] using hs, by show 0 ≤ 8000 * 0; omega⟩
/-- what is told has its size; each step reads nine bits at least; an error tells nothing -/
theorem shDec_ok (l : List UInt8) (size : Int) (hl : l.length ≤ 140737488355328) : ((shDec l size).2.2 = 0 ∧ ((shDec l size).1.length : Int) = size ∧ 9 * (shDec l size).2.1 ≤ 8 * l.length ∧ (shDec l size).1.length ≤ 8000 * (shDec l size).2.1) ∨ ((shDec l size).2.2 ≠ 0 ∧ (shDec l size).1 = [] ∧ (shDec l size).2.1 = 0) := by
  unfold shDec
  split
  · right; exact ⟨by decide, rfl, rfl⟩
  · rename_i h0
    rcases SH.run_ok (size := size) (8 * l.length + 1) (SH.start_ok l size (by omega) hl) (by show 8 * l.length + 1 ≤ 0 + _; omega) with e | ⟨a, b, c⟩
    · rw [if_pos e]; right; exact ⟨e, rfl, rfl⟩
    · split
      · rename_i e; right; exact ⟨e, rfl, rfl⟩
      · split
        · right; exact ⟨by decide, rfl, rfl⟩
        · left
          have h1 := a.size
          have h2 := a.steps
          have h3 := a.rok.1
          rw [c] at h3
          exact ⟨rfl, by show ((SH.run size (8 * l.length + 1) (SH.start l)).2.out.length : Int) = size; omega, by show 9 * (SH.run size (8 * l.length + 1) (SH.start l)).2.n ≤ _; change _ ≤ 8 * l.length at h3; omega, a.told⟩
end Go.Proofs.Ytkefidbokeifdaa
namespace Go.Proofs.Ytkefidbokeifdaa
set_option linter.unusedVariables false
set_option linter.unusedSimpArgs false

/-- the bytes of bits, filled up with noughts -/
def ofBits (bs : List Bool) : List UInt8 := (List.range ((bs.length + 7) / 8)).map fun j => UInt8.ofNat (nv bs (8 * j) 8)
theorem ofBits_take (bs : List Bool) (j : Nat) (h : 8 * j ≤ bs.length + 7) : toBits ((List.range j).map fun j => UInt8.ofNat (nv bs (8 * j) 8)) = (pad8 bs).take (8 * j) := by
  induction j with
  | zero => rfl
  | succ j ih =>
    rw [List.range_succ, List.map_append, toBits_append, ih (by omega), pad8_seg bs j (by omega)]
    congr 1
    exact toBits_one _ (nv_lt bs (8 * j) 8)
theorem toBits_ofBits (bs : List Bool) : toBits (ofBits bs) = pad8 bs := by
  unfold ofBits
  rw [ofBits_take bs _ (by omega), List.take_of_length_le (by rw [pad8_length]; omega)]
/-- a state of writing: the table, the width, the last code, the bits, codes since the table was cleared, how often it was -/
structure EH where
  t : LT
  w : Nat
  last : Int
  bs : List Bool
  k : Nat
  clr : Nat
def EH.ctl (s : EH) (x : Nat) : EH := { s with bs := (s.bs ++ bitsOf 256 s.w) ++ bitsOf x s.w }
def EH.clear (s : EH) : EH := { s.ctl 2 with t := s.t.clear, k := 0, clr := s.clr + 1 }
def EH.wider (s : EH) : EH := { s.ctl 1 with w := s.w + 1 }
def EH.grow (c : Nat) : Nat → EH → EH
  | 0, s => s
  | f + 1, s => if 2 ^ s.w ≤ c then EH.grow c f s.wider else s
def EH.code (s : EH) (c : Nat) : EH := { s with bs := s.bs ++ bitsOf c s.w, k := s.k + 1 }
def EH.put (s : EH) (c : Nat) : EH := (EH.grow c 4 s).code c
def EH.pass (s : EH) (c : Nat) (b : UInt8) : EH := { s with t := (s.t.add s.last b).2, last := c }
def aheadT (t : LT) (last : Int) : Option (List UInt8) := if t.next = -1 then none else (t.text last).map fun x => x ++ [x.headD 0]
/-- the longest string among those given out: its code, its length -/
def kn (t : LT) : List UInt8 → Nat → Nat → Nat × Nat
  | [], c, n => (c, n)
  | b :: r, c, n => if t.child c b < 0 then (c, n) else kn t r (t.child c b).toNat (n + 1)
def EH.known (s : EH) (b : List UInt8) : Nat × Nat := kn s.t b.tail (b.headD 0).toNat 1
def EH.mat (s : EH) (b : List UInt8) : Nat × Nat :=
  match aheadT s.t s.last with
  | none => s.known b
  | some x => if (s.known b).2 < x.length ∧ x <+: b then (s.t.next.toNat, x.length) else s.known b
def EH.front (s : EH) : EH := if s.t.next = -1 ∧ 32 ≤ s.k then s.clear else s
def EH.step (s : EH) (b : List UInt8) : EH := (s.front.put (s.front.mat b).1).pass (s.front.mat b).1 (b.headD 0)
def EH.run : Nat → EH → List UInt8 → EH
  | 0, s, _ => s
  | f + 1, s, b => if b = [] then s else EH.run f (s.step b) (b.drop (s.front.mat b).2)
def EH.start : EH := ⟨LT.new, 9, -1, [], 0, 0⟩
def ehAll (l : List UInt8) : EH := EH.run l.length EH.start l
/-- what Encode answers, and how often the table is cleared in it -/
def shEnc (l : List UInt8) : List UInt8 := ofBits (ehAll l).bs
def shClr (l : List UInt8) : Nat := (ehAll l).clr

theorem text_neg {s : LT} (hs : s.ok) {c : Int} (h : c < 0) : s.text c = none := by
  unfold LT.text
  rw [txF_lk, if_neg (by omega), (lk_none _ hs.srt c).2 (fun r hr => by omega)]
theorem text_big {s : LT} (hs : s.ok) {c : Int} {t : List UInt8} (h : s.text c = some t) : 0 ≤ c ∧ c < 8192 ∧ c ≠ 256 := by
  unfold LT.text at h
  rw [txF_lk] at h
  by_cases hb : 0 ≤ c ∧ c < 256
  · omega
  · rw [if_neg hb] at h
    cases hlk : lk s.rows c with
    | none => rw [hlk] at h; cases h
    | some r => obtain ⟨h2, h3⟩ := (lk_iff _ hs.srt c r).1 hlk; have := hs.all r h2; omega
theorem text_byte (s : LT) (c : UInt8) : s.text (c.toNat : Nat) = some [c] := by
  unfold LT.text
  have := c.toNat_lt
  rw [txF_lk, if_pos (by omega)]
  simp
theorem child_spec {s : LT} (hs : s.ok) {p : Nat} {b : UInt8} {u : List UInt8} (hu : s.text (p : Nat) = some u) (h : ¬ s.child (p : Nat) b < 0) : ∃ c : Nat, s.child (p : Nat) b = c ∧ s.text (c : Nat) = some (u ++ [b]) := by
  unfold LT.child at h ⊢
  cases hf : s.rows.find? fun r => decide ((r.par : Int) = (p : Nat) ∧ r.byt = b) with
  | none => rw [hf] at h; simp at h
  | some r =>
    have hm := List.mem_of_find?_eq_some hf
    have hp := List.find?_some hf
    simp only [decide_eq_true_eq] at hp
    have hpp : r.par = p := by omega
    have hal := hs.all r hm
    refine ⟨r.code, rfl, ?_⟩
    have hl := (lk_iff s.rows hs.srt (r.code : Nat) r).2 ⟨hm, rfl⟩
    unfold LT.text at hu ⊢
    rw [← txF_enough hs.srt (s.rows.length + 1 + 1) _ (by omega), txF_lk, if_neg (by omega), hl]
    dsimp only
    rw [txF_acc, hpp, hu, hp.2]
    rfl
theorem kn_spec {t : LT} (ht : t.ok) (r : List UInt8) (c n : Nat) (u : List UInt8) (hu : t.text (c : Nat) = some u) : ∃ v, t.text ((kn t r c n).1 : Nat) = some (u ++ v) ∧ v <+: r ∧ (kn t r c n).2 = n + v.length := by
  induction r generalizing c n u with
  | nil => exact ⟨[], by simpa [kn] using hu, List.prefix_refl _, rfl⟩
  | cons b r ih =>
    rw [kn]
    split
    · exact ⟨[], by simpa using hu, List.nil_prefix, rfl⟩
    · rename_i h
      obtain ⟨c', e, h2⟩ := child_spec ht hu h
      rw [e, Int.toNat_natCast]
      obtain ⟨v, h3, h4, h5⟩ := ih c' (n + 1) _ h2
      refine ⟨b :: v, by rw [h3, List.append_assoc]; rfl, ?_, by rw [h5, List.length_cons]; omega⟩
      obtain ⟨z, hz⟩ := h4
      exact ⟨z, by rw [List.cons_append, hz]⟩
theorem kn_le (t : LT) (r : List UInt8) (c n : Nat) : n ≤ (kn t r c n).2 ∧ (kn t r c n).2 ≤ n + r.length := by
  induction r generalizing c n with
  | nil => simp [kn]
  | cons b r ih =>
    rw [kn]
    split
    · simp
    · have := ih (t.child c b).toNat (n + 1); simp only [List.length_cons]; omega
theorem aheadT_spec {t : LT} (ht : t.ok) {last : Int} {x : List UInt8} (h : aheadT t last = some x) : (∃ n : Nat, t.next = n ∧ 257 ≤ n ∧ n < 8192 ∧ t.text (n : Nat) = none) ∧ 0 ≤ last ∧ ∃ u, t.text last = some u ∧ x = u ++ [u.headD 0] := by
  unfold aheadT at h
  split at h
  · cases h
  · rename_i hn
    cases hu : t.text last with
    | none => rw [hu] at h; cases h
    | some u =>
      rw [hu] at h
      simp only [Option.map_some, Option.some.injEq] at h
      have hb := text_big ht hu
      rcases t.next_cases ht with h1 | ⟨n, h1, h2, h3, h4, _⟩
      · exact absurd h1 hn
      · have := ht.last
        refine ⟨⟨n, h1, by omega, h3, ?_⟩, hb.1, u, rfl, h.symm⟩
        unfold LT.text
        rw [txF_lk, if_neg (by omega), (lk_at _ _).2 h4]
/-- what is written is a beginning of what is left, of one byte at least; the reader knows its string -/
theorem mat_spec {s : EH} (ht : s.t.ok) {b : List UInt8} (hb : b ≠ []) : (s.mat b).1 < 8192 ∧ (s.mat b).1 ≠ 256 ∧ 1 ≤ (s.mat b).2 ∧ (s.mat b).2 ≤ b.length ∧
    ∀ d : SH, d.t = s.t → d.last = s.last → d.str (s.mat b).1 = some (b.take (s.mat b).2) := by
  obtain ⟨b0, r, rfl⟩ : ∃ b0 r, b = b0 :: r := by cases b with | nil => exact absurd rfl hb | cons b0 r => exact ⟨b0, r, rfl⟩
  have hk : (s.known (b0 :: r)).1 < 8192 ∧ (s.known (b0 :: r)).1 ≠ 256 ∧ 1 ≤ (s.known (b0 :: r)).2 ∧ (s.known (b0 :: r)).2 ≤ (b0 :: r).length ∧ s.t.text ((s.known (b0 :: r)).1 : Nat) = some ((b0 :: r).take (s.known (b0 :: r)).2) := by
    obtain ⟨v, h1, h2, h3⟩ := kn_spec ht r b0.toNat 1 [b0] (text_byte s.t b0)
    have e : s.known (b0 :: r) = kn s.t r b0.toNat 1 := rfl
    rw [e]
    have hb := text_big ht h1
    have hl := h2.length_le
    refine ⟨by omega, by omega, by omega, by rw [h3, List.length_cons]; omega, ?_⟩
    rw [h1, h3]
    obtain ⟨z, rfl⟩ := h2
    rw [show 1 + v.length = v.length + 1 by omega, List.take_succ_cons, List.take_left' rfl]
    rfl
  have hkn : ∀ d : SH, d.t = s.t → d.last = s.last → d.str (s.known (b0 :: r)).1 = some ((b0 :: r).take (s.known (b0 :: r)).2) := by
    intro d h1 h2
    unfold SH.str
    rw [h1, hk.2.2.2.2]
  unfold EH.mat
  split
  · exact ⟨hk.1, hk.2.1, hk.2.2.1, hk.2.2.2.1, hkn⟩
  · rename_i x hx
    split
    · rename_i hc
      obtain ⟨⟨n, e1, e2, e3, e4⟩, e5, u, e6, e7⟩ := aheadT_spec ht hx
      rw [e1, Int.toNat_natCast]
      have hl := hc.2.length_le
      refine ⟨e3, by show n ≠ 256; omega, by show 1 ≤ x.length; omega, hl, fun d h1 h2 => ?_⟩
      unfold SH.str
      dsimp only
      rw [h1, h2, e4]
      dsimp only
      rw [if_neg (by omega), e6]
      obtain ⟨z, hz⟩ := hc.2
      rw [← hz, List.take_left' rfl, e7]
      rfl
    · exact ⟨hk.1, hk.2.1, hk.2.2.1, hk.2.2.2.1, hkn⟩
end Go.Proofs.Ytkefidbokeifdaa
namespace Go.Proofs.Ytkefidbokeifdaa
set_option linter.unusedVariables false
set_option linter.unusedSimpArgs false

theorem bits_at (L : List UInt8) (pre post : List Bool) (x n : Nat) (h : toBits L = (pre ++ bitsOf x n) ++ post) (hn : n ≤ 32) (hx : x < 2 ^ n) : (⟨L, pre.length, true, 0⟩ : RS).bits n = (x, ⟨L, (pre ++ bitsOf x n).length, true, 0⟩) := by
  have hl := congrArg List.length h
  simp only [toBits_length, List.length_append, bitsOf_length] at hl
  have hE : (⟨L, pre.length, true, 0⟩ : RS).E = 0 := rfl
  unfold RS.bits
  rw [if_neg (by omega), if_neg (by simpa using hE), if_neg (by unfold RS.left; rw [if_pos hE]; dsimp only; omega)]
  rw [Int.toNat_natCast]
  dsimp only
  rw [num_seg L pre post x n h, Nat.mod_eq_of_lt hx, List.length_append, bitsOf_length]
/-- the reader's state fits the writer's -/
structure Mt (L : List UInt8) (d : SH) (s : EH) : Prop where
  r : d.r = ⟨L, s.bs.length, true, 0⟩
  t : d.t = s.t
  w : d.w = s.w
  last : d.last = s.last
  n1 : d.n ≤ d.out.length + 2 * s.clr + 2 * (s.w - 9)
  n2 : 2 * s.clr ≤ d.n
/-- a state of writing behind m bytes -/
structure EHok (s : EH) (m : Nat) : Prop where
  tok : s.t.ok
  w9 : 9 ≤ s.w
  w13 : s.w ≤ 13
  last : -1 ≤ s.last ∧ s.last < 8192
  cost : s.bs.length ≤ 13 * m + 26 * s.clr + 26 * (s.w - 9)
  clrs : 32 * s.clr + s.k ≤ m
theorem pow_w {w : Nat} (h : 9 ≤ w) : 256 < 2 ^ w := Nat.lt_of_lt_of_le (by decide : 256 < 2 ^ 9) (Nat.pow_le_pow_right (by decide) h)
theorem Mt.code {L : List UInt8} {d : SH} {s : EH} (h : Mt L d s) {x : Nat} {post : List Bool} (hb : toBits L = (s.bs ++ bitsOf x s.w) ++ post) (hw : s.w ≤ 13) (hx : x < 2 ^ s.w) : d.code = (x, { d with r := ⟨L, (s.bs ++ bitsOf x s.w).length, true, 0⟩, n := d.n + 1 }) := by
  unfold SH.code
  rw [h.r, h.w, bits_at L s.bs post x s.w hb (by omega) hx]
/-- a control code is read as it was written -/
theorem Mt.ctl {L : List UInt8} {d : SH} {s : EH} {m : Nat} (size : Int) (h : Mt L d s) (ho : EHok s m) {x : Nat} {post : List Bool} (hx : x < 256) (hb : toBits L = ((s.bs ++ bitsOf 256 s.w) ++ bitsOf x s.w) ++ post) :
    d.step size = (if x = 1 ∧ d.w < 13 then (0, { d with r := ⟨L, (s.ctl x).bs.length, true, 0⟩, n := d.n + 2, w := d.w + 1 })
      else if x = 2 then (0, { d with r := ⟨L, (s.ctl x).bs.length, true, 0⟩, n := d.n + 2, t := d.t.clear }) else (7, { d with r := ⟨L, (s.ctl x).bs.length, true, 0⟩, n := d.n + 2 })) := by
  have hp := pow_w ho.w9
  have e1 := h.code (x := 256) (post := bitsOf x s.w ++ post) (by rw [hb]; simp) ho.w13 hp
  unfold SH.step
  rw [e1]
  dsimp only
  rw [if_neg (by simp), if_pos rfl]
  have e2 : ({ d with r := ⟨L, (s.bs ++ bitsOf 256 s.w).length, true, 0⟩, n := d.n + 1 } : SH).code = (x, { d with r := ⟨L, (s.ctl x).bs.length, true, 0⟩, n := d.n + 2 }) := by
    unfold SH.code
    dsimp only
    rw [h.w, bits_at L (s.bs ++ bitsOf 256 s.w) post x s.w hb (by have := ho.w13; omega) (by omega)]
    rfl
  unfold SH.control
  rw [e2]
  dsimp only
  rw [if_neg (by simp)]
theorem EHok.clear {s : EH} {m : Nat} (h : EHok s m) (hk : 32 ≤ s.k) : EHok s.clear m := by
  refine ⟨LT.clear_ok h.tok, h.w9, h.w13, h.last, ?_, ?_⟩
  · have := h.cost
    have h1 := h.w13
    show ((s.bs ++ bitsOf 256 s.w) ++ bitsOf 2 s.w).length ≤ 13 * m + 26 * (s.clr + 1) + 26 * (s.w - 9)
    simp only [List.length_append, bitsOf_length]
    omega
  · have := h.clrs
    show 32 * (s.clr + 1) + 0 ≤ m
    omega
theorem EHok.wider {s : EH} {m : Nat} (h : EHok s m) (hw : s.w < 13) : EHok s.wider m := by
  refine ⟨h.tok, by show 9 ≤ s.w + 1; have := h.w9; omega, by show s.w + 1 ≤ 13; omega, h.last, ?_, h.clrs⟩
  have := h.cost
  have h1 := h.w9
  show ((s.bs ++ bitsOf 256 s.w) ++ bitsOf 1 s.w).length ≤ 13 * m + 26 * s.clr + 26 * (s.w + 1 - 9)
  simp only [List.length_append, bitsOf_length]
  omega
theorem EH.grow_more (c f : Nat) (s : EH) : ∃ z, (EH.grow c f s).bs = s.bs ++ z := by
  induction f generalizing s with
  | zero => exact ⟨[], by simp [EH.grow]⟩
  | succ f ih =>
    rw [EH.grow]
    split
    · obtain ⟨z, hz⟩ := ih s.wider
      exact ⟨bitsOf 256 s.w ++ bitsOf 1 s.w ++ z, by rw [hz]; show ((s.bs ++ _) ++ _) ++ z = _; simp⟩
    · exact ⟨[], by simp⟩
/-- the reader goes from d to d' in N steps -/
def Reach (size : Int) (d d' : SH) (N : Nat) : Prop := ∀ g, SH.run size (N + g) d = SH.run size g d'
theorem Reach.refl (size : Int) (d : SH) : Reach size d d 0 := fun g => by rw [Nat.zero_add]
theorem Reach.trans {size : Int} {a b c : SH} {N M : Nat} (h : Reach size a b N) (k : Reach size b c M) : Reach size a c (N + M) := fun g => by rw [Nat.add_assoc, h, k]
theorem Reach.one {size : Int} {a b : SH} (ho : ¬ size ≤ a.out.length) (h : a.step size = (0, b)) : Reach size a b 1 := fun g => by
  rw [Nat.add_comm, SH.run, if_neg ho, h, if_neg (by simp)]
theorem front_reach {L : List UInt8} {d : SH} {s : EH} {m : Nat} {size : Int} {post : List Bool} (h : Mt L d s) (ho : EHok s m) (hs : ¬ size ≤ d.out.length) (hb : toBits L = s.front.bs ++ post) :
    ∃ N d', Reach size d d' N ∧ Mt L d' s.front ∧ EHok s.front m ∧ d'.out = d.out ∧ s.bs.length + 9 * N ≤ s.front.bs.length := by
  unfold EH.front at hb ⊢
  by_cases hc : s.t.next = -1 ∧ 32 ≤ s.k
  · rw [if_pos hc] at hb ⊢
    have e := h.ctl size ho (x := 2) (by decide) hb
    rw [if_neg (by omega), if_pos rfl] at e
    refine ⟨1, _, Reach.one hs e, ⟨rfl, ?_, h.w, h.last, ?_, ?_⟩, ho.clear hc.2, rfl, ?_⟩
    · show d.t.clear = s.t.clear; rw [h.t]
    · have := h.n1; show d.n + 2 ≤ d.out.length + 2 * (s.clr + 1) + 2 * (s.w - 9); omega
    · have := h.n2; show 2 * (s.clr + 1) ≤ d.n + 2; omega
    · show _ ≤ ((s.bs ++ bitsOf 256 s.w) ++ bitsOf 2 s.w).length
      have := ho.w9
      simp only [List.length_append, bitsOf_length]; omega
  · rw [if_neg hc] at hb ⊢
    exact ⟨0, d, Reach.refl _ _, h, ho, rfl, by omega⟩
theorem grow_reach {L : List UInt8} {size : Int} {c : Nat} (hc : c < 8192) (f : Nat) {d : SH} {s : EH} {m : Nat} {post : List Bool} (h : Mt L d s) (ho : EHok s m) (hs : ¬ size ≤ d.out.length) (hb : toBits L = (EH.grow c f s).bs ++ post) (hf : 13 ≤ s.w + f) :
    ∃ N d', Reach size d d' N ∧ Mt L d' (EH.grow c f s) ∧ EHok (EH.grow c f s) m ∧ d'.out = d.out ∧ s.bs.length + 9 * N ≤ (EH.grow c f s).bs.length ∧ c < 2 ^ (EH.grow c f s).w ∧ (EH.grow c f s).t = s.t ∧ (EH.grow c f s).last = s.last := by
  have h13 : ∀ w, 13 ≤ w → c < 2 ^ w := fun w hw => Nat.lt_of_lt_of_le hc (show 2 ^ 13 ≤ 2 ^ w from Nat.pow_le_pow_right (by decide) hw)
  induction f generalizing d s with
  | zero => exact ⟨0, d, Reach.refl _ _, h, ho, rfl, by simp [EH.grow], h13 _ (by simpa [EH.grow] using hf), rfl, rfl⟩
  | succ f ih =>
    rw [EH.grow] at hb ⊢
    by_cases hg : 2 ^ s.w ≤ c
    · rw [if_pos hg] at hb ⊢
      have hw : s.w < 13 := by
        rcases Nat.lt_or_ge s.w 13 with h1 | h1
        · exact h1
        · have := h13 _ h1; omega
      obtain ⟨z, hz⟩ := EH.grow_more c f s.wider
      have e := h.ctl size ho (x := 1) (post := z ++ post) (by decide) (by rw [hb, hz]; show ((((s.bs ++ _) ++ _)) ++ z) ++ post = _; simp)
      rw [if_pos ⟨rfl, by rw [h.w]; exact hw⟩] at e
      have w9 := ho.w9
      obtain ⟨N, d', r1, r2, r3, r4, r5, r6, r7, r8⟩ := ih (d := { d with r := ⟨L, (s.ctl 1).bs.length, true, 0⟩, n := d.n + 2, w := d.w + 1 }) (s := s.wider)
        ⟨rfl, h.t, by show d.w + 1 = s.w + 1; rw [h.w], h.last, by have := h.n1; show d.n + 2 ≤ d.out.length + 2 * s.clr + 2 * (s.w + 1 - 9); omega, by have := h.n2; show 2 * s.clr ≤ d.n + 2; omega⟩
        (ho.wider hw) hs hb (by show 13 ≤ s.w + 1 + f; omega)
      refine ⟨1 + N, d', (Reach.one hs e).trans r1, r2, r3, r4, ?_, r6, r7, r8⟩
      have e2 : s.wider.bs.length = s.bs.length + s.w + s.w := by
        show ((s.bs ++ bitsOf 256 s.w) ++ bitsOf 1 s.w).length = _
        simp only [List.length_append, bitsOf_length]
      omega
    · rw [if_neg hg] at hb ⊢
      exact ⟨0, d, Reach.refl _ _, h, ho, rfl, by omega, by omega, rfl, rfl⟩
theorem EHok.tell {s : EH} {m k : Nat} (h : EHok s m) {c : Nat} (hc : c < 8192) (b : UInt8) (hk : 1 ≤ k) : EHok ((s.code c).pass c b) (m + k) := by
  refine ⟨LT.add_ok h.tok _ _, h.w9, h.w13, by show -1 ≤ (c : Int) ∧ (c : Int) < 8192; omega, ?_, ?_⟩
  · have := h.cost
    have := h.w13
    show (s.bs ++ bitsOf c s.w).length ≤ 13 * (m + k) + 26 * s.clr + 26 * (s.w - 9)
    simp only [List.length_append, bitsOf_length]; omega
  · have := h.clrs
    show 32 * s.clr + (s.k + 1) ≤ m + k
    omega
theorem add_neg (t : LT) {p : Int} (h : p < 0) (b : UInt8) : (t.add p b).2 = t := by
  unfold LT.add parOk
  rw [if_pos (by omega)]
theorem tell_reach {L : List UInt8} {size : Int} {c : Nat} (hc : c < 8192) (h256 : c ≠ 256) {d : SH} {s : EH} {m : Nat} {post : List Bool} {x : List UInt8} (h : Mt L d s) (ho : EHok s m) (hs : (d.out.length : Int) + x.length ≤ size) (hx : x ≠ []) (hb : toBits L = (s.code c).bs ++ post) (hw : c < 2 ^ s.w)
    (hstr : ∀ d : SH, d.t = s.t → d.last = s.last → d.str c = some x) : ∃ d', Reach size d d' 1 ∧ Mt L d' ((s.code c).pass c (x.headD 0)) ∧ d'.out = d.out ++ x := by
  have hxl : 0 < x.length := List.length_pos_iff.2 hx
  have e1 := h.code (x := c) (post := post) hb ho.w13 hw
  refine ⟨{ d with r := ⟨L, (s.code c).bs.length, true, 0⟩, n := d.n + 1, out := d.out ++ x, t := if d.last < 0 then d.t else (d.t.add d.last (x.headD 0)).2, last := c }, Reach.one (by omega) ?_, ?_, rfl⟩
  · unfold SH.step
    rw [e1]
    dsimp only
    have e3 := hstr { d with r := ⟨L, (s.bs ++ bitsOf c s.w).length, true, 0⟩, n := d.n + 1 } h.t h.last
    rw [if_neg (by simp), if_neg h256, e3]
    dsimp only
    unfold SH.tell
    dsimp only
    rw [if_neg (by omega)]
    rfl
  · refine ⟨rfl, ?_, h.w, rfl, ?_, ?_⟩
    · show (if d.last < 0 then d.t else (d.t.add d.last (x.headD 0)).2) = (s.t.add s.last (x.headD 0)).2
      rw [h.t, h.last]
      split
      · rename_i hn; rw [add_neg _ hn]
      · rfl
    · have := h.n1
      show d.n + 1 ≤ (d.out ++ x).length + 2 * s.clr + 2 * (s.w - 9)
      rw [List.length_append]; omega
    · have := h.n2
      show 2 * s.clr ≤ d.n + 1
      omega
theorem EH.front_more (s : EH) : ∃ z, s.front.bs = s.bs ++ z := by
  unfold EH.front
  split
  · exact ⟨bitsOf 256 s.w ++ bitsOf 2 s.w, by show (s.bs ++ _) ++ _ = _; simp⟩
  · exact ⟨[], by simp⟩
theorem EH.step_more (s : EH) (b : List UInt8) : ∃ z, (s.step b).bs = s.bs ++ z := by
  obtain ⟨z1, h1⟩ := s.front_more
  obtain ⟨z2, h2⟩ := EH.grow_more (s.front.mat b).1 4 s.front
  refine ⟨z1 ++ z2 ++ bitsOf (s.front.mat b).1 (EH.grow (s.front.mat b).1 4 s.front).w, ?_⟩
  show (EH.grow (s.front.mat b).1 4 s.front).bs ++ _ = _
  rw [h2, h1]; simp
theorem EH.run_more (f : Nat) (s : EH) (b : List UInt8) : ∃ z, (EH.run f s b).bs = s.bs ++ z := by
  induction f generalizing s b with
  | zero => exact ⟨[], by simp [EH.run]⟩
  | succ f ih =>
    rw [EH.run]
    split
    · exact ⟨[], by simp⟩
    · obtain ⟨z1, h1⟩ := s.step_more b
      obtain ⟨z2, h2⟩ := ih (s.step b) (b.drop (s.front.mat b).2)
      exact ⟨z1 ++ z2, by rw [h2, h1]; simp⟩
/-- one step of the writer, read again -/
theorem step_reach {L : List UInt8} {d : SH} {s : EH} {m : Nat} {size : Int} {post : List Bool} {b : List UInt8} (hbn : b ≠ []) (h : Mt L d s) (ho : EHok s m) (hs : (d.out.length : Int) + b.length = size) (hb : toBits L = (s.step b).bs ++ post) :
    ∃ N d', Reach size d d' N ∧ Mt L d' (s.step b) ∧ EHok (s.step b) (m + (s.front.mat b).2) ∧ d'.out = d.out ++ b.take (s.front.mat b).2 ∧ s.bs.length + 9 * N ≤ (s.step b).bs.length := by
  have hbl : 0 < b.length := List.length_pos_iff.2 hbn
  obtain ⟨z2, hz2⟩ := EH.grow_more (s.front.mat b).1 4 s.front
  have hsb : (s.step b).bs = (EH.grow (s.front.mat b).1 4 s.front).bs ++ bitsOf (s.front.mat b).1 (EH.grow (s.front.mat b).1 4 s.front).w := rfl
  obtain ⟨N1, d1, r1, m1, o1, u1, l1⟩ := front_reach (size := size) (post := z2 ++ (bitsOf (s.front.mat b).1 (EH.grow (s.front.mat b).1 4 s.front).w ++ post)) h ho (by omega) (by rw [hb, hsb, hz2]; simp)
  obtain ⟨q1, q2, q3, q4, q5⟩ := mat_spec o1.tok hbn
  have hw9 := o1.w9
  obtain ⟨N2, d2, r2, m2, o2, u2, l2, c2, t2, a2⟩ := grow_reach (size := size) q1 4 (post := bitsOf (s.front.mat b).1 (EH.grow (s.front.mat b).1 4 s.front).w ++ post) m1 o1 (by rw [u1]; omega) (by rw [hb, hsb]; simp) (by omega)
  have hxl : (b.take (s.front.mat b).2).length = (s.front.mat b).2 := by rw [List.length_take]; omega
  have hhd : (b.take (s.front.mat b).2).headD 0 = b.headD 0 := by
    obtain ⟨j, hj⟩ : ∃ j, (s.front.mat b).2 = j + 1 := ⟨(s.front.mat b).2 - 1, by omega⟩
    rw [hj]
    cases b with
    | nil => exact absurd rfl hbn
    | cons b0 r => rfl
  obtain ⟨d3, r3, m3, u3⟩ := tell_reach (size := size) q1 q2 (x := b.take (s.front.mat b).2) (post := post) m2 o2 (by rw [u2, u1, hxl]; omega) (by intro e; rw [e] at hxl; simp at hxl; omega) (by rw [hb]; rfl) c2 (fun d h1 h2 => q5 d (by rw [h1, t2]) (by rw [h2, a2]))
  rw [hhd] at m3
  refine ⟨N1 + N2 + 1, d3, (r1.trans r2).trans r3, m3, ?_, by rw [u3, u2, u1], ?_⟩
  · exact o2.tell q1 _ q3
  · rw [hsb, List.length_append, bitsOf_length]
    have := o2.w9
    omega
theorem run_reach {L : List UInt8} {size : Int} (f : Nat) {d : SH} {s : EH} {m : Nat} {post : List Bool} {b : List UInt8} (hf : b.length ≤ f) (h : Mt L d s) (ho : EHok s m) (hs : (d.out.length : Int) + b.length = size) (hb : toBits L = (EH.run f s b).bs ++ post) :
    ∃ N d', Reach size d d' N ∧ Mt L d' (EH.run f s b) ∧ EHok (EH.run f s b) (m + b.length) ∧ d'.out = d.out ++ b ∧ s.bs.length + 9 * N ≤ (EH.run f s b).bs.length := by
  induction f generalizing d s m b with
  | zero =>
    obtain rfl : b = [] := List.eq_nil_of_length_eq_zero (by omega)
    exact ⟨0, d, Reach.refl _ _, h, ho, by simp, by simp [EH.run]⟩
  | succ f ih =>
    rw [EH.run] at hb ⊢
    by_cases hbn : b = []
    · subst hbn
      rw [if_pos rfl] at hb ⊢
      exact ⟨0, d, Reach.refl _ _, h, ho, by simp, by omega⟩
    · rw [if_neg hbn] at hb ⊢
      obtain ⟨z, hz⟩ := EH.run_more f (s.step b) (b.drop (s.front.mat b).2)
      obtain ⟨N1, d1, r1, m1, o1, u1, l1⟩ := step_reach (post := z ++ post) hbn h ho hs (by rw [hb, hz]; simp)
      have htok : s.front.t.ok := by
        unfold EH.front
        split
        · exact LT.clear_ok ho.tok
        · exact ho.tok
      obtain ⟨_, _, q3, q4, _⟩ := mat_spec htok hbn
      have hdl : (b.drop (s.front.mat b).2).length = b.length - (s.front.mat b).2 := by rw [List.length_drop]
      obtain ⟨N2, d2, r2, m2, o2, u2, l2⟩ := ih (b := b.drop (s.front.mat b).2) (by omega) m1 o1 (by rw [u1, List.length_append, List.length_take, hdl]; omega) hb
      refine ⟨N1 + N2, d2, r1.trans r2, m2, ?_, ?_, by omega⟩
      · rw [hdl] at o2
        rwa [show m + (s.front.mat b).2 + (b.length - (s.front.mat b).2) = m + b.length by omega] at o2
      · rw [u2, u1, List.append_assoc, List.take_append_drop]
/-- what is encoded is decoded as it was -/
theorem shEnc_ok (l : List UInt8) (hl : l.length ≤ 10000000) : ∃ n, shDec (shEnc l) l.length = (l, n, 0) ∧ n ≤ 2 * l.length + 10 + 2 * shClr l ∧ (shEnc l).length ≤ 2 * l.length + 16 ∧ shClr l ≤ n := by
  have hT : toBits (shEnc l) = pad8 (ehAll l).bs := toBits_ofBits _
  have hLn : 8 * (shEnc l).length = ((ehAll l).bs.length + 7) / 8 * 8 := by rw [← toBits_length, hT, pad8_length]
  obtain ⟨N, d', r1, m1, o1, u1, l1⟩ := run_reach (L := shEnc l) (size := l.length) l.length (d := SH.start (shEnc l)) (s := EH.start) (m := 0) (b := l) (post := List.replicate ((8 - (ehAll l).bs.length % 8) % 8) false) (Nat.le_refl _)
    ⟨rfl, rfl, rfl, rfl, by simp [SH.start, EH.start], by simp [SH.start, EH.start]⟩
    ⟨LT.new_ok, by simp [EH.start], by simp [EH.start], by simp [EH.start], by simp [EH.start], by simp [EH.start]⟩ (by simp [SH.start]) hT
  change Mt _ d' (ehAll l) at m1
  change EHok (ehAll l) _ at o1
  change EH.start.bs.length + 9 * N ≤ (ehAll l).bs.length at l1
  rw [show EH.start.bs.length = 0 from rfl] at l1
  have hout : d'.out = l := by rw [u1]; rfl
  have hn1 := m1.n1
  have hn2 := m1.n2
  have hw := o1.w13
  have hco := o1.cost
  have hcl := o1.clrs
  rw [hout] at hn1
  have hrun : SH.run l.length (8 * (shEnc l).length + 1) (SH.start (shEnc l)) = (0, d') := by
    rw [show 8 * (shEnc l).length + 1 = N + (8 * (shEnc l).length - N + 1) by omega, r1, SH.run, if_pos (by rw [hout]; omega)]
  have hleft : d'.r.left < 8 := by
    rw [m1.r]
    unfold RS.left
    split
    · dsimp only; omega
    · omega
  refine ⟨d'.n, ?_, ?_, ?_, ?_⟩
  · unfold shDec
    rw [if_neg (by omega), hrun]
    dsimp only
    rw [if_neg (by simp), if_neg (by omega), hout]
  · show _ ≤ 2 * l.length + 10 + 2 * (ehAll l).clr; omega
  · omega
  · show (ehAll l).clr ≤ d'.n; omega
end Go.Proofs.Ytkefidbokeifdaa
namespace Go.Proofs.Ytkefidbokeifdaa
set_option linter.unusedVariables false
set_option linter.unusedSimpArgs false
set_option maxRecDepth 100000
open Go.ChangeShapes Go.WideShapes Go.ChangeAt Go.RowKit

/-- whose blocks are whose -/
structure SDis (q qr qt : Nat) (vb vo vt : Value) (l : List UInt8) : Prop where
  a : q ≠ qr ∧ q ≠ qt ∧ qr ≠ qt
  o : ∀ b, vo.ownBlock = some b → b ≠ q ∧ b ≠ qr ∧ b ≠ qt ∧ vt.ownBlock ≠ some b
  t : ∀ b, vt.ownBlock = some b → b ≠ q ∧ b ≠ qr ∧ b ≠ qt
  b : l ≠ [] → ∀ b, vb.ownBlock = some b → b ≠ q ∧ b ≠ qr ∧ b ≠ qt ∧ vo.ownBlock ≠ some b
/-- block q is the document's state s: its reader at qr (the bytes in vb), its table at qt (rows in vt), what was told in vo -/
def Sx (w : World) (q qr qt : Nat) (vb vo vt : Value) (size : Int) (s : SH) : Prop :=
  Blk w q #[.pointer (some ⟨qr, 0, none⟩), .pointer (some ⟨qt, 0, none⟩), vo, .int .i64 size, .int .i64 s.w, .int .i64 s.last, .int .i64 s.n] 64 ∧ Rr w qr vb s.r ∧ RT w qt vt s.t ∧ OwnB w vo s.out ∧ SDis q qr qt vb vo vt s.r.l
theorem Sx.keep {w w' : World} {q qr qt : Nat} {vb vo vt : Value} {size : Int} {s : SH} (h : Sx w q qr qt vb vo vt size s) (k : Keep [] w w') : Sx w' q qr qt vb vo vt size s :=
  ⟨h.1.keep k (by simp), h.2.1.keep k (by simp) (by simp), h.2.2.1.keep k (by simp) (by simp), h.2.2.2.1.keep k (by simp), h.2.2.2.2⟩
theorem Sx.drewN {w : World} {q qr qt : Nat} {vb vo vt : Value} {size : Int} {s : SH} (h : Sx w q qr qt vb vo vt size s) (n : Nat) : Sx (w.drewN n) q qr qt vb vo vt size s := h.keep ((Keep.refl [] w).drewN n)
theorem RS.bits_l (r : RS) (n : Int) : (r.bits n).2.l = r.l ∧ (r.bits n).2.made = r.made := by
  unfold RS.bits RS.fail
  repeat' split
  all_goals exact ⟨rfl, rfl⟩
theorem scode_c (w : World) (q qr qt : Nat) (vb vo vt : Value) (size : Int) (s : SH) (h : Sx w q qr qt vb vo vt size s) (hk : s.ok size) (hn : s.n ≤ 2000000000000) :
    Calls Try.prog 41 #[.pointer (some ⟨q, 0, none⟩)] w fun e w' => e = .returned (.tuple #[.int .i64 s.code.1, .int .i64 s.code.2.r.err]) ∧ Sx w' q qr qt vb vo vt size s.code.2 ∧ Keep [q, qr] w w' := by
  have c0 := h.1.cell 0 _ rfl
  have c4 := h.1.cell 4 _ rfl
  have hx : (s.r.bits s.w).1 < 8192 := by
    rcases bits_ok s.r s.w (by have := hk.w9; omega) hk.w13 hk.made hk.err hk.rok with e | ⟨e, h1, h2⟩
    · rw [e]; exact (by decide : 0 < 8192)
    · rw [e]; exact h2
  have hxw : IntKind.i64.wrap (((s.r.bits s.w).1 : Nat) : Int) = ((s.r.bits s.w).1 : Nat) := by rw [IntKind.wrap_i64]; omega
  have hnw : IntKind.i64.wrap ((s.n : Int) + 1) = (s.n : Int) + 1 := by rw [IntKind.wrap_i64]; omega
  have HL := RS.bits_l s.r s.w
  clear hx
  unfold SH.code
  obtain ⟨x, hx⟩ : ∃ x, (s.r.bits s.w).1 = x := ⟨_, rfl⟩
  obtain ⟨r2, hr2⟩ : ∃ r2, (s.r.bits s.w).2 = r2 := ⟨_, rfl⟩
  rw [hx] at hxw
  rw [hr2] at HL
  have HX := Lib.hid hx; have HR2 := Lib.hid hr2; have HHL := Lib.hid HL
  clear hx hr2 HL
  rw [HX.out, HR2.out]
  go_enter Try.func41, Try.ntmps41
  go_upto_region 1 with fail
  go_still_tail 8, (by kernel_rfl)
  have K2 : Keep [] w w.drew := (Keep.refl [] w).drew
  have h2 := h.keep K2
  change wpList _ _ _ _ _ w.drew
  generalize w.drew = w2 at h2 K2 ⊢
  go_wp2_with fail
  refine (rbits_c _ qr vb s.r s.w h2.2.1).mono ?_
  rintro e w3 ⟨rfl, hr3, k3⟩
  rw [HX.out]
  rw [HR2.out] at hr3
  have hd := h2.2.2.2.2
  have hB := h2.1.keep k3 (by have := hd.a.1; simpa using this)
  have hT := h2.2.2.1.keep k3 (by have := hd.a.2.2; simpa using Ne.symm this) (fun _ b hb => by have := (hd.t b hb).2.1; simpa using this)
  have hO := h2.2.2.2.1.keep k3 (fun b hb => by have := (hd.o b hb).2.1; simpa using this)
  clear c0 c4
  have c0 := hB.cell 0 _ rfl
  have c6 := hB.cell 6 _ rfl
  have f6 := hB.free 6
  have hB2 := hB.set 6 (.int .i64 ((s.n : Int) + 1))
  have d0 := hB2.cell 0 _ rfl
  have KC : Keep [q] w3 (w3.setCell ⟨q, 6, none⟩ (.int .i64 ((s.n : Int) + 1))) := (Keep.refl [q] w3).setCell (by simp) _
  have hr4 := hr3.keep KC (by have := hd.a.1; simpa using Ne.symm this) (fun hl b hb => by rw [HHL.out.1] at hl; have := (hd.b hl b hb).1; simpa using this)
  have e2 := hr4.1.cell 2 _ rfl
  have HS : Sx (w3.setCell ⟨q, 6, none⟩ (.int .i64 ((s.n : Int) + 1))) q qr qt vb vo vt size { s with r := r2, n := s.n + 1 } :=
    ⟨by simpa using hB2, hr4, hT.keep KC (by have := hd.a.2.1; simpa using Ne.symm this) (fun _ b hb => by have := (hd.t b hb).1; simpa using this), hO.keep KC (fun b hb => by have := (hd.o b hb).1; simpa using this), ⟨hd.a, hd.o, hd.t, fun hl => hd.b (by rw [HHL.out.1] at hl; exact hl)⟩⟩
  have KK : Keep [q, qr] w (w3.setCell ⟨q, 6, none⟩ (.int .i64 ((s.n : Int) + 1))) := ((K2.nil (S := [q, qr])).trans k3 (by simp)).setCell (by simp) _
  have HHS := Lib.hid HS
  go_wp2_with fail
  go_quiet (fail)
  go_wp2
  go_ret2
  exact ⟨rfl, HHS.out.drewN _, KK.drewN _⟩
/-- what a step leaves behind -/
def SxTo (w w' : World) (q qr qt : Nat) (vb vo vt : Value) (size : Int) (s' : SH) : Prop :=
  ∃ vo' vt', Sx w' q qr qt vb vo' vt' size s' ∧ Keep (q :: qr :: qt :: vo.ownBlock.toList) w w' ∧ (∀ b, vo'.ownBlock = some b → vo.ownBlock = some b ∨ w.heap.size ≤ b) ∧ (∀ b, vt'.ownBlock = some b → vt.ownBlock = some b ∨ w.heap.size ≤ b)
theorem Sx.lts {w : World} {q qr qt : Nat} {vb vo vt : Value} {size : Int} {s : SH} (h : Sx w q qr qt vb vo vt size s) : q < w.heap.size ∧ qr < w.heap.size ∧ qt < w.heap.size ∧ (∀ b, vo.ownBlock = some b → b < w.heap.size) ∧ (∀ b, vt.ownBlock = some b → b < w.heap.size) ∧ (s.r.l ≠ [] → ∀ b, vb.ownBlock = some b → b < w.heap.size) :=
  ⟨h.1.lt, h.2.1.1.lt, h.2.2.1.1.lt, h.2.2.2.1.lt, fun b hb => (h.2.2.1.2.2.2.2 b hb).2, fun hl => h.2.1.2.1.lt hl⟩
theorem scontrol_c (w : World) (q qr qt : Nat) (vb vo vt : Value) (size : Int) (s : SH) (h : Sx w q qr qt vb vo vt size s) (hk : s.ok size) (hn : s.n ≤ 2000000000000) :
    Calls Try.prog 42 #[.pointer (some ⟨q, 0, none⟩)] w fun e w' => e = .returned (.int .i64 s.control.1) ∧ (s.control.1 = 0 → SxTo w w' q qr qt vb vo vt size s.control.2) ∧ Keep (q :: qr :: qt :: vo.ownBlock.toList) w w' := by
  have HC := Lib.hid (scode_c w q qr qt vb vo vt size s h hk hn)
  unfold SH.control
  obtain ⟨x, hx⟩ : ∃ x, s.code.1 = x := ⟨_, rfl⟩
  obtain ⟨s2, hs2⟩ : ∃ s2, s.code.2 = s2 := ⟨_, rfl⟩
  rw [hx, hs2] at HC ⊢
  have hok := hk.code_ok
  rw [hx, hs2] at hok
  clear hx hs2
  have HOK := Lib.hid hok; clear hok
  by_cases he : s2.r.err ≠ 0
  · rw [if_pos he]
    have t1 : ((s2.r.err : Int) != 0) = true := by simp; omega
    have HE := Lib.hid he; clear he
    go_enter Try.func42, Try.ntmps42
    go_wp2_with fail
    refine HC.out.mono ?_; rintro e w3 ⟨rfl, h3, k3⟩
    go_wp2_with fail
    go_ret
    exact ⟨rfl, fun h => absurd h HE.out, k3.mono (by simp)⟩
  · rw [if_neg he]
    have he0 : s2.r.err = 0 := by omega
    have t1 : ((s2.r.err : Int) != 0) = false := by simp; omega
    have HE := Lib.hid he0; clear he he0
    by_cases h1 : x = 1
    · have t2 : ((x : Int) == 1) = true := by simp; omega
      by_cases h2 : s2.w < 13
      · rw [if_pos ⟨h1, h2⟩]
        have t3 : decide (s2.w < 13) = true := by simpa using h2
        have t4 : decide ((s2.w : Int) < 13) = true := by simp; omega
        have hw : IntKind.i64.wrap ((s2.w : Int) + 1) = (s2.w : Int) + 1 := by rw [IntKind.wrap_i64]; omega
        clear h1 h2
        go_enter Try.func42, Try.ntmps42
        go_wp2_with fail
        refine HC.out.mono ?_; rintro e w3 ⟨rfl, h3, k3⟩
        have c4 := h3.1.cell 4 _ rfl
        have f4 := h3.1.free 4
        go_wp2_with fail
        go_ret
        have hd := h3.2.2.2.2
        have KC : Keep [q] w3 (w3.setCell ⟨q, 4, none⟩ (.int .i64 ((s2.w : Int) + 1))) := (Keep.refl [q] w3).setCell (by simp) _
        have KK : Keep (q :: qr :: qt :: vo.ownBlock.toList) w (w3.setCell ⟨q, 4, none⟩ (.int .i64 ((s2.w : Int) + 1))) := (k3.mono (by simp)).setCell (by simp) _
        refine ⟨rfl, fun _ => ⟨vo, vt, ⟨by simpa using h3.1.set 4 (.int .i64 ((s2.w : Int) + 1)), h3.2.1.keep KC (by have := hd.a.1; simpa using Ne.symm this) (fun hl b hb => by have := (hd.b hl b hb).1; simpa using this), h3.2.2.1.keep KC (by have := hd.a.2.1; simpa using Ne.symm this) (fun _ b hb => by have := (hd.t b hb).1; simpa using this), h3.2.2.2.1.keep KC (fun b hb => by have := (hd.o b hb).1; simpa using this), hd⟩, KK, fun b hb => .inl hb, fun b hb => .inl hb⟩, KK⟩
      · rw [if_neg (by omega), if_neg (by omega)]
        have t3 : decide (s2.w < 13) = false := by simpa using h2
        have t4 : decide ((s2.w : Int) < 13) = false := by simp; omega
        have t5 : ((x : Int) == 2) = false := by simp; omega
        clear h1 h2
        go_enter Try.func42, Try.ntmps42
        go_wp2_with fail
        refine HC.out.mono ?_; rintro e w3 ⟨rfl, h3, k3⟩
        have c4 := h3.1.cell 4 _ rfl
        go_wp2_with fail
        go_ret
        exact ⟨rfl, fun h => absurd h (by decide), k3.mono (by simp)⟩
    · rw [if_neg (by omega)]
      have t2 : ((x : Int) == 1) = false := by simp; omega
      by_cases h2 : x = 2
      · rw [if_pos h2]
        have t3 : ((x : Int) == 2) = true := by simp; omega
        clear h1 h2
        go_enter Try.func42, Try.ntmps42
        go_wp2_with fail
        refine HC.out.mono ?_; rintro e w3 ⟨rfl, h3, k3⟩
        have c1 := h3.1.cell 1 _ rfl
        go_wp2_with fail
        refine (rclear_c _ qt vt s2.t h3.2.2.1).mono ?_
        rintro e w4 ⟨rfl, vt4, h4, k4, b4⟩
        go_wp2_with fail
        go_ret
        have hd := h3.2.2.2.2
        have hl := h3.lts
        have KK : Keep (q :: qr :: qt :: vo.ownBlock.toList) w w4 := (k3.mono (by simp)).trans k4 (by simp)
        refine ⟨rfl, fun _ => ⟨vo, vt4, ⟨h3.1.keep k4 (by have := hd.a.2.1; simpa using this), h3.2.1.keep k4 (by have := hd.a.2.2; simpa using this) (fun hl b hb => by have := (hd.b hl b hb).2.2.1; simpa using this), h4, h3.2.2.2.1.keep k4 (fun b hb => by have := (hd.o b hb).2.2.1; simpa using this), ⟨hd.a, fun b hb => ⟨(hd.o b hb).1, (hd.o b hb).2.1, (hd.o b hb).2.2.1, fun h => ?_⟩, fun b hb => ?_, hd.b⟩⟩, KK, fun b hb => .inl hb, fun b hb => .inr (Nat.le_trans k3.size (b4 b hb))⟩, KK⟩
        · have := b4 b h; have := hl.2.2.2.1 b hb; omega
        · have := b4 b hb; have := hl.1; have := hl.2.1; have := hl.2.2.1; exact ⟨by omega, by omega, by omega⟩
      · rw [if_neg h2]
        have t3 : ((x : Int) == 2) = false := by simp; omega
        clear h1 h2
        go_enter Try.func42, Try.ntmps42
        go_wp2_with fail
        refine HC.out.mono ?_; rintro e w3 ⟨rfl, h3, k3⟩
        go_wp2_with fail
        go_ret
        exact ⟨rfl, fun h => absurd h (by decide), k3.mono (by simp)⟩
end Go.Proofs.Ytkefidbokeifdaa
namespace Go.Proofs.Ytkefidbokeifdaa
set_option linter.unusedVariables false
set_option linter.unusedSimpArgs false
set_option maxRecDepth 100000
open Go.ChangeShapes Go.WideShapes Go.ChangeAt Go.RowKit

theorem Sx.told {w w1 : World} {q qr qt : Nat} {vb vo vt v1 : Value} {size : Int} {s : SH} {l1 : List UInt8} (h : Sx w q qr qt vb vo vt size s) (k : Keep vo.ownBlock.toList w w1) (ho : OwnB w1 v1 l1) (hb : ∀ b, v1.ownBlock = some b → vo.ownBlock = some b ∨ w.heap.size ≤ b) :
    Sx (w1.setCell ⟨q, 2, none⟩ v1) q qr qt vb v1 vt size { s with out := l1 } ∧ Keep (q :: vo.ownBlock.toList) w (w1.setCell ⟨q, 2, none⟩ v1) := by
  have hd := h.2.2.2.2
  have hl := h.lts
  have hN : ∀ z, z < w.heap.size → (∀ b, vo.ownBlock = some b → b ≠ z) → ∀ b, v1.ownBlock = some b → b ≠ z := by
    intro z hz h1 b hb' e
    rcases hb b hb' with h' | h'
    · exact h1 b h' e
    · omega
  have hq : q ∉ vo.ownBlock.toList := fun hm => (hd.o q (by simpa using hm)).1 rfl
  have hqr : qr ∉ vo.ownBlock.toList := fun hm => (hd.o qr (by simpa using hm)).2.1 rfl
  have hqt : qt ∉ vo.ownBlock.toList := fun hm => (hd.o qt (by simpa using hm)).2.2.1 rfl
  have B := h.1.keep k hq
  have R := h.2.1.keep k hqr (fun hl' b hb' hm => (hd.b hl' b hb').2.2.2 (by simpa using hm))
  have T := h.2.2.1.keep k hqt (fun _ b hb' hm => (hd.o b (by simpa using hm)).2.2.2 hb')
  have KC : Keep [q] w1 (w1.setCell ⟨q, 2, none⟩ v1) := (Keep.refl [q] w1).setCell (by simp) _
  have n1 := hN q hl.1 (fun b hb' => (hd.o b hb').1)
  have n2 := hN qr hl.2.1 (fun b hb' => (hd.o b hb').2.1)
  have n3 := hN qt hl.2.2.1 (fun b hb' => (hd.o b hb').2.2.1)
  refine ⟨⟨by simpa using B.set 2 v1, R.keep KC (by have := hd.a.1; simpa using Ne.symm this) (fun hl' b hb' => by have := (hd.b hl' b hb').1; simpa using this), T.keep KC (by have := hd.a.2.1; simpa using Ne.symm this) (fun _ b hb' => by have := (hd.t b hb').1; simpa using this), ho.keep KC (fun b hb' => by have := n1 b hb'; simpa using this), ⟨hd.a, fun b hb' => ⟨n1 b hb', n2 b hb', n3 b hb', fun e => ?_⟩, hd.t, fun hl' b hb' => ⟨(hd.b hl' b hb').1, (hd.b hl' b hb').2.1, (hd.b hl' b hb').2.2.1, fun e => ?_⟩⟩⟩, ?_⟩
  · exact hN b (hl.2.2.2.2.1 b e) (fun c hc ec => (hd.o c hc).2.2.2 (by rw [e, ec])) b hb' rfl
  · exact hN b (hl.2.2.2.2.2 hl' b hb') (fun c hc ec => (hd.b hl' b hb').2.2.2 (by rw [hc, ec])) b e rfl
  · exact (k.mono (fun z hz => List.mem_cons_of_mem _ hz)).setCell (by simp) _
theorem Sx.setLast {w : World} {q qr qt : Nat} {vb vo vt : Value} {size : Int} {s : SH} (h : Sx w q qr qt vb vo vt size s) (x : Int) :
    Sx (w.setCell ⟨q, 5, none⟩ (.int .i64 x)) q qr qt vb vo vt size { s with last := x } ∧ Keep [q] w (w.setCell ⟨q, 5, none⟩ (.int .i64 x)) := by
  have hd := h.2.2.2.2
  have KC : Keep [q] w (w.setCell ⟨q, 5, none⟩ (.int .i64 x)) := (Keep.refl [q] w).setCell (by simp) _
  exact ⟨⟨by simpa using h.1.set 5 (.int .i64 x), h.2.1.keep KC (by have := hd.a.1; simpa using Ne.symm this) (fun hl' b hb' => by have := (hd.b hl' b hb').1; simpa using this), h.2.2.1.keep KC (by have := hd.a.2.1; simpa using Ne.symm this) (fun _ b hb' => by have := (hd.t b hb').1; simpa using this), h.2.2.2.1.keep KC (fun b hb' => by have := (hd.o b hb').1; simpa using this), hd⟩, KC⟩
theorem Sx.tab {w w1 : World} {q qr qt : Nat} {vb vo vt vt1 : Value} {size : Int} {s : SH} {t1 : LT} (h : Sx w q qr qt vb vo vt size s) (k : Keep [qt] w w1) (ht : RT w1 qt vt1 t1) (hb : ∀ b, vt1.ownBlock = some b → vt.ownBlock = some b ∨ w.heap.size ≤ b) :
    Sx w1 q qr qt vb vo vt1 size { s with t := t1 } := by
  have hd := h.2.2.2.2
  have hl := h.lts
  refine ⟨h.1.keep k (by have := hd.a.2.1; simpa using this), h.2.1.keep k (by have := hd.a.2.2; simpa using this) (fun hl' b hb' => by have := (hd.b hl' b hb').2.2.1; simpa using this), ht, h.2.2.2.1.keep k (fun b hb' => by have := (hd.o b hb').2.2.1; simpa using this), ⟨hd.a, fun b hb' => ⟨(hd.o b hb').1, (hd.o b hb').2.1, (hd.o b hb').2.2.1, fun e => ?_⟩, fun b hb' => ?_, hd.b⟩⟩
  · rcases hb b e with h' | h'
    · exact (hd.o b hb').2.2.2 h'
    · have := hl.2.2.2.1 b hb'; omega
  · rcases hb b hb' with h' | h'
    · exact hd.t b h'
    · exact ⟨by have := hl.1; omega, by have := hl.2.1; omega, by have := hl.2.2.1; omega⟩
set_option maxHeartbeats 2000000 in
theorem sstep_c (w : World) (q qr qt : Nat) (vb vo vt : Value) (size : Int) (s : SH) (h : Sx w q qr qt vb vo vt size s) (hk : s.ok size) (hn : s.n ≤ 1000000000000) (hz : size ≤ 9223372036854775807) (hl : s.out.length ≤ 140737488340000) :
    Calls Try.prog 27 #[.pointer (some ⟨q, 0, none⟩)] w fun e w' => e = .returned (.int .i64 (s.step size).1) ∧ ((s.step size).1 = 0 → SxTo w w' q qr qt vb vo vt size (s.step size).2) ∧ Keep (q :: qr :: qt :: vo.ownBlock.toList) w w' := by
  have HC := Lib.hid (scode_c w q qr qt vb vo vt size s h hk (by omega))
  unfold SH.step
  have hok := hk.code_ok
  obtain ⟨x, hx⟩ : ∃ x, s.code.1 = x := ⟨_, rfl⟩
  have hn2 : s.code.2.n = s.n + 1 := rfl
  obtain ⟨s2, hs2⟩ : ∃ s2, s.code.2 = s2 := ⟨_, rfl⟩
  rw [hx, hs2] at HC ⊢
  rw [hx, hs2] at hok
  rw [hs2] at hn2
  clear hx hs2
  have HOK := Lib.hid hok; clear hok
  have HN2 := Lib.hid hn2; clear hn2
  by_cases he : s2.r.err ≠ 0
  · rw [if_pos he]
    have t1 : ((s2.r.err : Int) != 0) = true := by simp; omega
    have HE := Lib.hid he; clear he
    go_enter Try.func27, Try.ntmps27
    go_wp2_with fail
    refine HC.out.mono ?_; rintro e w3 ⟨rfl, h3, k3⟩
    go_wp2_with fail
    go_ret
    exact ⟨rfl, fun h => absurd h HE.out, k3.mono (by simp)⟩
  rw [if_neg he]
  have he0 : s2.r.err = 0 := by omega
  obtain ⟨-, hx8, hok2, -, -, hout⟩ : s2.r.err = 0 ∧ x < 8192 ∧ s2.ok size ∧ s2.r.pos = s.r.pos + s.w ∧ s2.r.l = s.r.l ∧ s2.out = s.out := by
    rcases HOK.out with e | e
    · omega
    · exact e
  have t1 : ((s2.r.err : Int) != 0) = false := by simp; omega
  have HE := Lib.hid he0; clear he he0 HOK
  have HOK := Lib.hid hok2; clear hok2
  have HX8 := Lib.hid hx8; clear hx8
  have HOUT := Lib.hid hout; clear hout
  by_cases h1 : x = 256
  · rw [if_pos h1]
    have t2 : ((x : Int) == 256) = true := by simp; omega
    clear h1
    go_enter Try.func27, Try.ntmps27
    go_wp2_with fail
    refine HC.out.mono ?_; rintro e w3 ⟨rfl, h3, k3⟩
    go_wp2_with fail
    refine (scontrol_c w3 q qr qt vb vo vt size s2 h3 HOK.out (by have := HN2.out; omega)).mono ?_; rintro e w4 ⟨rfl, h4, k4⟩
    go_wp2_with fail
    go_ret
    refine ⟨rfl, fun h => ?_, (k3.mono (by simp)).trans k4 (fun z hz => .inl hz)⟩
    obtain ⟨vo', vt', a, b, c, d⟩ := h4 h
    exact ⟨vo', vt', a, (k3.mono (by simp)).trans k4 (fun z hz => .inl hz), fun b hb => (c b hb).imp id fun e => Nat.le_trans k3.size e, fun b hb => (d b hb).imp id fun e => Nat.le_trans k3.size e⟩
  rw [if_neg h1]
  have t2 : ((x : Int) == 256) = false := by simp; omega
  clear h1
  obtain ⟨bk, hbk⟩ : ∃ b, (s2.t.text x).isSome = b := ⟨_, rfl⟩
  have HBK := Lib.hid hbk; clear hbk
  by_cases hbad : s2.str x = none
  · have HBAD := Lib.hid hbad
    rw [hbad]
    clear hbad
    have htx : s2.t.text x = none := by
      cases e : s2.t.text x with
      | none => rfl
      | some t => have := HBAD.out; unfold SH.str at this; rw [e] at this; cases this
    have hbk0 : bk = false := by have := HBK.out; rw [htx] at this; exact this.symm
    subst hbk0
    have hst := HBAD.out
    unfold SH.str at hst
    rw [htx] at hst
    clear htx
    have HST := Lib.hid hst; clear hst
    by_cases hl0 : s2.last < 0
    · have t3 : decide (s2.last < 0) = true := by simpa using hl0
      clear hl0
      go_enter Try.func27, Try.ntmps27
      go_wp2_with fail
      refine HC.out.mono ?_; rintro e w3 ⟨rfl, h3, k3⟩
      have c1 := h3.1.cell 1 _ rfl
      go_wp2_with fail
      refine (rtext_c w3 qt vt s2.t x h3.2.2.1).mono ?_; rintro e w4 ⟨v4, rfl, ho4, k4, b4⟩
      rw [HBK.out]
      have h4 := h3.keep k4
      have d1 := h4.1.cell 1 _ rfl
      have d5 := h4.1.cell 5 _ rfl
      have hlt3 := h3.lts
      go_wp2_with fail
      go_ret
      exact ⟨rfl, fun h => absurd h (by decide), (k3.mono (by simp)).trans k4 (by simp)⟩
    have t3 : decide (s2.last < 0) = false := by simpa using hl0
    by_cases hnx : (x : Int) ≠ s2.t.next
    · have t4 : ((x : Int) != s2.t.next) = true := by simpa using hnx
      clear hl0 hnx
      go_enter Try.func27, Try.ntmps27
      go_wp2_with fail
      refine HC.out.mono ?_; rintro e w3 ⟨rfl, h3, k3⟩
      have c1 := h3.1.cell 1 _ rfl
      go_wp2_with fail
      refine (rtext_c w3 qt vt s2.t x h3.2.2.1).mono ?_; rintro e w4 ⟨v4, rfl, ho4, k4, b4⟩
      rw [HBK.out]
      have h4 := h3.keep k4
      have d1 := h4.1.cell 1 _ rfl
      have d5 := h4.1.cell 5 _ rfl
      have hlt3 := h3.lts
      go_wp2_with fail
      refine (rnext_c w4 qt vt s2.t h4.2.2.1).mono ?_; rintro e w5 ⟨rfl, n5, rfl⟩
      go_wp2_with fail
      go_ret
      exact ⟨rfl, fun h => absurd h (by decide), (k3.mono (by simp)).trans (k4.drewN _) (by simp)⟩
    have t4 : ((x : Int) != s2.t.next) = false := by simp; omega
    have hu : (s2.t.text s2.last).isSome = false := by
      have h := HST.out
      rw [if_neg (by omega)] at h
      cases e : s2.t.text s2.last with
      | none => rfl
      | some u => rw [e] at h; cases h
    have HU := Lib.hid hu
    clear hl0 hnx hu
    go_enter Try.func27, Try.ntmps27
    go_wp2_with fail
    refine HC.out.mono ?_; rintro e w3 ⟨rfl, h3, k3⟩
    have c1 := h3.1.cell 1 _ rfl
    go_wp2_with fail
    refine (rtext_c w3 qt vt s2.t x h3.2.2.1).mono ?_; rintro e w4 ⟨v4, rfl, ho4, k4, b4⟩
    rw [HBK.out]
    have h4 := h3.keep k4
    have d1 := h4.1.cell 1 _ rfl
    have d5 := h4.1.cell 5 _ rfl
    have hlt3 := h3.lts
    go_wp2_with fail
    refine (rnext_c w4 qt vt s2.t h4.2.2.1).mono ?_; rintro e w5 ⟨rfl, n5, rfl⟩
    have h5 := h4.drewN n5
    have k5 : Keep [] w3 (w4.drewN n5) := k4.drewN n5
    generalize w4.drewN n5 = w5 at h5 k5 ⊢
    have h6 := h5.keep ((Keep.refl [] w5).drew)
    have i1 := h5.1.cell 1 _ rfl
    have i5 := h5.1.cell 5 _ rfl
    go_upto_region 10 with fail
    go_region_with (first | (go_at_call 43; (refine (rtext_c w5.drew qt vt s2.t s2.last h6.2.2.1).mono ?_); (rintro e w7 ⟨v7, rfl, ho7, k7, b7⟩); (rw [HU.out])))
    all_goals
      go_wp2_with fail
      go_ret
      exact ⟨rfl, fun h => absurd h (by decide), (k3.mono (by simp)).trans (by first | exact (k5.drew.trans k7 (by simp)) | exact (k5.drew.trans k7 (by simp)).drew) (by simp)⟩
  obtain ⟨t, ht⟩ := Option.ne_none_iff_exists'.1 hbad
  rw [ht]
  have HT := Lib.hid ht; clear ht hbad
  obtain ⟨R, hR⟩ : ∃ R, s2.tell size x t = R := ⟨_, rfl⟩
  show Calls _ _ _ _ fun e w' => e = .returned (.int .i64 (s2.tell size x t).1) ∧ ((s2.tell size x t).1 = 0 → SxTo w w' q qr qt vb vo vt size (s2.tell size x t).2) ∧ Keep (q :: qr :: qt :: vo.ownBlock.toList) w w'
  rw [hR]
  have HR := Lib.hid hR; clear hR
  go_enter Try.func27, Try.ntmps27
  go_wp2_with fail
  refine HC.out.mono ?_; rintro e w3 ⟨rfl, h3, k3⟩
  have c1 := h3.1.cell 1 _ rfl
  go_wp2_with fail
  refine (rtext_c w3 qt vt s2.t x h3.2.2.1).mono ?_; rintro e w4 ⟨v4, rfl, ho4, k4, b4⟩
  rw [HBK.out]
  have h4 := h3.keep k4
  have d1 := h4.1.cell 1 _ rfl
  have d5 := h4.1.cell 5 _ rfl
  have hlt3 := h3.lts
  go_upto_if 32 with fail
  go_cut [5] (fun v5 wx => OwnB wx v5 t ∧ Keep [] w3 wx ∧ (∀ b, v5.ownBlock = some b → w3.heap.size ≤ b))
  case first =>
    cases bk with
    | true =>
      have hg : (s2.t.text x).getD [] = t := by
        cases e : s2.t.text x with
        | none => have := HBK.out; rw [e] at this; cases this
        | some t' => have := HT.out; unfold SH.str at this; rw [e] at this; cases this; rfl
      rw [hg] at ho4
      clear hg
      go_wp2
      go_meet
      exact ⟨ho4, k4, b4⟩
    | false =>
      have htx : s2.t.text x = none := by
        cases e : s2.t.text x with
        | none => rfl
        | some t' => have := HBK.out; rw [e] at this; cases this
      have hst := HT.out
      unfold SH.str at hst
      rw [htx] at hst
      have hcond : ¬ (s2.last < 0 ∨ (x : Int) ≠ s2.t.next) := by
        intro hc; simp [hc] at hst
      simp only [if_neg hcond] at hst
      obtain ⟨u, hu, hut⟩ : ∃ u, s2.t.text s2.last = some u ∧ u ++ [u.headD 0] = t := by
        cases e : s2.t.text s2.last with
        | none => rw [e] at hst; cases hst
        | some u => rw [e] at hst; exact ⟨u, rfl, by simpa using hst⟩
      have une := text_ne hu
      have ulen := text_len HOK.out.tok hu
      have hc1 : decide (s2.last < 0) = false := by simp; omega
      have hc2 : ((x : Int) != s2.t.next) = false := by simp; omega
      have HU := Lib.hid hu; have HUT := Lib.hid hut
      have hui : (s2.t.text s2.last).isSome = true := by rw [hu]; rfl
      have hud : (s2.t.text s2.last).getD [] = u := by rw [hu]; rfl
      have HUI := Lib.hid hui; have HUD := Lib.hid hud
      clear htx hst hcond hu hut hui hud
      go_wp2_with fail
      refine (rnext_c w4 qt vt s2.t h4.2.2.1).mono ?_; rintro e w5 ⟨rfl, n5, rfl⟩
      have h5 := h4.drewN n5
      have k5 : Keep [] w3 (w4.drewN n5) := k4.drewN n5
      generalize w4.drewN n5 = w5 at h5 k5 ⊢
      have h6 := h5.keep ((Keep.refl [] w5).drew)
      have i1 := h5.1.cell 1 _ rfl
      have i5 := h5.1.cell 5 _ rfl
      have k6 := k5.drew
      go_upto_region 10 with fail
      go_cut [7, 8] (fun v7 b8 wx => b8 = .bool true ∧ OwnB wx v7 u ∧ Keep [] w3 wx ∧ (∀ b, v7.ownBlock = some b → w3.heap.size ≤ b))
      case first =>
        go_region_with (first | (go_at_call 43; (refine (rtext_c w5.drew qt vt s2.t s2.last h6.2.2.1).mono ?_); (rintro e w7 ⟨v7, rfl, ho7, k7, b7⟩); (rw [HUI.out])))
        all_goals
          go_wp2_with fail
          go_meet
          exact ⟨rfl, by rw [HUD.out] at ho7; exact ho7.keep (by first | exact Keep.refl [] _ | exact (Keep.refl [] _).drew) (by simp), by first | exact k6.trans k7 (by simp) | exact (k6.trans k7 (by simp)).drew, fun b hb => Nat.le_trans k6.size (b7 b hb)⟩
      case rest =>
      obtain ⟨rfl, ho7, k6, b7⟩ := hcut
      generalize wc = w7 at *
      have hpos : 0 < u.length := by cases u; exact absurd rfl une; simp
      have hu0 : u[0] = u.headD 0 := by cases u; exact absurd rfl une; rfl
      obtain ⟨g7, o7, cp7, e7, cell7⟩ := ho7.bs.spot 0 hpos
      obtain ⟨ch, hch⟩ : ∃ ch, u.headD 0 = ch := ⟨_, rfl⟩
      rw [hu0, Nat.add_zero, hch] at cell7
      have hut2 := HUT.out
      rw [hch] at hut2
      have HUT2 := Lib.hid hut2
      clear hut2 hu0 hch HUT
      subst e7
      have HN := Lib.hid (Bs.new1 w7 ch)
      have KA := (Keep.refl [] w7).alloc (.cells #[.int .u8 (ch.toNat)] 5)
      have hO7 := ho7.keep KA (by simp)
      have hll : u.length + [ch].length ≤ 140737488355328 := by simp; omega
      have HLL := Lib.hid hll
      clear hll
      go_wp2_with (at_builtin; ((refine wpList_appendB (.tmp 61) (.tmp 65) rfl rfl (.slice (some ⟨g7, o7, none⟩) u.length cp7) u rfl hO7 _ [ch] rfl HN.out HLL.out ?_); (intro v8 w8 ho8 hk8 hb8 hz8); (rw [HUT2.out] at ho8)))
      go_meet
      have k8 : Keep [] w3 w8 := ((k6.trans KA (by simp)).trans hk8 (fun z hz => .inr (by have := b7 z (by simpa using hz); omega)))
      refine ⟨ho8, k8, fun b hb => ?_⟩
      rcases hb8 b hb with h' | h'
      · exact b7 b h'
      · have h1 := k6.size; rw [h']; simp; omega
  case rest =>
    obtain ⟨ho5, k5, b5⟩ := hcut
    generalize wc = w5 at *
    have h5 := h3.keep k5
    obtain ⟨tne, tlen⟩ := SH.str_some HOK.out HT.out
    have hsz := HOK.out.size
    have hoL : s2.out.length ≤ 140737488340000 := by rw [HOUT.out]; exact hl
    have hw9 : IntKind.i64.wrap (size - (s2.out.length : Int)) = size - s2.out.length := by rw [IntKind.wrap_i64]; omega
    have c2 := h5.1.cell 2 _ rfl
    have c3 := h5.1.cell 3 _ rfl
    have c5 := h5.1.cell 5 _ rfl
    have f2 := h5.1.free 2
    have hpos : 0 < t.length := by cases t; exact absurd rfl tne; simp
    have ht0 : t[0] = t.headD 0 := by cases t; exact absurd rfl tne; rfl
    obtain ⟨g5, o5, cp5, e5, cell5⟩ := ho5.bs.spot 0 hpos
    subst e5
    obtain ⟨ch, hch⟩ : ∃ ch, t.headD 0 = ch := ⟨_, rfl⟩
    rw [ht0, Nat.add_zero, hch] at cell5
    have HCH := Lib.hid hch; clear hch ht0 tne
    have hg5 := b5 g5 rfl
    obtain ⟨ao, co, eo, p5, p6⟩ := h5.2.2.2.1.bs.shape
    subst eo
    by_cases hbig : size - (s2.out.length : Int) < t.length
    · have hR2 : R = (9, s2) := by rw [← HR.out]; unfold SH.tell; rw [if_pos hbig]
      have HR2 := Lib.hid hR2; clear hR2
      have t5 : decide (size - (s2.out.length : Int) < (t.length : Int)) = true := by simpa using hbig
      clear hbig hsz hoL
      go_upto_region 14 with fail
      go_quiet (fail)
      go_wp2
      go_ret
      rw [HR2.out]
      exact ⟨rfl, fun h => absurd h (by decide : (9 : Nat) ≠ 0), (k3.mono (by simp)).trans (k5.drewN _) (by simp)⟩
    have hR2 : R = (0, { s2 with out := s2.out ++ t, t := if s2.last < 0 then s2.t else (s2.t.add s2.last (t.headD 0)).2, last := x }) := by rw [← HR.out]; unfold SH.tell; rw [if_neg hbig]
    have HR2 := Lib.hid hR2; clear hR2
    have t5 : decide (size - (s2.out.length : Int) < (t.length : Int)) = false := by simpa using hbig
    clear hbig hsz
    have hll : s2.out.length + t.length ≤ 140737488355328 := by omega
    have HLL := Lib.hid hll
    clear hll
    go_upto_region 14 with fail
    go_quiet (fail)
    have h6 := h5.drewN nq
    have ho6 := ho5.keep ((Keep.refl [] w5).drewN nq) (by simp)
    have cell6 : (w5.drewN nq).cell? ⟨g5, o5, none⟩ = some (.int .u8 ch.toNat) := cell5
    have k6 : Keep [] w3 (w5.drewN nq) := k5.drewN nq
    generalize w5.drewN nq = w6 at h6 ho6 cell6 k6 ⊢
    clear c2 c3 c5 f2 cell5
    have c2 := h6.1.cell 2 _ rfl
    have hd6 := h6.2.2.2.2
    have hl6 := h6.lts
    have hgo : ∀ b, (Value.slice ao s2.out.length co).ownBlock = some b → b ≠ g5 := by
      intro b hb e; have := hlt3.2.2.2.1 b hb; omega
    have hgq : q ≠ g5 := by have := hlt3.1; omega
    have HHO := Lib.hid hgo; clear hgo
    by_cases hl0 : s2.last < 0
    · have t6 : decide (0 ≤ s2.last) = false := by simp; omega
      go_wp2_with (at_builtin; ((refine wpList_appendB (.tmp 85) (.tmp 86) rfl rfl (.slice ao s2.out.length co) s2.out rfl h6.2.2.2.1 (.slice (some ⟨g5, o5, none⟩) t.length cp5) t rfl ho6.bs HLL.out ?_); (intro v7 w7 ho7 hk7 hb7 hz7); (obtain ⟨a7, n7, c7, rfl⟩ := ho7.shape); (have hS := h6.told hk7 ho7 (fun b hb => (hb7 b hb).imp id fun e => Nat.le_of_eq e.symm)); (have hB7 := h6.1.keep hk7 (fun hm => (hd6.o q (by simpa using hm)).1 rfl)); (have g2 := hB7.free 2); (have d2 := hB7.cell 2 _ rfl); (have d5 := (hB7.set 2 (.slice a7 n7 c7)).cell 5 _ rfl); (have gf5 := (hB7.set 2 (.slice a7 n7 c7)).free 5)))
      go_ret
      rw [HR2.out, if_pos hl0]
      obtain ⟨S1, K1⟩ := hS
      obtain ⟨S2, K2⟩ := S1.setLast x
      have KA : Keep (q :: qr :: qt :: (Value.slice ao s2.out.length co).ownBlock.toList) w w6 := (k3.mono (by simp)).trans k6 (by simp)
      have KF := (KA.trans K1 (fun z hz => .inl (by rcases List.mem_cons.1 hz with rfl | hz; simp; simp [hz]))).trans K2 (by simp)
      refine ⟨rfl, fun _ => ⟨_, vt, S2, KF, fun b hb => ?_, fun b hb => .inl hb⟩, KF⟩
      · rcases hb7 b hb with h' | h'
        · exact .inl h'
        · right; have := k3.size; have := k6.size; omega
    · have t6 : decide (0 ≤ s2.last) = true := by simp; omega
      go_wp2_with (at_builtin; ((refine wpList_appendB (.tmp 85) (.tmp 86) rfl rfl (.slice ao s2.out.length co) s2.out rfl h6.2.2.2.1 (.slice (some ⟨g5, o5, none⟩) t.length cp5) t rfl ho6.bs HLL.out ?_); (intro v7 w7 ho7 hk7 hb7 hz7); (obtain ⟨a7, n7, c7, rfl⟩ := ho7.shape); (have hS := h6.told hk7 ho7 (fun b hb => (hb7 b hb).imp id fun e => Nat.le_of_eq e.symm)); (have hB7 := h6.1.keep hk7 (fun hm => (hd6.o q (by simpa using hm)).1 rfl)); (have g2 := hB7.free 2); (have d2 := hB7.cell 2 _ rfl); (have d5 := (hB7.set 2 (.slice a7 n7 c7)).cell 5 _ rfl); (have d1 := (hB7.set 2 (.slice a7 n7 c7)).cell 1 _ rfl); (have cell7 : (w7.setCell ⟨q, 2, none⟩ (.slice a7 n7 c7)).cell? ⟨g5, o5, none⟩ = some (.int .u8 ch.toNat) := (Keep.cell (S := [q]) ((Keep.refl [q] w7).setCell (by simp) _) (hk7.cell cell6 (fun hm => HHO.out g5 (by simpa using hm) rfl)) (by simpa using Ne.symm hgq))); (have gf5 := (hB7.set 2 (.slice a7 n7 c7)).free 5)))
      obtain ⟨S1, K1⟩ := hS
      generalize w7.setCell ⟨q, 2, none⟩ (.slice a7 n7 c7) = w8 at S1 K1 d1 d5 cell7 gf5 ⊢
      have S8 := S1.keep ((Keep.refl [] w8).drew)
      have K8 := K1.drew
      go_still_tail 11, (by kernel_rfl)
      change wpList _ _ _ _ _ w8.drew
      clear d5 gf5 d1 cell7
      generalize w8.drew = w8 at S8 K8 ⊢
      clear g2 d2 hB7
      go_wp2_with fail
      refine (radd_c w8 qt vt s2.t s2.last ch S8.2.2.1).mono ?_; rintro e w9 ⟨rfl, vt9, h9, k9, b9⟩
      have S9 := S8.tab k9 h9 b9
      have d5 := S9.1.cell 5 _ rfl
      have gf5 := S9.1.free 5
      go_wp2_with fail
      go_ret
      rw [HR2.out, if_neg (show ¬ s2.last < 0 by omega), HCH.out]
      obtain ⟨S2, K2⟩ := S9.setLast x
      have KA : Keep (q :: qr :: qt :: (Value.slice ao s2.out.length co).ownBlock.toList) w w6 := (k3.mono (by simp)).trans k6 (by simp)
      have KF := ((KA.trans K8 (fun z hz => .inl (by rcases List.mem_cons.1 hz with rfl | hz; simp; simp [hz]))).trans k9 (by simp)).trans K2 (by simp)
      refine ⟨rfl, fun _ => ⟨_, vt9, S2, KF, fun b hb => ?_, fun b hb => ?_⟩, KF⟩
      · rcases hb7 b hb with h' | h'
        · exact .inl h'
        · right; have := k3.size; have := k6.size; omega
      · rcases b9 b hb with h' | h'
        · exact .inl h'
        · right; have := k3.size; have := k6.size; have := K8.size; omega
end Go.Proofs.Ytkefidbokeifdaa
namespace Go.Proofs.Ytkefidbokeifdaa
set_option linter.unusedVariables false
set_option linter.unusedSimpArgs false
set_option maxRecDepth 100000
open Go.ChangeShapes Go.WideShapes Go.ChangeAt Go.RowKit

theorem sopen_c (w : World) (v : Value) (l : List UInt8) (size : Int) (hb : Bs w v l) (hl : l.length ≤ 140737488355328) (hv : l ≠ [] → ∀ b, v.ownBlock = some b → b < w.heap.size) :
    Calls Try.prog 26 #[v, .int .i64 size] w fun e w' => ∃ q qr qt, e = .returned (.pointer (some ⟨q, 0, none⟩)) ∧ Sx w' q qr qt v (.slice none 0 0) (.slice none 0 0) size (SH.start l) ∧ Keep [] w w' ∧ w.heap.size ≤ q ∧ w.heap.size ≤ qr ∧ w.heap.size ≤ qt := by
  obtain ⟨a, cp, rfl, _, _⟩ := hb.shape
  have HN := Lib.hid (rnew_c (w.alloc (.cells #[.slice a l.length cp, .int .i64 0, .int .i64 0] 84)))
  go_enter Try.func26, Try.ntmps26
  go_wp2_with fail
  refine HN.out.mono ?_; rintro e w2 ⟨rfl, hT, k2⟩
  go_wp2_with fail
  go_ret
  have hsz : (w.alloc (.cells #[.slice a l.length cp, .int .i64 0, .int .i64 0] 84)).heap.size = w.heap.size + 1 := by simp
  have hTl := hT.1.lt
  rw [hsz] at hT hTl
  have K1 : Keep [] w (w.alloc (.cells #[.slice a l.length cp, .int .i64 0, .int .i64 0] 84)) := (Keep.refl [] w).alloc _
  have K2 := K1.trans k2 (by simp)
  have hR := (Blk.new w #[.slice a l.length cp, .int .i64 0, .int .i64 0] 84).keep k2 (by simp)
  have K3 := (Keep.refl [] w2).alloc (.cells #[.pointer (some ⟨w.heap.size, 0, none⟩), .pointer (some ⟨w.heap.size + 1, 0, none⟩), .slice none 0 0, .int .i64 size, .int .i64 9, .int .i64 (-1), .int .i64 0] 64)
  refine ⟨w2.heap.size, w.heap.size, w.heap.size + 1, rfl, ⟨Blk.new _ _ _, ?_, hT.keep K3 (by simp) (by simp), OwnB.nil _, ?_⟩, K2.trans K3 (by simp), K2.size, Nat.le_refl _, by omega⟩
  · exact ⟨hR.keep K3 (by simp), (hb.keep K2 (by simp)).keep K3 (by simp), ⟨Nat.zero_le _, hl, by show 0 < 100; omega⟩, rfl, fun hne b hb' => by have := hv hne b hb'; omega⟩
  · exact ⟨⟨by omega, by omega, by omega⟩, fun b hb' => by simp [Value.ownBlock] at hb', fun b hb' => by simp [Value.ownBlock] at hb', fun hne b hb' => by have := hv hne b hb'; have := K2.size; exact ⟨by omega, by omega, by omega, by simp [Value.ownBlock]⟩⟩
set_option maxHeartbeats 2000000 in
theorem rshdec_c (w : World) (v : Value) (l : List UInt8) (size : Int) (hb : Bs w v l) (hl : l.length ≤ 1000000000) (hz : size ≤ 9223372036854775807) :
    Calls Try.prog 11 #[v, .int .i64 size] w fun e w' => ∃ v', e = .returned (.tuple #[v', .int .i64 (shDec l size).2.1, .int .i64 (shDec l size).2.2]) ∧ OwnB w' v' (shDec l size).1 ∧ Keep [] w w' ∧ ∀ b, v'.ownBlock = some b → w.heap.size ≤ b := by
  unfold shDec
  by_cases h0 : size < 0
  · rw [if_pos h0]
    have t1 : decide (size < 0) = true := by simpa using h0
    clear h0
    go_enter Try.func11, Try.ntmps11
    go_wp2
    go_ret3
    exact ⟨_, rfl, OwnB.nil _, Keep.refl _ _, by simp [Value.ownBlock]⟩
  rw [if_neg h0]
  have t1 : decide (size < 0) = false := by simpa using h0
  have h00 : 0 ≤ size := by omega
  clear h0
  have HOP := Lib.hid (sopen_c w v l size hb (by omega) (fun hne => hb.lt hne))
  obtain ⟨D, hD⟩ : ∃ D, SH.run size (8 * l.length + 1) (SH.start l) = D := ⟨_, rfl⟩
  have HR0 := Lib.hid hD
  rw [hD]
  clear hD
  obtain ⟨TR, hTR⟩ : ∃ TR : List UInt8 × Nat × Nat, (if D.1 ≠ 0 then ([], 0, D.1) else if 8 ≤ D.2.r.left then ([], 0, 5) else (D.2.out, D.2.n, 0)) = TR := ⟨_, rfl⟩
  rw [hTR]
  have HTR := Lib.hid hTR; clear hTR
  go_enter Try.func11, Try.ntmps11
  go_wp2_with fail
  refine HOP.out.mono ?_; rintro e w1 ⟨q, qr, qt, rfl, hS, k1, hq, hqr, hqt⟩
  go_wp2_with fail
  go_loopg [] (8 * l.length + 1) (fun g wr => ∃ (s : SH) (vo vt : Value), Sx wr q qr qt v vo vt size s ∧ s.ok size ∧ s.r.l = l ∧ 8 * l.length + 1 ≤ s.r.pos + g ∧ Hid (SH.run size g s = D) ∧ Keep [] w wr ∧ (∀ b, vo.ownBlock = some b → w.heap.size ≤ b))
  case atStart => exact ⟨SH.start l, _, _, hS, SH.start_ok l size h00 (by omega), rfl, by show 8 * l.length + 1 ≤ 0 + _; omega, HR0, k1, by simp [Value.ownBlock]⟩
  case round =>
    obtain ⟨s, vo, vt, HS, hok, hrl, hg, hrun, KK, hvo⟩ := hrel
    have hp := hok.rok.1
    rw [hrl] at hp
    obtain ⟨f, rfl⟩ : ∃ f, gk = f + 1 := ⟨gk - 1, by omega⟩
    have hrun2 := hrun.out
    rw [SH.run] at hrun2
    have hst := hok.steps
    have htl := hok.told
    have c0 := HS.1.cell 0 _ rfl
    have c2 := HS.1.cell 2 _ rfl
    have c6 := HS.1.cell 6 _ rfl
    have hO := HS.2.2.2.1
    obtain ⟨ao, co, eo, _, _⟩ := hO.bs.shape
    subst eo
    by_cases hx : size ≤ s.out.length
    · rw [if_pos hx] at hrun2
      have HD := Lib.hid hrun2
      have t2 : decide ((s.out.length : Int) < size) = false := by simp; omega
      clear hrun hrun2 hx
      go_wp2_with fail
      refine (rleft_c wr qr v s.r HS.2.1).mono ?_; rintro e w2 ⟨rfl, n2, rfl⟩
      have h2 := HS.drewN n2
      have k2 : Keep [] w (wr.drewN n2) := KK.drewN n2
      generalize wr.drewN n2 = w2 at h2 k2 ⊢
      have HOK := Lib.hid hok
      by_cases h8 : 8 ≤ s.r.left
      · have t3 : decide (8 ≤ s.r.left) = true := by simpa using h8
        go_wp2_with fail
        go_ret3
        have htr : TR = ([], 0, 5) := by rw [← HTR.out, ← HD.out, if_neg (by simp), if_pos h8]
        rw [htr]
        exact ⟨_, rfl, OwnB.nil _, k2, by simp [Value.ownBlock]⟩
      · have t3 : decide (8 ≤ s.r.left) = false := by simpa using h8
        have c2 := h2.1.cell 2 _ rfl
        have c6 := h2.1.cell 6 _ rfl
        go_wp2_with fail
        go_quiet (fail)
        go_wp2
        go_ret3
        have htr : TR = (s.out, s.n, 0) := by rw [← HTR.out, ← HD.out, if_neg (by simp), if_neg h8]
        rw [htr]
        exact ⟨_, rfl, (h2.drewN _).2.2.2.1, k2.drewN _, hvo⟩
    · rw [if_neg hx] at hrun2
      have t2 : decide ((s.out.length : Int) < size) = true := by simp; omega
      have HST := Lib.hid (sstep_c wr q qr qt v (.slice ao s.out.length co) vt size s HS hok (by omega) hz (by omega))
      have hsok := hok.step_ok
      obtain ⟨er, her⟩ : ∃ er, (s.step size).1 = er := ⟨_, rfl⟩
      obtain ⟨s2, hs2⟩ : ∃ s2, (s.step size).2 = s2 := ⟨_, rfl⟩
      have hmem : ∀ z ∈ q :: qr :: qt :: (Value.slice ao s.out.length co).ownBlock.toList, z ∈ ([] : List Nat) ∨ w.heap.size ≤ z := by
        intro z hz
        right
        rcases List.mem_cons.1 hz with rfl | hz
        · exact hq
        · rcases List.mem_cons.1 hz with rfl | hz
          · exact hqr
          · rcases List.mem_cons.1 hz with rfl | hz
            · exact hqt
            · exact hvo z (by simpa using hz)
      have HMEM := Lib.hid hmem
      clear hmem
      have hpair : s.step size = (er, s2) := by rw [← her, ← hs2]
      rw [her, hs2] at HST hsok
      rw [her, hs2, hpair] at hrun2
      have HRUN := Lib.hid hrun2
      have HSOK := Lib.hid hsok
      clear hrun hrun2 hsok her hs2 hpair
      by_cases he : er = 0
      · have t3 : ((er : Int) != 0) = false := by simp; omega
        have HE := Lib.hid he; clear he
        go_wp2_with fail
        refine HST.out.mono ?_; rintro e w2 ⟨rfl, h2, hK2⟩
        obtain ⟨vo2, vt2, S2, K2, bo, bt⟩ := h2 HE.out
        go_wp2_with fail
        go_roundg f
        case rel =>
          obtain ⟨ok2, pos2, l2⟩ : s2.ok size ∧ s.r.pos + 9 ≤ s2.r.pos ∧ s2.r.l = s.r.l := by
            rcases HSOK.out with h' | h'
            · exact absurd HE.out h'
            · exact h'
          have hrun3 := HRUN.out
          rw [if_neg (by have := HE.out; simpa using this)] at hrun3
          refine ⟨s2, vo2, vt2, S2, ok2, by rw [l2, hrl], by omega, hrun3, KK.trans K2 HMEM.out, fun b hb => ?_⟩
          · rcases bo b hb with h' | h'
            · exact hvo b h'
            · have := KK.size; omega
        case measure => omega
      · have t3 : ((er : Int) != 0) = true := by simp; omega
        have HE := Lib.hid he; clear he
        go_wp2_with fail
        refine HST.out.mono ?_; rintro e w2 ⟨rfl, h2, hK2⟩
        go_wp2_with fail
        go_ret3
        have hrun3 := HRUN.out
        rw [if_pos HE.out] at hrun3
        have htr : TR = ([], 0, er) := by rw [← HTR.out, ← hrun3, if_pos HE.out]
        rw [htr]
        exact ⟨_, rfl, OwnB.nil _, KK.trans hK2 HMEM.out, by simp [Value.ownBlock]⟩
end Go.Proofs.Ytkefidbokeifdaa
