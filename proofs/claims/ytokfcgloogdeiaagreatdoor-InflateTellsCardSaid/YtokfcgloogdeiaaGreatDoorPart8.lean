/- Texts put together: CutB Gr -/
import Derived.Test.YtokfcgloogdeiaaGreatDoorPart3
import Derived.Lib.ByteType
import Derived.Deep.Slices
import Derived.Laws.OwnMore
namespace Go.Proofs.YtokfcgloogdeiaaGreatDoor
set_option linter.unusedVariables false
set_option linter.unusedSimpArgs false
open Go.ChangeShapes Go.WideShapes Go.ChangeAt Go.RowKit

theorem under8 : Tryz.prog.underlying 22 = some (.slice (Tryz.prog.elem 22)) ∧ Tryz.prog.elem 22 = 5 := by
  have h := Tryz.underlying22
  constructor
  · simp [Program.elem, h]
  · simp [Program.elem, h]
theorem size8 (w : World) : (Go.sizeOf 5).run Tryz.prog w = .ok 1 w := Lib.byte_size info8 w
theorem addr_block (x : Addr) (i : Nat) : (x.add i).block = x.block := by unfold Addr.add; split <;> rfl
theorem Bs.cutOf {w : World} {a : Option Addr} {l : List UInt8} {cap : Nat} (h : Bs w (.slice a l.length cap) l) (i j m : Nat) (hij : i ≤ j) (hj : j ≤ l.length) (hm : j ≤ m) (hmc : m ≤ cap) :
    Bs w (sliced a i j m 1) ((l.drop i).take (j - i)) ∧ (sliced a i j m 1).ownBlock = (Value.slice a l.length cap).ownBlock := by
  obtain ⟨a', cap', hv, h1, h2, h3, h4⟩ := h
  simp only [Value.slice.injEq] at hv
  obtain ⟨rfl, _, rfl⟩ := hv
  have e : ((l.drop i).take (j - i)).length = j - i := by simp; omega
  unfold sliced
  constructor
  · refine ⟨_, m - i, by rw [e], by rw [e]; omega, by omega, ?_, fun x hx k hk => ?_⟩
    · intro hn
      split at hn
      · omega
      · have : a = none := by simpa using hn
        have := h3 this; omega
    · rw [e] at hk
      have hne : ¬ m = i := by omega
      rw [if_neg hne] at hx
      cases a with
      | none => simp at hx
      | some y =>
        obtain rfl : y.add (i * 1) = x := by simpa using hx
        rw [Go.Deep.add_add, show i * 1 + k = i + k by omega, h4 y rfl (i + k) (by omega)]
        simp
  · split
    · cases a <;> rfl
    · cases a with
      | none => rfl
      | some y => simp [Value.ownBlock, addr_block]
/-- v[x:y] -/
theorem Bs.cut {w : World} {v : Value} {l : List UInt8} (h : Bs w v l) (i j : Nat) (x y : Int) (hx : x = i) (hy : y = j) (hij : i ≤ j) (hj : j ≤ l.length) :
    ∃ v', (∀ W, (Instr.slice 22 v (some (.int .i64 x)) (some (.int .i64 y)) none).run Tryz.prog W = .ok v' W) ∧ Bs w v' ((l.drop i).take (j - i)) ∧ v'.ownBlock = v.ownBlock := by
  subst hx hy
  obtain ⟨a, cap, rfl, h1, h2⟩ := h.shape
  obtain ⟨k1, k2⟩ := h.cutOf i j cap hij hj (by omega) (by omega)
  exact ⟨_, fun W => by rw [run_slice_lh W _ _ _ _ under8.1 .i64 .i64 _ _ (by omega) (by omega) (by omega), under8.2, size8]; rfl, k1, k2⟩
/-- v[x:] -/
theorem Bs.from {w : World} {v : Value} {l : List UInt8} (h : Bs w v l) (i : Nat) (x : Int) (hx : x = i) (hi : i ≤ l.length) :
    ∃ v', (∀ W, (Instr.slice 22 v (some (.int .i64 x)) none none).run Tryz.prog W = .ok v' W) ∧ Bs w v' (l.drop i) ∧ v'.ownBlock = v.ownBlock := by
  subst hx
  obtain ⟨a, cap, rfl, h1, h2⟩ := h.shape
  obtain ⟨k1, k2⟩ := h.cutOf i l.length cap hi (Nat.le_refl _) h1 (by omega)
  have e : (l.drop i).take (l.length - i) = l.drop i := List.take_of_length_le (by simp)
  rw [e] at k1
  exact ⟨_, fun W => by rw [run_slice_l W _ _ _ _ under8.1 .i64 _ (by omega) (by omega), under8.2, size8]; rfl, k1, k2⟩
/-- v[:y] -/
theorem Bs.upto {w : World} {v : Value} {l : List UInt8} (h : Bs w v l) (j : Nat) (y : Int) (hy : y = j) (hj : j ≤ l.length) :
    ∃ v', (∀ W, (Instr.slice 22 v none (some (.int .i64 y)) none).run Tryz.prog W = .ok v' W) ∧ Bs w v' (l.take j) ∧ v'.ownBlock = v.ownBlock := by
  subst hy
  obtain ⟨a, cap, rfl, h1, h2⟩ := h.shape
  obtain ⟨k1, k2⟩ := h.cutOf 0 j cap (by omega) hj (by omega) (by omega)
  exact ⟨_, fun W => by rw [run_slice_h W _ _ _ _ under8.1 .i64 _ (by omega) (by omega), under8.2, size8]; rfl, by simpa using k1, k2⟩
/-- the beginning of a slice, as a walk writes it out -/
theorem Bs.pre {w : World} {a : Option Addr} {l : List UInt8} {cap : Nat} (h : Bs w (.slice a l.length cap) l) (n : Nat) (hn : n ≤ l.length) : Bs w (.slice a n cap) (l.take n) := by
  obtain ⟨a', cap', hv, h1, h2, h3, h4⟩ := h
  simp only [Value.slice.injEq] at hv
  obtain ⟨rfl, _, rfl⟩ := hv
  have e : (l.take n).length = n := by rw [List.length_take]; omega
  refine ⟨a, cap, by rw [e], by omega, h2, h3, fun x hx i hi => ?_⟩
  rw [e] at hi
  rw [h4 x hx i (by omega)]; simp
end Go.Proofs.YtokfcgloogdeiaaGreatDoor
namespace Go.Proofs.YtokfcgloogdeiaaGreatDoor
set_option linter.unusedVariables false
set_option linter.unusedSimpArgs false
open Go.ChangeShapes Go.WideShapes Go.ChangeAt Go.RowKit

/-- a kind of element: its cells, its type's number, its slices' -/
structure El (α : Type) where
  sz : Nat
  ty : TypeId
  sl : TypeId
  bytes : Nat
  enc : α → List Value
structure El.Good {α : Type} (E : El α) : Prop where
  pos : 0 < E.sz
  len : ∀ x, (E.enc x).length = E.sz
  one : ∀ x, ∀ u ∈ E.enc x, u.oneCell' = true
  info : (Tryz.prog.info? E.ty).map (fun i => (i.zero.map (·.cells.size), i.size, i.bytes)) = some (some E.sz, E.sz, E.bytes)
  under : Tryz.prog.underlying E.sl = some (.slice E.ty)
  small : E.bytes ≤ 1000
section
variable {α : Type} {E : El α}
def El.cells (E : El α) (xs : List α) : List Value := xs.flatMap E.enc
theorem El.cells_append (E : El α) (a b : List α) : E.cells (a ++ b) = E.cells a ++ E.cells b := by simp [El.cells]
theorem El.cells_one (E : El α) (x : α) : E.cells [x] = E.enc x := by simp [El.cells]
theorem El.cells_cons (E : El α) (x : α) (xs : List α) : E.cells (x :: xs) = E.enc x ++ E.cells xs := by simp [El.cells]
theorem El.cells_len (G : E.Good) (xs : List α) : (E.cells xs).length = xs.length * E.sz := by
  induction xs with
  | nil => simp [El.cells]
  | cons x xs ih => rw [E.cells_cons, List.length_append, ih, G.len, List.length_cons, Nat.succ_mul, Nat.add_comm]
theorem El.cells_get (G : E.Good) (xs : List α) (i j : Nat) (h : i < xs.length) (hj : j < E.sz) : (E.cells xs)[i * E.sz + j]? = (E.enc xs[i])[j]? := by
  induction xs generalizing i with
  | nil => simp at h
  | cons x xs ih =>
    rw [E.cells_cons]
    have hl := G.len x
    cases i with
    | zero => rw [Nat.zero_mul, Nat.zero_add, List.getElem?_append_left (by omega)]; rfl
    | succ i =>
      rw [List.getElem?_append_right (by rw [hl, Nat.succ_mul]; omega), hl, show (i + 1) * E.sz + j - E.sz = i * E.sz + j by rw [Nat.succ_mul]; omega]
      exact ih i (by simpa using h)
theorem El.cells_set (G : E.Good) (xs : List α) (i j : Nat) (h : i < xs.length) (hj : j < E.sz) (y : α) (u : Value) (hy : E.enc y = (E.enc xs[i]).set j u) : E.cells (xs.set i y) = (E.cells xs).set (i * E.sz + j) u := by
  induction xs generalizing i with
  | nil => simp at h
  | cons x xs ih =>
    have hl := G.len x
    cases i with
    | zero =>
      rw [List.set_cons_zero, E.cells_cons, E.cells_cons, Nat.zero_mul, Nat.zero_add, List.set_append_left _ _ (by omega), hy]; rfl
    | succ i =>
      rw [List.set_cons_succ, E.cells_cons, E.cells_cons, List.set_append_right _ _ (by rw [hl, Nat.succ_mul]; omega), hl, show (i + 1) * E.sz + j - E.sz = i * E.sz + j by rw [Nat.succ_mul]; omega, ih i (by simpa using h) hy]
theorem El.cells_take (G : E.Good) (xs : List α) (n : Nat) : E.cells (xs.take n) = (E.cells xs).take (n * E.sz) := by
  induction xs generalizing n with
  | nil => simp [El.cells]
  | cons x xs ih =>
    cases n with
    | zero => simp [El.cells]
    | succ n =>
      have hl := G.len x
      have h1 : (E.enc x).take ((n + 1) * E.sz) = E.enc x := List.take_of_length_le (by rw [hl, Nat.succ_mul]; omega)
      rw [List.take_succ_cons, E.cells_cons, E.cells_cons, ih, List.take_append, hl, show (n + 1) * E.sz - E.sz = n * E.sz by rw [Nat.succ_mul]; omega, h1]
theorem El.cells_drop (G : E.Good) (xs : List α) (n : Nat) : E.cells (xs.drop n) = (E.cells xs).drop (n * E.sz) := by
  induction xs generalizing n with
  | nil => simp [El.cells]
  | cons x xs ih =>
    cases n with
    | zero => simp
    | succ n =>
      have hl := G.len x
      have h1 : (E.enc x).drop ((n + 1) * E.sz) = [] := List.drop_eq_nil_of_le (by rw [hl, Nat.succ_mul]; omega)
      rw [List.drop_succ_cons, E.cells_cons, ih, List.drop_append, hl, show (n + 1) * E.sz - E.sz = n * E.sz by rw [Nat.succ_mul]; omega, h1]; rfl
theorem El.one' (G : E.Good) (xs : List α) : ∀ u ∈ E.cells xs, u.oneCell' = true := by
  intro u hu
  obtain ⟨x, _, h⟩ := List.mem_flatMap.1 hu
  exact G.one x u h
/-- v is a slice of the elements xs -/
def Gs (E : El α) (w : World) (v : Value) (xs : List α) : Prop :=
  ∃ a cap, v = .slice a xs.length cap ∧ xs.length ≤ cap ∧ cap ≤ maxLen ∧ (a = none → cap = 0) ∧ ∀ x, a = some x → ∀ j, j < xs.length * E.sz → w.cell? (x.add j) = (E.cells xs)[j]?
theorem Gs.keep (G : E.Good) {w w' : World} {v : Value} {xs : List α} {S : List Nat} (h : Gs E w v xs) (k : Keep S w w') (hb : ∀ b, v.ownBlock = some b → b ∉ S) : Gs E w' v xs := by
  obtain ⟨a, cap, rfl, h1, h2, h3, h4⟩ := h
  refine ⟨a, cap, rfl, h1, h2, h3, fun x hx j hj => ?_⟩
  have hs := h4 x hx j hj
  obtain ⟨u, hu⟩ : ∃ u, (E.cells xs)[j]? = some u := ⟨_, List.getElem?_eq_getElem (by rw [El.cells_len G]; exact hj)⟩
  rw [hu] at hs ⊢
  refine k.cell hs ?_
  subst hx
  rw [addr_block]; exact hb _ rfl
theorem Gs.drewN (G : E.Good) {w : World} {v : Value} {xs : List α} (h : Gs E w v xs) (n : Nat) : Gs E (w.drewN n) v xs := h.keep G ((Keep.refl [] w).drewN _) (by simp)
theorem Gs.sh {w : World} {v : Value} {xs : List α} (h : Gs E w v xs) : ∃ a cap, v = .slice a xs.length cap ∧ xs.length ≤ cap ∧ cap ≤ 9223372036854775807 := by
  obtain ⟨a, cap, rfl, h1, h2, _⟩ := h
  unfold maxLen at h2
  exact ⟨a, cap, rfl, h1, by omega⟩
theorem Gs.nil (E : El α) (w : World) : Gs E w (.slice none 0 0) [] := ⟨none, 0, rfl, by simp, by simp, fun _ => rfl, fun x hx => nomatch hx⟩
theorem Gs.at (G : E.Good) {w : World} {v : Value} {xs : List α} (h : Gs E w v xs) (i : Nat) (hi : i < xs.length) : ∃ b off cap, v = .slice (some ⟨b, off, none⟩) xs.length cap ∧ ∀ j, j < E.sz → w.cell? ⟨b, off + (i * E.sz + j), none⟩ = (E.enc xs[i])[j]? := by
  obtain ⟨a, cap, rfl, h1, h2, h3, h4⟩ := h
  cases a with
  | none => have := h3 rfl; omega
  | some x =>
    obtain ⟨b, off, spot⟩ := x
    have hin : ∀ i j, i < xs.length → j < E.sz → i * E.sz + j < xs.length * E.sz := fun i j h1 h2 => by
      have := Nat.mul_le_mul_right E.sz (show i + 1 ≤ xs.length by omega)
      rw [Nat.succ_mul] at this; omega
    have hspot : spot = none := by
      have hz : 0 < xs.length := by omega
      have c0 := h4 _ rfl (0 * E.sz + 0) (hin 0 0 hz G.pos)
      rw [El.cells_get G xs 0 0 hz G.pos, List.getElem?_eq_getElem (by rw [G.len]; exact G.pos)] at c0
      simpa [Addr.add] using World.cell?_spot c0
    subst hspot
    have e : ∀ m, (⟨b, off, none⟩ : Addr).add m = ⟨b, off + m, none⟩ := fun m => by cases m <;> simp [Addr.add]
    refine ⟨b, off, cap, rfl, fun j hj => ?_⟩
    rw [← e, h4 _ rfl _ (hin i j hi hj), El.cells_get G xs i j hi hj]
theorem Gs.lt (G : E.Good) {w : World} {v : Value} {xs : List α} (h : Gs E w v xs) (hl : xs ≠ []) : ∀ b, v.ownBlock = some b → b < w.heap.size := by
  intro b hb
  have hp : 0 < xs.length := by cases xs with | nil => exact absurd rfl hl | cons _ _ => simp
  obtain ⟨b', off, cap, rfl, hc⟩ := h.at G 0 hp
  obtain rfl : b' = b := by simpa [Value.ownBlock] using hb
  have := hc 0 G.pos
  rw [List.getElem?_eq_getElem (by rw [G.len]; exact G.pos)] at this
  apply Decidable.byContradiction
  intro hn
  have h2 : w.heap[b']? = none := by rw [Array.getElem?_eq_none_iff]; omega
  simp [World.cell?, h2] at this
theorem Gs.keep' (G : E.Good) {w w' : World} {v : Value} {xs : List α} {S : List Nat} (h : Gs E w v xs) (k : Keep S w w') (hb : xs ≠ [] → ∀ b, v.ownBlock = some b → b ∉ S) : Gs E w' v xs := by
  by_cases h0 : xs = []
  · subst h0
    obtain ⟨a, cap, rfl, h1, h2, h3, h4⟩ := h
    exact ⟨a, cap, rfl, h1, h2, h3, fun x _ j hj => by simp at hj⟩
  · exact h.keep G k (hb h0)
theorem Gs.src (G : E.Good) {w : World} {v : Value} {xs : List α} (h : Gs E w v xs) : Src w E.sz v xs.length (E.cells xs) := by
  obtain ⟨a, cap, rfl, h1, h2, h3, h4⟩ := h
  refine ⟨El.cells_len G xs, El.one' G xs, ?_⟩
  cases a with
  | none =>
    obtain rfl := h3 rfl
    have : xs.length = 0 := by omega
    left; simp [this]
  | some x =>
    refine .inr ⟨x, cap, rfl, fun j u hu => ?_⟩
    have hj : j < xs.length * E.sz := by rw [← El.cells_len G]; exact (List.getElem?_eq_some_iff.1 hu).1
    rw [h4 x rfl j hj, hu]
/-- a literal of elements -/
theorem Gs.lit (G : E.Good) {w : World} {g : Nat} {cs : Array Value} {t : TypeId} (xs : List α) (n : Nat) (hb : Blk w g cs t) (hc : cs.toList = E.cells xs) (hn : xs.length = n) (hl : n ≤ maxLen) : Gs E w (.slice (some ⟨g, 0, none⟩) n n) xs := by
  subst hn
  refine ⟨some ⟨g, 0, none⟩, xs.length, rfl, Nat.le_refl _, hl, (fun h => nomatch h), fun x hx j hj => ?_⟩
  obtain rfl : (⟨g, 0, none⟩ : Addr) = x := by simpa using hx
  rw [show (⟨g, 0, none⟩ : Addr).add j = ⟨g, j, none⟩ by cases j <;> simp [Addr.add]]
  obtain ⟨u, hu⟩ : ∃ u, (E.cells xs)[j]? = some u := ⟨_, List.getElem?_eq_getElem (by rw [El.cells_len G]; exact hj)⟩
  rw [hu]
  exact hb.cell j _ (by rw [← Array.getElem?_toList, hc]; exact hu)
/-- v is a slice of the elements xs of the call's own -/
def OwnG (E : El α) (w : World) (v : Value) (xs : List α) : Prop := w.ownsRow 0 E.ty E.sz v xs.length (E.cells xs)
theorem OwnG.nil (E : El α) (w : World) : OwnG E w (.slice none 0 0) [] := World.ownsRow_nil w 0 _ _
theorem OwnG.keep {w w' : World} {v : Value} {xs : List α} {S : List Nat} (h : OwnG E w v xs) (k : Keep S w w') (hb : ∀ b, v.ownBlock = some b → b ∉ S) : OwnG E w' v xs := by
  refine ⟨h.1, ?_⟩
  rcases h.2 with h2 | ⟨g, cap, cur, rfl, hb0, hh, r⟩
  · exact .inl h2
  · exact .inr ⟨g, cap, cur, rfl, hb0, (k.block g (lt_of_block hh) (hb g rfl)).trans hh, r⟩
theorem OwnG.lt {w : World} {v : Value} {xs : List α} (h : OwnG E w v xs) : ∀ b, v.ownBlock = some b → b < w.heap.size := fun b hb => (World.ownsRow.lt h b hb).2
theorem OwnG.gs {w : World} {v : Value} {xs : List α} (h : OwnG E w v xs) : Gs E w v xs := by
  rcases h.2 with ⟨rfl, hn⟩ | ⟨g, cap, cur, rfl, _, hh, hc, hm, hs, ht⟩
  · obtain rfl : xs = [] := List.eq_nil_of_length_eq_zero hn
    exact Gs.nil E w
  · refine ⟨some ⟨g, 0, none⟩, cap, rfl, hc, hm, (fun h => nomatch h), fun x hx j hj => ?_⟩
    obtain rfl : (⟨g, 0, none⟩ : Addr) = x := by simpa using hx
    have e : (⟨g, 0, none⟩ : Addr).add j = ⟨g, j, none⟩ := by cases j <;> simp [Addr.add]
    rw [e, cell_of_row w g j cur _ (0, 0) hh, ← ht, List.getElem?_take, if_pos (by omega)]
    simp
theorem OwnG.shape {w : World} {v : Value} {xs : List α} (h : OwnG E w v xs) : (v = .slice none 0 0 ∧ xs = []) ∨ ∃ g c, v = .slice (some ⟨g, 0, none⟩) xs.length c ∧ xs.length ≤ c ∧ c ≤ maxLen := by
  rcases h.2 with ⟨h', hn⟩ | ⟨g', cap', cur, h', _, _, h1, h2, _⟩
  · exact .inl ⟨h', List.eq_nil_of_length_eq_zero hn⟩
  · exact .inr ⟨g', cap', h', h1, h2⟩
theorem OwnG.free {w : World} {g n cap : Nat} {xs : List α} (h : OwnG E w (.slice (some ⟨g, 0, none⟩) n cap) xs) (j : Nat) : w.frozen? ⟨g, j, none⟩ = false := by
  have hn : n = xs.length := by
    obtain ⟨_, _, e, _⟩ := h.gs
    simp only [Value.slice.injEq] at e; exact e.2.1
  subst hn
  exact World.ownsRow.frozenAt h j
theorem OwnG.cell (G : E.Good) {w : World} {g n cap : Nat} {xs : List α} (h : OwnG E w (.slice (some ⟨g, 0, none⟩) n cap) xs) (i j : Nat) (hi : i < xs.length) (hj : j < E.sz) : w.cell? ⟨g, i * E.sz + j, none⟩ = (E.enc xs[i])[j]? := by
  obtain ⟨b, off, cp, hv, hc⟩ := h.gs.at G i hi
  simp only [Value.slice.injEq, Option.some.injEq, Addr.mk.injEq] at hv
  obtain ⟨⟨rfl, rfl, _⟩, _, _⟩ := hv
  have := hc j hj
  rwa [Nat.zero_add] at this
/-- one cell of an element stored anew -/
theorem OwnG.store (G : E.Good) {w : World} {g n cap : Nat} {xs : List α} (h : OwnG E w (.slice (some ⟨g, 0, none⟩) n cap) xs) (i j : Nat) (hi : i < xs.length) (hj : j < E.sz) (y : α) (u : Value) (hy : E.enc y = (E.enc xs[i]).set j u) :
    OwnG E (w.setCell ⟨g, i * E.sz + j, none⟩ u) (.slice (some ⟨g, 0, none⟩) n cap) (xs.set i y) := by
  have hn : n = xs.length := by
    obtain ⟨_, _, e, _⟩ := h.gs
    simp only [Value.slice.injEq] at e; exact e.2.1
  subst hn
  unfold OwnG
  rw [List.length_set, El.cells_set G xs i j hi hj y u hy]
  exact (World.ownsRow.stored h (i * E.sz + j) u).1
theorem run_appendG (G : E.Good) (w : World) (ty : TypeId) (v : Value) (xs : List α) (hown : OwnG E w v xs) (xv : Value) (ys : List α) (hsrc : Gs E w xv ys) (hlen : xs.length + ys.length ≤ 140000000000) :
    ∃ v' w', (Builtin.append_ #[E.sl, E.sl] ty #[v, xv]).run Tryz.prog w = .ok v' w' ∧ OwnG E w' v' (xs ++ ys) ∧ Keep v.ownBlock.toList w w' ∧ (∀ b, v'.ownBlock = some b → v.ownBlock = some b ∨ b = w.heap.size) := by
  obtain ⟨i0, hi, hzz⟩ := Option.map_eq_some_iff.1 G.info
  simp only [Prod.mk.injEq] at hzz
  obtain ⟨hz, hz1, hz2⟩ := hzz
  obtain ⟨z, hz, hzc⟩ := Option.map_eq_some_iff.1 hz
  have hb := G.small
  have hbytes : (xs.length + ys.length) * E.bytes ≤ 140737488355328 := Nat.le_trans (Nat.mul_le_mul hlen hb) (by decide)
  obtain ⟨v', w', hr, h2, h3, h4, h5⟩ := run_append_any (P := Tryz.prog) w E.sl ty E.ty i0 z E.sz E.bytes G.under hi hz hz1 hz2 hzc G.pos v xs.length (E.cells xs) hown xv ys.length (E.cells ys) (hsrc.src G) (by unfold maxLen; omega) hbytes
  exact ⟨v', w', hr, by unfold OwnG; rw [List.length_append, E.cells_append]; exact h2, (Keep.refl _ _).grown h3 (fun k hk => .inl (by simp [hk])), h4⟩
/-- append of elements -/
theorem wpList_appendG (G : E.Good) {w : World} {ops : Array Oper} {rest : List Oper} {o : Oper} {a : Act} {Q : Exit → Act → World → Prop} (s x : Operand) (hgd : o.guard = none)
    (ho : o.op = .call { callee := .builtin .append, args := #[s, x], argTypes := #[E.sl, E.sl] })
    (v : Value) (xs : List α) (hs : a.eval s = v) (hown : OwnG E w v xs) (xv : Value) (ys : List α) (hx : a.eval x = xv) (hsrc : Gs E w xv ys) (hlen : xs.length + ys.length ≤ 140000000000)
    (h : ∀ v' w', OwnG E w' v' (xs ++ ys) → Keep v.ownBlock.toList w w' → (∀ b, v'.ownBlock = some b → v.ownBlock = some b ∨ b = w.heap.size) → wpList Tryz.prog ops Q rest (a.put o.dst v') w') : wpList Tryz.prog ops Q (o :: rest) a w := by
  obtain ⟨v', w', hr, h2, h3, h4⟩ := run_appendG G w o.type v xs hown xv ys hsrc hlen
  refine wpList_plain hgd fun K hK => ?_
  unfold Oper.wp execOp
  simp only [ho, resolve, invoke, builtin, Sem.run_bind, Sem.run_pure, Result.andThen_ok, List.map_toArray, List.map_cons, List.map_nil, hs, hx, hr]
  exact hK _ _ (h v' w' h2 h3 h4)
/-- append of elements, as a step of a region that draws -/
theorem step_appendG (G : E.Good) {w : World} {ops : Array Oper} {o : Oper} {a : Act} {K : Act → World → Prop} {Q : Exit → Act → World → Prop} {F : Prop} (s x : Operand) (hgd : o.guard = none)
    (ho : o.op = .call { callee := .builtin .append, args := #[s, x], argTypes := #[E.sl, E.sl] })
    (v : Value) (xs : List α) (hs : a.eval s = v) (hown : OwnG E w v xs) (xv : Value) (ys : List α) (hx : a.eval x = xv) (hsrc : Gs E w xv ys) (hlen : xs.length + ys.length ≤ 140000000000)
    (h : ∀ v' w', OwnG E w' v' (xs ++ ys) → Keep v.ownBlock.toList w w' → (∀ b, v'.ownBlock = some b → v.ownBlock = some b ∨ b = w.heap.size) → K (a.put o.dst v') w') :
    if Region.wanted o (yielded ops a.tmps) = true then Oper.wp Tryz.prog o a w K Q else F := by
  have hw : Region.wanted o (yielded ops a.tmps) = true := by simp [Region.wanted, hgd]
  rw [if_pos hw]
  obtain ⟨v', w', hr, h2, h3, h4⟩ := run_appendG G w o.type v xs hown xv ys hsrc hlen
  unfold Oper.wp execOp
  simp only [ho, resolve, invoke, builtin, Sem.run_bind, Sem.run_pure, Result.andThen_ok, List.map_toArray, List.map_cons, List.map_nil, hs, hx, hr]
  exact h v' w' h2 h3 h4
theorem El.Good.size (G : E.Good) (w : World) : (Go.sizeOf (Tryz.prog.elem E.sl)).run Tryz.prog w = .ok E.sz w := by
  obtain ⟨i0, hi, hzz⟩ := Option.map_eq_some_iff.1 G.info
  simp only [Prod.mk.injEq] at hzz
  have e : Tryz.prog.elem E.sl = E.ty := by simp [Program.elem, G.under]
  rw [e]
  simp [sizeOf, typeInfo, hi, hzz.2.1]
theorem El.Good.under' (G : E.Good) : Tryz.prog.underlying E.sl = some (.slice (Tryz.prog.elem E.sl)) := by
  have e : Tryz.prog.elem E.sl = E.ty := by simp [Program.elem, G.under]
  rw [e]; exact G.under
theorem Gs.cutOf (G : E.Good) {w : World} {a : Option Addr} {l : List α} {cap : Nat} (h : Gs E w (.slice a l.length cap) l) (i j m : Nat) (hij : i ≤ j) (hj : j ≤ l.length) (hm : j ≤ m) (hmc : m ≤ cap) :
    Gs E w (sliced a i j m E.sz) ((l.drop i).take (j - i)) ∧ (∀ b, (sliced a i j m E.sz).ownBlock = some b → (Value.slice a l.length cap).ownBlock = some b) := by
  obtain ⟨a', cap', hv, h1, h2, h3, h4⟩ := h
  simp only [Value.slice.injEq] at hv
  obtain ⟨rfl, _, rfl⟩ := hv
  have e : ((l.drop i).take (j - i)).length = j - i := by simp; omega
  unfold sliced
  constructor
  · refine ⟨_, m - i, by rw [e], by rw [e]; omega, by omega, ?_, fun x hx k hk => ?_⟩
    · intro hn
      split at hn
      · omega
      · have : a = none := by simpa using hn
        have := h3 this; omega
    · rw [e] at hk
      have hne : ¬ m = i := by rintro rfl; have : j = m := by omega
                               subst this; simp at hk
      rw [if_neg hne] at hx
      cases a with
      | none => simp at hx
      | some y =>
        obtain rfl : y.add (i * E.sz) = x := by simpa using hx
        have h5 : i * E.sz + k < l.length * E.sz := by
          have h6 := Nat.mul_le_mul_right E.sz hj
          have h7 : (j - i) * E.sz = j * E.sz - i * E.sz := Nat.sub_mul _ _ _
          omega
        have h6 : (E.cells ((l.drop i).take (j - i)))[k]? = (E.cells l)[i * E.sz + k]? := by
          rw [El.cells_take G, El.cells_drop G, List.getElem?_take, if_pos (by omega), List.getElem?_drop]
        rw [Go.Deep.add_add, h4 y rfl (i * E.sz + k) h5, h6]
  · intro b hb
    revert hb
    split
    · cases a <;> exact fun h => h
    · cases a with
      | none => exact fun h => h
      | some y => simp [Value.ownBlock, addr_block]
/-- v[x:y] -/
theorem Gs.cut (G : E.Good) {w : World} {v : Value} {l : List α} (h : Gs E w v l) (i j : Nat) (x y : Int) (hx : x = i) (hy : y = j) (hij : i ≤ j) (hj : j ≤ l.length) :
    ∃ v', (∀ W, (Instr.slice E.sl v (some (.int .i64 x)) (some (.int .i64 y)) none).run Tryz.prog W = .ok v' W) ∧ Gs E w v' ((l.drop i).take (j - i)) ∧ ∀ b, v'.ownBlock = some b → v.ownBlock = some b := by
  subst hx hy
  obtain ⟨a, cap, rfl, h1, h2⟩ := h.sh
  obtain ⟨k1, k2⟩ := h.cutOf G i j cap hij hj (by omega) (by omega)
  exact ⟨_, fun W => by rw [run_slice_lh W _ _ _ _ G.under' .i64 .i64 _ _ (by omega) (by omega) (by omega), G.size]; rfl, k1, k2⟩
/-- v[x:] -/
theorem Gs.from (G : E.Good) {w : World} {v : Value} {l : List α} (h : Gs E w v l) (i : Nat) (x : Int) (hx : x = i) (hi : i ≤ l.length) :
    ∃ v', (∀ W, (Instr.slice E.sl v (some (.int .i64 x)) none none).run Tryz.prog W = .ok v' W) ∧ Gs E w v' (l.drop i) ∧ ∀ b, v'.ownBlock = some b → v.ownBlock = some b := by
  subst hx
  obtain ⟨a, cap, rfl, h1, h2⟩ := h.sh
  obtain ⟨k1, k2⟩ := h.cutOf G i l.length cap hi (Nat.le_refl _) h1 (by omega)
  have e : (l.drop i).take (l.length - i) = l.drop i := List.take_of_length_le (by simp)
  rw [e] at k1
  exact ⟨_, fun W => by rw [run_slice_l W _ _ _ _ G.under' .i64 _ (by omega) (by omega), G.size]; rfl, k1, k2⟩
/-- v[:y] -/
theorem Gs.upto (G : E.Good) {w : World} {v : Value} {l : List α} (h : Gs E w v l) (j : Nat) (y : Int) (hy : y = j) (hj : j ≤ l.length) :
    ∃ v', (∀ W, (Instr.slice E.sl v none (some (.int .i64 y)) none).run Tryz.prog W = .ok v' W) ∧ Gs E w v' (l.take j) ∧ ∀ b, v'.ownBlock = some b → v.ownBlock = some b := by
  subst hy
  obtain ⟨a, cap, rfl, h1, h2⟩ := h.sh
  obtain ⟨k1, k2⟩ := h.cutOf G 0 j cap (by omega) hj (by omega) (by omega)
  exact ⟨_, fun W => by rw [run_slice_h W _ _ _ _ G.under' .i64 _ (by omega) (by omega), G.size]; rfl, by simpa using k1, k2⟩
/-- the beginning of a slice, as a walk writes it out -/
theorem Gs.pre (G : E.Good) {w : World} {a : Option Addr} {l : List α} {cap : Nat} (h : Gs E w (.slice a l.length cap) l) (n : Nat) (hn : n ≤ l.length) : Gs E w (.slice a n cap) (l.take n) := by
  obtain ⟨a', cap', hv, h1, h2, h3, h4⟩ := h
  simp only [Value.slice.injEq] at hv
  obtain ⟨rfl, _, rfl⟩ := hv
  have e : (l.take n).length = n := by rw [List.length_take]; omega
  refine ⟨a, cap, by rw [e], by omega, h2, h3, fun x hx i hi => ?_⟩
  rw [e] at hi
  have h6 := Nat.mul_le_mul_right E.sz hn
  rw [h4 x hx i (by omega), El.cells_take G, List.getElem?_take, if_pos hi]
end
end Go.Proofs.YtokfcgloogdeiaaGreatDoor
