/- Texts put together: Range Down RangeO SfOrd -/
import Derived.RangeFuncNested
import Derived.RangeFuncBound
import Derived.RangeFuncCalls
import Derived.RangeFuncLeaves
import Derived.RangeFuncWrites
import Derived.Shelf.Abstract
import Derived.Shelf.RegionOpen
import Derived.OwnWalkIn
import Derived.TacticsInMore
import Derived.LoopNIn
import Derived.LoopIn
import Derived.Test.YthmojejiaeninaaGreatPart1
import Derived.Test.YthmojejiaeninaaGreatPart3
namespace Go.Proofs.YthmojejiaeninaaGreat
set_option linter.unusedVariables false
set_option linter.unusedSimpArgs false
open Go.ChangeShapes Go.WideShapes Go.ChangeAt Go.RowKit Go.Shelf

/-- the function gf, bound to lb, hands the values xs to yield, one by one, where each round keeps Kp -/
def StepsBy {α : Type} (P : Program) (gf : Nat) (lb : Array Value) (encs : α → Array Value) (Kp : World → World → Prop) (xs : List α) (w : World) : Prop :=
  ∀ (l : Nat) (J : Nat → World → Prop) (W : World), Below w.heap.size w W →
    (∀ k x W1, xs[k]? = some x → J k W1 → YieldAt Fence.wide 3 P l (encs x) W1 fun e W' => e = .returned (.bool true) ∧ J (k + 1) W' ∧ Kp W1 W') → J 0 W →
    CallsIn Fence.wide 4 P gf (#[.func (.yield l) #[] #[]] ++ lb) W fun e W' => (∃ v, e = .returned v) ∧ J xs.length W'
/-- how the body of a round is left: it goes on -/
def stepPost (B : Nat) (Kp : World → World → Prop) (I : Nat → World → Prop) (k : Nat) (W : World) : Exit → Act → World → Prop
  | .normal, _, W' => KeepsFrom B W W' ∧ Kp W W' ∧ I k W'
  | _, _, _ => False
theorem range_steps {α : Type} {P : Program} {g : Operand} {ps : Array Tmp} {assign body : Code} {Q : Exit → Act → World → Prop} {a : Act} {w : World} {gf : Nat} {lb : Array Value} (hg : a.eval g = .func (.func gf) #[] lb)
    (eg : ∀ args w, (callFunc gf args).run P w = .ok (.enter gf args) w) {encs : α → Array Value} {Kp : World → World → Prop} {xs : List α} (hseq : StepsBy P gf lb encs Kp xs w)
    (hKt : ∀ {A B C : World}, Kp A B → Kp B C → Kp A C) (hKb : ∀ (W : World) (l : Nat) (o o' : Obj), w.heap.size ≤ l → W.heap[l]? = some o → o.isCells = false → Kp W (W.putObj l o')) (hps : ∀ x, (encs x).size = ps.size)
    (I : Nat → World → Prop) (hI : OwnFrom w.heap.size I) (h0 : I 0 w) (a₁ : α → Act)
    (hassign : ∀ (l : Nat) (x : α) (W : World) (K : Act → World → Prop), K (a₁ x) W → assign.wpIn (Fence.wide.inRound l) 3 P (Exit.then K (fun _ _ _ => False)) { tmps := (ps.zip (encs x)).foldl (fun t (p, v) => t.setIfInBounds p v) a.tmps, defers := [] } W)
    (hbody : ∀ (l k : Nat) (x : α) (W : World), xs[k]? = some x → I k W → body.wpIn (Fence.wide.inRound l) 3 P (stepPost w.heap.size Kp I (k + 1) W) (a₁ x) W)
    (hdone : ∀ (D : Nat) (W : World), w.heap.size ≤ D → I xs.length W → W.heap[D]? = some (.deferred (some [])) → Q .normal { a with defers := { target := .collected D, args := #[] } :: a.defers } W) :
    (Code.rangeFunc g ps assign body).wpIn Fence.wide 5 P Q a w := by
  refine wpIn_rangeFunc fun fn hfn => ?_
  -- the two blocks that the statement lays: B for the rounds' deferred calls, B + 1 for the loop's record
  let rec_ : LoopState → Option Code → Loop := fun st pe => { state := st, pending := pe, fn, tmps := a.tmps, params := ps, assign, body, defers := w.heap.size }
  have key : ∀ W1, W1 = (w.alloc (.deferred (some []))).alloc (.loop (rec_ .ready none)) → W1.heap[w.heap.size + 1]? = some (.loop (rec_ .ready none)) ∧ W1.heap[w.heap.size]? = some (.deferred (some [])) ∧ I 0 W1 ∧ Below w.heap.size w W1 := by
    rintro W1 rfl
    refine ⟨?_, (Below.heap_alloc _ _ _ (by simp)).trans (World.alloc_heap_new w _), hI.alloc _ (hI.alloc _ h0), ((Below.refl _ w).alloc (Nat.le_refl _) _).alloc (by simp) _⟩
    have := World.alloc_heap_new (w.alloc (.deferred (some []))) (.loop (rec_ .ready none))
    rwa [World.size_alloc] at this
  obtain ⟨W1, hW1⟩ : ∃ W1, W1 = (w.alloc (.deferred (some []))).alloc (.loop (rec_ .ready none)) := ⟨_, rfl⟩
  obtain ⟨hL1, hK1, hI1, hb1⟩ := key W1 hW1
  have hent := run_enterLoop_outer (P := P) (w := w) fn a.tmps ps assign body
  refine ⟨w.heap.size + 1, [{ target := .collected w.heap.size, args := #[] }], W1, { target := .fn (.func gf) lb, args := #[.func (.yield (w.heap.size + 1)) #[] #[]] }, W1, gf, #[.func (.yield (w.heap.size + 1)) #[] #[]] ++ lb, W1, by rw [hW1]; exact hent, ?_, fun _ _ => trivial, ?_, fun h => by simp [Fence.wide] at h, ?_⟩
  · simp only [resolve, hg]; simp [go_sem]
  · simp [invoke, go_sem, eg]
  refine (hseq (w.heap.size + 1) (fun k W => I k W ∧ W.heap[w.heap.size + 1]? = some (.loop (rec_ .ready none)) ∧ W.heap[w.heap.size]? = some (.deferred (some []))) W1 hb1 ?_ ⟨hI1, hL1, hK1⟩).mono ?_
  · rintro k x W hx ⟨hi, hl, hk⟩
    have hlt : w.heap.size + 1 < W.heap.size := (Array.getElem?_eq_some_iff.1 hl).1
    refine ⟨fn, _, assign, body, run_yield hl (hps x), roundIn_of_wpIn hfn (hassign _ x W _ ⟨_, run_beginRound hl rfl, ?_⟩)⟩
    -- the record is busy while the body runs
    have hl2 : (W.putObj (w.heap.size + 1) (.loop { rec_ .ready none with state := .busy })).heap[w.heap.size + 1]? = some (.loop { rec_ .ready none with state := .busy }) := World.putObj_heap_same hlt
    have hk2 : (W.putObj (w.heap.size + 1) (.loop { rec_ .ready none with state := .busy })).heap[w.heap.size]? = some (.deferred (some [])) := (World.putObj_heap_other (by omega)).trans hk
    refine wpIn_mono (hbody _ k x _ hx (hI.putObj _ hi (by omega) hl rfl)) ?_
    rintro e a3 W3 hp
    cases e with
    | normal =>
      obtain ⟨hk3, hkp3, hi3⟩ := hp
      have hl3 := hk3.same _ _ (by omega) hl2 rfl
      have hlt3 := (Array.getElem?_eq_some_iff.1 hl3).1
      exact ⟨_, _, run_endRound none hl3, rfl, ⟨hI.putObj _ hi3 (by omega) hl3 rfl, World.putObj_heap_same hlt3, (World.putObj_heap_other (by omega)).trans (hk3.same _ _ (Nat.le_refl _) hk2 rfl)⟩, hKt (hKt (hKb _ _ _ _ (by omega) hl rfl) hkp3) (hKb _ _ _ _ (by omega) hl3 rfl)⟩
    | _ => exact hp.elim
  · rintro e W2 ⟨⟨v, rfl⟩, hi, hl, hk⟩
    exact ⟨none, _, run_endLoop hl (by simp [rec_]), hdone _ _ (Nat.le_refl _) (hI.putObj _ hi (by omega) hl rfl) ((World.putObj_heap_other (by omega)).trans hk)⟩
/-- below n₀ nothing has turned but the blocks of S -/
structure KB (S : List Nat) (n₀ : Nat) (W W' : World) : Prop where
  os : W'.os = W.os
  tape : W'.tape = W.tape
  output : W'.output = W.output
  size : W.heap.size ≤ W'.heap.size
  block : ∀ k, k < n₀ → k ∉ S → W'.heap[k]? = W.heap[k]?
theorem KB.refl (S : List Nat) (n₀ : Nat) (W : World) : KB S n₀ W W := ⟨rfl, rfl, rfl, Nat.le_refl _, fun _ _ _ => rfl⟩
theorem KB.trans {S : List Nat} {n₀ : Nat} {A B C : World} (h : KB S n₀ A B) (k : KB S n₀ B C) : KB S n₀ A C :=
  ⟨k.os.trans h.os, k.tape.trans h.tape, k.output.trans h.output, Nat.le_trans h.size k.size, fun i h1 h2 => (k.block i h1 h2).trans (h.block i h1 h2)⟩
theorem KB.grown {S : List Nat} {n₀ : Nat} {A B C : World} {row : Option Nat} (h : KB S n₀ A B) (hn : n₀ ≤ B.heap.size) (hg : B.grownBy C row) (hr : ∀ r, row = some r → r ∈ S ∨ n₀ ≤ r) : KB S n₀ A C :=
  h.trans ⟨hg.os, hg.tape, hg.output, hg.size, fun k h1 h2 => hg.block k (by omega) (fun e => by rcases hr k e.symm with h3 | h3; exact h2 h3; omega)⟩
theorem KB.of_keep {S S' : List Nat} {n₀ : Nat} {A B : World} (h : Keep S' A B) (hn : n₀ ≤ A.heap.size) (hs : ∀ x ∈ S', x ∈ S ∨ n₀ ≤ x) : KB S n₀ A B :=
  ⟨h.os, h.tape, h.output, h.size, fun k h1 h2 => h.block k (by omega) (fun hm => by rcases hs k hm with h3 | h3; exact h2 h3; omega)⟩
theorem KB.put {S : List Nat} {n₀ : Nat} {w : World} (hn : n₀ ≤ w.heap.size) (W : World) (l : Nat) (o o' : Obj) (hl : w.heap.size ≤ l) (h : W.heap[l]? = some o) (_ : o.isCells = false) : KB S n₀ W (W.putObj l o') :=
  (KB.refl S n₀ W).grown (by have := (Array.getElem?_eq_some_iff.1 h).1; omega) (grownBy_putObj' W l o') (fun r e => by cases e; right; omega)
theorem KB.keep {S : List Nat} {A B : World} (h : KB S A.heap.size A B) : Keep S A B := ⟨h.os, h.tape, h.output, h.size, h.block⟩
end Go.Proofs.YthmojejiaeninaaGreat
namespace Go.Proofs.YthmojejiaeninaaGreat
set_option linter.unusedVariables false
set_option linter.unusedSimpArgs false
open Go.ChangeShapes Go.WideShapes Go.ChangeAt Go.RowKit Go.Shelf

theorem KB.cell {S : List Nat} {n₀ : Nat} {A B : World} (h : KB S n₀ A B) {p : Addr} {v : Value} (hc : A.cell? p = some v) (hp : p.block < n₀) (hs : p.block ∉ S) : B.cell? p = some v :=
  (World.cell?_of_block (w := A) (h.block p.block hp hs)).trans hc
def down (L : Nat) : List Nat := (List.range L).reverse
theorem down_at (L k : Nat) (hk : k < L) : (down L)[k]? = some (L - 1 - k) := by
  unfold down
  rw [List.getElem?_reverse (by simpa using hk), List.length_range, List.getElem?_range (by omega)]
theorem down_get (L k x : Nat) (h : (down L)[k]? = some x) : k < L ∧ x = L - 1 - k := by
  have hk : k < L := by have := (List.getElem?_eq_some_iff.1 h).1; simpa [down] using this
  rw [down_at L k hk] at h
  exact ⟨hk, by simpa using h.symm⟩
theorem down_len (L : Nat) : (down L).length = L := by simp [down]
end Go.Proofs.YthmojejiaeninaaGreat
namespace Go.Proofs.YthmojejiaeninaaGreat
set_option linter.unusedVariables false
set_option linter.unusedSimpArgs false
open Go.ChangeShapes Go.WideShapes Go.ChangeAt Go.RowKit Go.Shelf

/-- the function gf, bound to lb, hands the values xs to yield, one by one; what it carries between the rounds outlives books that are kept beside it; a round leaves all blocks alone but those of S and the loop's record -/
def StepsByO {α : Type} (P : Program) (gf : Nat) (lb : Array Value) (encs : α → Array Value) (S : List Nat) (xs : List α) (w : World) : Prop :=
  ∀ (l : Nat) (J : Nat → World → Prop) (W : World), w.heap.size ≤ l → l < W.heap.size → Below w.heap.size w W → OwnFrom W.heap.size J →
    (∀ k x W1, xs[k]? = some x → J k W1 → YieldAt Fence.wide 3 P l (encs x) W1 fun e W' => e = .returned (.bool true) ∧ J (k + 1) W' ∧ Keep (l :: S) W1 W') → J 0 W →
    CallsIn Fence.wide 4 P gf (#[.func (.yield l) #[] #[]] ++ lb) W fun e W' => (∃ v, e = .returned v) ∧ J xs.length W'
theorem keep_put {W : World} {l : Nat} {o : Obj} (S : List Nat) : Keep (l :: S) W (W.putObj l o) :=
  (Keep.refl _ W).grown (grownBy_putObj' W l o) (fun k e => .inl (by cases e; simp))
/-- how deep a round may go is no matter where nothing bounds it -/
theorem roundIn_wide {n m l' : Nat} {P : Program} {l : Nat} {f : FuncId} {tmps : Array Value} {assign body : Code} {w : World} {R : Ending → World → Prop} (h : RoundIn Fence.wide n P l f tmps assign body w R) : RoundIn (Fence.wide.inRound l') m P l f tmps assign body w R :=
  ⟨h.1, fun c cs _ => h.2 c cs (room_wide _)⟩
theorem range_stepsO {α : Type} {P : Program} {g : Operand} {ps : Array Tmp} {assign body : Code} {Q : Exit → Act → World → Prop} {a : Act} {w : World} {gf : Nat} {lb : Array Value} (hg : a.eval g = .func (.func gf) #[] lb)
    (eg : ∀ args w, (callFunc gf args).run P w = .ok (.enter gf args) w) {encs : α → Array Value} {S : List Nat} {xs : List α} (hseq : StepsByO P gf lb encs S xs w) (hS : ∀ x ∈ S, x < w.heap.size) (hps : ∀ x, (encs x).size = ps.size)
    (I : Nat → World → Prop) (hI : OwnFrom w.heap.size I) (h0 : I 0 w) (a₁ : α → Act)
    (hassign : ∀ (l : Nat) (x : α) (W : World) (K : Act → World → Prop), K (a₁ x) W → assign.wpIn (Fence.wide.inRound l) 3 P (Exit.then K (fun _ _ _ => False)) { tmps := (ps.zip (encs x)).foldl (fun t (p, v) => t.setIfInBounds p v) a.tmps, defers := [] } W)
    (hbody : ∀ (l k : Nat) (x : α) (W : World), xs[k]? = some x → I k W → body.wpIn (Fence.wide.inRound l) 3 P (stepPost w.heap.size (Keep S) I (k + 1) W) (a₁ x) W)
    (hdone : ∀ (D : Nat) (W : World), w.heap.size ≤ D → I xs.length W → W.heap[D]? = some (.deferred (some [])) → Q .normal { a with defers := { target := .collected D, args := #[] } :: a.defers } W) :
    (Code.rangeFunc g ps assign body).wpIn Fence.wide 5 P Q a w := by
  refine wpIn_rangeFunc fun fn hfn => ?_
  let rec_ : LoopState → Option Code → Loop := fun st pe => { state := st, pending := pe, fn, tmps := a.tmps, params := ps, assign, body, defers := w.heap.size }
  have key : ∀ W1, W1 = (w.alloc (.deferred (some []))).alloc (.loop (rec_ .ready none)) → W1.heap[w.heap.size + 1]? = some (.loop (rec_ .ready none)) ∧ W1.heap[w.heap.size]? = some (.deferred (some [])) ∧ I 0 W1 ∧ Below w.heap.size w W1 ∧ W1.heap.size = w.heap.size + 2 := by
    rintro W1 rfl
    refine ⟨?_, (Below.heap_alloc _ _ _ (by simp)).trans (World.alloc_heap_new w _), hI.alloc _ (hI.alloc _ h0), ((Below.refl _ w).alloc (Nat.le_refl _) _).alloc (by simp) _, by simp⟩
    have := World.alloc_heap_new (w.alloc (.deferred (some []))) (.loop (rec_ .ready none))
    rwa [World.size_alloc] at this
  obtain ⟨W1, hW1⟩ : ∃ W1, W1 = (w.alloc (.deferred (some []))).alloc (.loop (rec_ .ready none)) := ⟨_, rfl⟩
  obtain ⟨hL1, hK1, hI1, hb1, hz1⟩ := key W1 hW1
  have hent := run_enterLoop_outer (P := P) (w := w) fn a.tmps ps assign body
  refine ⟨w.heap.size + 1, [{ target := .collected w.heap.size, args := #[] }], W1, { target := .fn (.func gf) lb, args := #[.func (.yield (w.heap.size + 1)) #[] #[]] }, W1, gf, #[.func (.yield (w.heap.size + 1)) #[] #[]] ++ lb, W1, by rw [hW1]; exact hent, ?_, fun _ _ => trivial, ?_, fun h => by simp [Fence.wide] at h, ?_⟩
  · simp only [resolve, hg]; simp [go_sem]
  · simp [invoke, go_sem, eg]
  refine (hseq (w.heap.size + 1) (fun k W => I k W ∧ W.heap[w.heap.size + 1]? = some (.loop (rec_ .ready none)) ∧ W.heap[w.heap.size]? = some (.deferred (some []))) W1 (by omega) (by omega) hb1 ?_ ?_ ⟨hI1, hL1, hK1⟩).mono ?_
  · rintro k W W' row ⟨hi, hl, hk⟩ hg hr
    have hh : ∀ b, b < W1.heap.size → b < W.heap.size → W'.heap[b]? = W.heap[b]? := fun b h1 h2 => hg.block b h2 (fun e => by have := (hr b e.symm).1; omega)
    exact ⟨hI k W W' row hi hg (fun r e => by obtain ⟨h1, h2⟩ := hr r e; exact ⟨by omega, h2⟩), (hh _ (by omega) (Array.getElem?_eq_some_iff.1 hl).1).trans hl, (hh _ (by omega) (Array.getElem?_eq_some_iff.1 hk).1).trans hk⟩
  · rintro k x W hx ⟨hi, hl, hk⟩
    have hlt : w.heap.size + 1 < W.heap.size := (Array.getElem?_eq_some_iff.1 hl).1
    refine ⟨fn, _, assign, body, run_yield hl (hps x), roundIn_of_wpIn hfn (hassign _ x W _ ⟨_, run_beginRound hl rfl, ?_⟩)⟩
    have hl2 : (W.putObj (w.heap.size + 1) (.loop { rec_ .ready none with state := .busy })).heap[w.heap.size + 1]? = some (.loop { rec_ .ready none with state := .busy }) := World.putObj_heap_same hlt
    have hk2 : (W.putObj (w.heap.size + 1) (.loop { rec_ .ready none with state := .busy })).heap[w.heap.size]? = some (.deferred (some [])) := (World.putObj_heap_other (by omega)).trans hk
    refine wpIn_mono (hbody _ k x _ hx (hI.putObj _ hi (by omega) hl rfl)) ?_
    rintro e a3 W3 hp
    cases e with
    | normal =>
      obtain ⟨hk3, hkp3, hi3⟩ := hp
      have hl3 := hk3.same _ _ (by omega) hl2 rfl
      have hlt3 := (Array.getElem?_eq_some_iff.1 hl3).1
      refine ⟨_, _, run_endRound none hl3, rfl, ⟨hI.putObj _ hi3 (by omega) hl3 rfl, World.putObj_heap_same hlt3, (World.putObj_heap_other (by omega)).trans (hk3.same _ _ (Nat.le_refl _) hk2 rfl)⟩, ?_⟩
      exact ((keep_put S).trans hkp3 (fun x hx => .inl (by simp [hx]))).trans (keep_put S) (fun x hx => .inl hx)
    | _ => exact hp.elim
  · rintro e W2 ⟨⟨v, rfl⟩, hi, hl, hk⟩
    exact ⟨none, _, run_endLoop hl (by simp [rec_]), hdone _ _ (Nat.le_refl _) (hI.putObj _ hi (by omega) hl rfl) ((World.putObj_heap_other (by omega)).trans hk)⟩
end Go.Proofs.YthmojejiaeninaaGreat
namespace Go.Proofs.YthmojejiaeninaaGreat
set_option linter.unusedVariables false
set_option linter.unusedSimpArgs false
open Go.ChangeShapes Go.WideShapes Go.ChangeAt Go.RowKit Go.Shelf

def dwn (N : Nat) : List Nat := (List.range N).reverse
theorem dwn_at (N k : Nat) (hk : k < N) : (dwn N)[k]? = some (N - 1 - k) := by
  unfold dwn
  rw [List.getElem?_reverse (by simpa using hk), List.length_range, List.getElem?_range (by omega)]
theorem dwn_len (N : Nat) : (dwn N).length = N := by simp [dwn]
theorem dwn_mem (N t : Nat) : t ∈ dwn N ↔ t < N := by simp [dwn]
theorem dwn_get (N k x : Nat) (h : (dwn N)[k]? = some x) : k < N ∧ x = N - 1 - k := by
  have hk : k < N := by have := (List.getElem?_eq_some_iff.1 h).1; simpa [dwn] using this
  rw [dwn_at N k hk] at h
  exact ⟨hk, by simpa using h.symm⟩
theorem dwn_falls (N : Nat) : (dwn N).Pairwise fun a b => b < a := by
  unfold dwn
  rw [List.pairwise_reverse]
  exact List.pairwise_lt_range
/-- the symbols of one length -/
def ofLen (L : List Nat) (n : Nat) : List Nat := (dwn L.length).filter fun s => len L s == n
/-- the symbols of lengths n and less, the longest first -/
def ordS (L : List Nat) : Nat → List Nat
  | 0 => []
  | n + 1 => ofLen L (n + 1) ++ ordS L n
theorem ofLen_mem (L : List Nat) (n t : Nat) : t ∈ ofLen L n ↔ t < L.length ∧ len L t = n := by simp [ofLen, dwn_mem]
theorem ordS_mem (L : List Nat) (n t : Nat) : t ∈ ordS L n ↔ t < L.length ∧ 1 ≤ len L t ∧ len L t ≤ n := by
  induction n with
  | zero => simp [ordS]; omega
  | succ n ih => rw [ordS, List.mem_append, ofLen_mem, ih]; omega
theorem ordS_falls (L : List Nat) (n : Nat) : (ordS L n).Pairwise fun a b => ahd L b a = true := by
  induction n with
  | zero => exact List.Pairwise.nil
  | succ n ih =>
    rw [ordS, List.pairwise_append]
    refine ⟨?_, ih, fun a ha b hb => ?_⟩
    · refine List.Pairwise.imp_of_mem (fun {a b} ha hb hab => ?_) (List.Pairwise.filter _ (dwn_falls L.length))
      rw [ahd_iff]
      have h1 := ((ofLen_mem L (n + 1) a).1 ha).2
      have h2 := ((ofLen_mem L (n + 1) b).1 hb).2
      omega
    · rw [ahd_iff]
      have h1 := ((ofLen_mem L (n + 1) a).1 ha).2
      have h2 := ((ordS_mem L n b).1 hb).2
      omega
/-- the sum over a row of symbols, none twice, is the sum over all that are in it -/
theorem sum_in (f : Nat → Nat) (N : Nat) : ∀ ys : List Nat, ys.Nodup → (∀ y ∈ ys, y < N) → (ys.map f).sum = sm (fun t => if t ∈ ys then f t else 0) N := by
  intro ys
  induction ys with
  | nil => intro _ _; simp [sm_zero]
  | cons y ys ih =>
    intro hn hy
    rw [List.nodup_cons] at hn
    rw [List.map_cons, List.sum_cons, ih hn.2 (fun z hz => hy z (List.mem_cons_of_mem _ hz))]
    rw [← sm_one N y (f y) (hy y (List.mem_cons_self ..)), ← sm_add]
    refine sm_congr _ _ _ (fun t _ => ?_)
    by_cases e : t = y
    · subst e; rw [if_pos rfl, if_neg hn.1, if_pos (List.mem_cons_self ..)]; omega
    · rw [if_neg e]
      by_cases e2 : t ∈ ys
      · rw [if_pos e2, if_pos (List.mem_cons_of_mem _ e2)]; omega
      · rw [if_neg e2, if_neg (by simp [e, e2])]
theorem ahd_irrefl (L : List Nat) (i : Nat) : ahd L i i = false := by rw [Bool.eq_false_iff, ne_eq, ahd_iff]; omega
theorem ahd_asymm (L : List Nat) (i k : Nat) (h : ahd L i k = true) : ahd L k i = false := by
  rw [ahd_iff] at h; rw [Bool.eq_false_iff, ne_eq, ahd_iff]; omega
/-- what the symbols ahead weigh -/
theorem ord_ahead (L : List Nat) (hL : ∀ t, t < L.length → 1 ≤ len L t ∧ len L t ≤ 16) (k s : Nat) (h : (ordS L 16)[k]? = some s) : (((ordS L 16).take k).map (wd16 L)).sum = ah L s := by
  have hf := ordS_falls L 16
  obtain ⟨hk, hs⟩ := List.getElem?_eq_some_iff.1 h
  have hsplit : ordS L 16 = (ordS L 16).take k ++ s :: (ordS L 16).drop (k + 1) := by
    conv => lhs; rw [← List.take_append_drop k (ordS L 16)]
    rw [List.drop_eq_getElem_cons hk, hs]
  rw [hsplit, List.pairwise_append] at hf
  obtain ⟨f1, f2, f3⟩ := hf
  rw [List.pairwise_cons] at f2
  have hmem : ∀ t, t ∈ (ordS L 16).take k ↔ t < L.length ∧ ahd L s t = true := by
    intro t
    constructor
    · intro ht
      exact ⟨((ordS_mem L 16 t).1 (List.mem_of_mem_take ht)).1, f3 t ht s (List.mem_cons_self ..)⟩
    · rintro ⟨h1, h2⟩
      have hm : t ∈ ordS L 16 := (ordS_mem L 16 t).2 ⟨h1, hL t h1⟩
      rw [hsplit, List.mem_append, List.mem_cons] at hm
      rcases hm with hm | rfl | hm
      · exact hm
      · rw [ahd_irrefl] at h2; cases h2
      · have := ahd_asymm L t s (f2.1 t hm); rw [this] at h2; cases h2
  have hnd : ((ordS L 16).take k).Nodup := by
    refine List.Pairwise.imp (fun {a b} hab => ?_) f1
    rintro rfl
    rw [ahd_irrefl] at hab; cases hab
  rw [sum_in (wd16 L) L.length _ hnd (fun y hy => ((hmem y).1 hy).1)]
  unfold ah
  refine sm_congr _ _ _ (fun t ht => ?_)
  by_cases e : ahd L s t = true
  · rw [if_pos e, if_pos ((hmem t).2 ⟨ht, e⟩)]
  · rw [if_neg e, if_neg (fun h => e ((hmem t).1 h).2)]
/-- the place behind k symbols -/
def upto (L : List Nat) (k : Nat) : Nat := (((ordS L 16).take k).map (wd16 L)).sum
theorem upto_zero (L : List Nat) : upto L 0 = 0 := by simp [upto]
theorem upto_succ (L : List Nat) (k s : Nat) (h : (ordS L 16)[k]? = some s) : upto L (k + 1) = upto L k + wd16 L s := by
  unfold upto
  rw [List.take_add_one, h]
  simp
/-- the marks of loops over functions that a function has come through -/
def marks (Ds : List Nat) : List Deferred := Ds.map fun D => { target := .collected D, args := #[] }
structure Mks (B : Nat) (Ds : List Nat) (W : World) : Prop where
  nodup : Ds.Nodup
  at_ : ∀ D ∈ Ds, B ≤ D ∧ W.heap[D]? = some (.deferred (some []))
theorem leaves_marks {n : Nat} {P : Program} {fn : Func} {tmps : Array Value} {R : Ending → World → Prop} {v : Value} (B : Nat) (J : World → Prop) (hJ : OwnFrom B fun (_ : Unit) W => J W) (hres : ∀ w, (results fn tmps).run P w = .ok v w) (hR : ∀ W, J W → R (.returned v) W) :
    ∀ (Ds : List Nat) (W : World), Mks B Ds W → J W → LeavesInM Fence.wide n P fn tmps R (marks Ds) .returning W := by
  intro Ds
  induction Ds with
  | nil => intro W _ hj; exact ⟨v, hres W, hR W hj⟩
  | cons D Ds ih =>
    intro W hM hj
    obtain ⟨h1, h2⟩ := hM.at_ D (List.mem_cons_self ..)
    have hn := List.nodup_cons.1 hM.nodup
    refine ⟨by simp, .inl ⟨D, _, rfl, run_takeDeferred h2, ih _ ⟨hn.2, fun D' hD' => ?_⟩ (hJ.putObj (s := ()) _ hj h1 h2 rfl)⟩⟩
    obtain ⟨h3, h4⟩ := hM.at_ D' (List.mem_cons_of_mem _ hD')
    refine ⟨h3, (World.putObj_heap_other (fun e => hn.1 ?_)).trans h4⟩
    first | exact e ▸ hD' | exact e.symm ▸ hD'
end Go.Proofs.YthmojejiaeninaaGreat
