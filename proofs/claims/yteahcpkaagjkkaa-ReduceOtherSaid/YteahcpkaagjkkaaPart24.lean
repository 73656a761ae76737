/- Texts put together: Range Down BackB RangeL BackBL -/
import Derived.RangeFuncNested
import Derived.RangeFuncBound
import Derived.RangeFuncCalls
import Derived.RangeFuncLeaves
import Derived.RangeFuncWrites
import Derived.Shelf.Abstract
import Derived.Shelf.RegionOpen
import Derived.OwnWalkIn
import Derived.TacticsInMore
import Derived.LoopNIn
import Derived.LoopIn
import Derived.Test.YteahcpkaagjkkaaPart1
namespace Go.Proofs.Yteahcpkaagjkkaa
set_option linter.unusedVariables false
set_option linter.unusedSimpArgs false
open Go.ChangeShapes Go.WideShapes Go.ChangeAt Go.RowKit Go.Shelf

/-- the function gf, bound to lb, hands the values xs to yield, one by one, where each round keeps Kp -/
def StepsBy {α : Type} (P : Program) (gf : Nat) (lb : Array Value) (encs : α → Array Value) (Kp : World → World → Prop) (xs : List α) (w : World) : Prop :=
  ∀ (l : Nat) (J : Nat → World → Prop) (W : World), Below w.heap.size w W →
    (∀ k x W1, xs[k]? = some x → J k W1 → YieldAt Fence.wide 3 P l (encs x) W1 fun e W' => e = .returned (.bool true) ∧ J (k + 1) W' ∧ Kp W1 W') → J 0 W →
    CallsIn Fence.wide 4 P gf (#[.func (.yield l) #[] #[]] ++ lb) W fun e W' => (∃ v, e = .returned v) ∧ J xs.length W'
/-- how the body of a round is left: it goes on -/
def stepPost (B : Nat) (Kp : World → World → Prop) (I : Nat → World → Prop) (k : Nat) (W : World) : Exit → Act → World → Prop
  | .normal, _, W' => KeepsFrom B W W' ∧ Kp W W' ∧ I k W'
  | _, _, _ => False
theorem range_steps {α : Type} {P : Program} {g : Operand} {ps : Array Tmp} {assign body : Code} {Q : Exit → Act → World → Prop} {a : Act} {w : World} {gf : Nat} {lb : Array Value} (hg : a.eval g = .func (.func gf) #[] lb)
    (eg : ∀ args w, (callFunc gf args).run P w = .ok (.enter gf args) w) {encs : α → Array Value} {Kp : World → World → Prop} {xs : List α} (hseq : StepsBy P gf lb encs Kp xs w)
    (hKt : ∀ {A B C : World}, Kp A B → Kp B C → Kp A C) (hKb : ∀ (W : World) (l : Nat) (o o' : Obj), w.heap.size ≤ l → W.heap[l]? = some o → o.isCells = false → Kp W (W.putObj l o')) (hps : ∀ x, (encs x).size = ps.size)
    (I : Nat → World → Prop) (hI : OwnFrom w.heap.size I) (h0 : I 0 w) (a₁ : α → Act)
    (hassign : ∀ (l : Nat) (x : α) (W : World) (K : Act → World → Prop), K (a₁ x) W → assign.wpIn (Fence.wide.inRound l) 3 P (Exit.then K (fun _ _ _ => False)) { tmps := (ps.zip (encs x)).foldl (fun t (p, v) => t.setIfInBounds p v) a.tmps, defers := [] } W)
    (hbody : ∀ (l k : Nat) (x : α) (W : World), xs[k]? = some x → I k W → body.wpIn (Fence.wide.inRound l) 3 P (stepPost w.heap.size Kp I (k + 1) W) (a₁ x) W)
    (hdone : ∀ (D : Nat) (W : World), w.heap.size ≤ D → I xs.length W → W.heap[D]? = some (.deferred (some [])) → Q .normal { a with defers := { target := .collected D, args := #[] } :: a.defers } W) :
    (Code.rangeFunc g ps assign body).wpIn Fence.wide 5 P Q a w := by
  refine wpIn_rangeFunc fun fn hfn => ?_
  -- the two blocks that the statement lays: B for the rounds' deferred calls, B + 1 for the loop's record
  let rec_ : LoopState → Option Code → Loop := fun st pe => { state := st, pending := pe, fn, tmps := a.tmps, params := ps, assign, body, defers := w.heap.size }
  have key : ∀ W1, W1 = (w.alloc (.deferred (some []))).alloc (.loop (rec_ .ready none)) → W1.heap[w.heap.size + 1]? = some (.loop (rec_ .ready none)) ∧ W1.heap[w.heap.size]? = some (.deferred (some [])) ∧ I 0 W1 ∧ Below w.heap.size w W1 := by
    rintro W1 rfl
    refine ⟨?_, (Below.heap_alloc _ _ _ (by simp)).trans (World.alloc_heap_new w _), hI.alloc _ (hI.alloc _ h0), ((Below.refl _ w).alloc (Nat.le_refl _) _).alloc (by simp) _⟩
    have := World.alloc_heap_new (w.alloc (.deferred (some []))) (.loop (rec_ .ready none))
    rwa [World.size_alloc] at this
  obtain ⟨W1, hW1⟩ : ∃ W1, W1 = (w.alloc (.deferred (some []))).alloc (.loop (rec_ .ready none)) := ⟨_, rfl⟩
  obtain ⟨hL1, hK1, hI1, hb1⟩ := key W1 hW1
  have hent := run_enterLoop_outer (P := P) (w := w) fn a.tmps ps assign body
  refine ⟨w.heap.size + 1, [{ target := .collected w.heap.size, args := #[] }], W1, { target := .fn (.func gf) lb, args := #[.func (.yield (w.heap.size + 1)) #[] #[]] }, W1, gf, #[.func (.yield (w.heap.size + 1)) #[] #[]] ++ lb, W1, by rw [hW1]; exact hent, ?_, fun _ _ => trivial, ?_, fun h => by simp [Fence.wide] at h, ?_⟩
  · simp only [resolve, hg]; simp [go_sem]
  · simp [invoke, go_sem, eg]
  refine (hseq (w.heap.size + 1) (fun k W => I k W ∧ W.heap[w.heap.size + 1]? = some (.loop (rec_ .ready none)) ∧ W.heap[w.heap.size]? = some (.deferred (some []))) W1 hb1 ?_ ⟨hI1, hL1, hK1⟩).mono ?_
  · rintro k x W hx ⟨hi, hl, hk⟩
    have hlt : w.heap.size + 1 < W.heap.size := (Array.getElem?_eq_some_iff.1 hl).1
    refine ⟨fn, _, assign, body, run_yield hl (hps x), roundIn_of_wpIn hfn (hassign _ x W _ ⟨_, run_beginRound hl rfl, ?_⟩)⟩
    -- the record is busy while the body runs
    have hl2 : (W.putObj (w.heap.size + 1) (.loop { rec_ .ready none with state := .busy })).heap[w.heap.size + 1]? = some (.loop { rec_ .ready none with state := .busy }) := World.putObj_heap_same hlt
    have hk2 : (W.putObj (w.heap.size + 1) (.loop { rec_ .ready none with state := .busy })).heap[w.heap.size]? = some (.deferred (some [])) := (World.putObj_heap_other (by omega)).trans hk
    refine wpIn_mono (hbody _ k x _ hx (hI.putObj _ hi (by omega) hl rfl)) ?_
    rintro e a3 W3 hp
    cases e with
    | normal =>
      obtain ⟨hk3, hkp3, hi3⟩ := hp
      have hl3 := hk3.same _ _ (by omega) hl2 rfl
      have hlt3 := (Array.getElem?_eq_some_iff.1 hl3).1
      exact ⟨_, _, run_endRound none hl3, rfl, ⟨hI.putObj _ hi3 (by omega) hl3 rfl, World.putObj_heap_same hlt3, (World.putObj_heap_other (by omega)).trans (hk3.same _ _ (Nat.le_refl _) hk2 rfl)⟩, hKt (hKt (hKb _ _ _ _ (by omega) hl rfl) hkp3) (hKb _ _ _ _ (by omega) hl3 rfl)⟩
    | _ => exact hp.elim
  · rintro e W2 ⟨⟨v, rfl⟩, hi, hl, hk⟩
    exact ⟨none, _, run_endLoop hl (by simp [rec_]), hdone _ _ (Nat.le_refl _) (hI.putObj _ hi (by omega) hl rfl) ((World.putObj_heap_other (by omega)).trans hk)⟩
/-- below n₀ nothing has turned but the blocks of S -/
structure KB (S : List Nat) (n₀ : Nat) (W W' : World) : Prop where
  os : W'.os = W.os
  tape : W'.tape = W.tape
  output : W'.output = W.output
  size : W.heap.size ≤ W'.heap.size
  block : ∀ k, k < n₀ → k ∉ S → W'.heap[k]? = W.heap[k]?
theorem KB.refl (S : List Nat) (n₀ : Nat) (W : World) : KB S n₀ W W := ⟨rfl, rfl, rfl, Nat.le_refl _, fun _ _ _ => rfl⟩
theorem KB.trans {S : List Nat} {n₀ : Nat} {A B C : World} (h : KB S n₀ A B) (k : KB S n₀ B C) : KB S n₀ A C :=
  ⟨k.os.trans h.os, k.tape.trans h.tape, k.output.trans h.output, Nat.le_trans h.size k.size, fun i h1 h2 => (k.block i h1 h2).trans (h.block i h1 h2)⟩
theorem KB.grown {S : List Nat} {n₀ : Nat} {A B C : World} {row : Option Nat} (h : KB S n₀ A B) (hn : n₀ ≤ B.heap.size) (hg : B.grownBy C row) (hr : ∀ r, row = some r → r ∈ S ∨ n₀ ≤ r) : KB S n₀ A C :=
  h.trans ⟨hg.os, hg.tape, hg.output, hg.size, fun k h1 h2 => hg.block k (by omega) (fun e => by rcases hr k e.symm with h3 | h3; exact h2 h3; omega)⟩
theorem KB.of_keep {S S' : List Nat} {n₀ : Nat} {A B : World} (h : Keep S' A B) (hn : n₀ ≤ A.heap.size) (hs : ∀ x ∈ S', x ∈ S ∨ n₀ ≤ x) : KB S n₀ A B :=
  ⟨h.os, h.tape, h.output, h.size, fun k h1 h2 => h.block k (by omega) (fun hm => by rcases hs k hm with h3 | h3; exact h2 h3; omega)⟩
theorem KB.put {S : List Nat} {n₀ : Nat} {w : World} (hn : n₀ ≤ w.heap.size) (W : World) (l : Nat) (o o' : Obj) (hl : w.heap.size ≤ l) (h : W.heap[l]? = some o) (_ : o.isCells = false) : KB S n₀ W (W.putObj l o') :=
  (KB.refl S n₀ W).grown (by have := (Array.getElem?_eq_some_iff.1 h).1; omega) (grownBy_putObj' W l o') (fun r e => by cases e; right; omega)
theorem KB.keep {S : List Nat} {A B : World} (h : KB S A.heap.size A B) : Keep S A B := ⟨h.os, h.tape, h.output, h.size, h.block⟩
end Go.Proofs.Yteahcpkaagjkkaa
namespace Go.Proofs.Yteahcpkaagjkkaa
set_option linter.unusedVariables false
set_option linter.unusedSimpArgs false
open Go.ChangeShapes Go.WideShapes Go.ChangeAt Go.RowKit Go.Shelf

theorem KB.cell {S : List Nat} {n₀ : Nat} {A B : World} (h : KB S n₀ A B) {p : Addr} {v : Value} (hc : A.cell? p = some v) (hp : p.block < n₀) (hs : p.block ∉ S) : B.cell? p = some v :=
  (World.cell?_of_block (w := A) (h.block p.block hp hs)).trans hc
def down (L : Nat) : List Nat := (List.range L).reverse
theorem down_at (L k : Nat) (hk : k < L) : (down L)[k]? = some (L - 1 - k) := by
  unfold down
  rw [List.getElem?_reverse (by simpa using hk), List.length_range, List.getElem?_range (by omega)]
theorem down_get (L k x : Nat) (h : (down L)[k]? = some x) : k < L ∧ x = L - 1 - k := by
  have hk : k < L := by have := (List.getElem?_eq_some_iff.1 h).1; simpa [down] using this
  rw [down_at L k hk] at h
  exact ⟨hk, by simpa using h.symm⟩
theorem down_len (L : Nat) : (down L).length = L := by simp [down]
end Go.Proofs.Yteahcpkaagjkkaa
namespace Go.Proofs.Yteahcpkaagjkkaa
set_option linter.unusedVariables false
set_option linter.unusedSimpArgs false
open Go.ChangeShapes Go.WideShapes Go.ChangeAt Go.RowKit Go.Shelf
attribute [local go_sem] Oper.semAt_some

theorem backB_c (w : World) (a : Option Addr) (n c : Nat) : Calls Try.prog 62 #[.slice a n c] w fun e w' => e = .returned (.func (.func 91) #[] #[.pointer (some ⟨w.heap.size, 0, none⟩)]) ∧ w' = w.alloc (.cells #[.slice a n c] 121) := by
  go_enter Try.func62, Try.ntmps62
  go_wp2
  go_ret
  exact ⟨rfl, rfl⟩
set_option maxRecDepth 100000 in
set_option maxHeartbeats 2000000 in
theorem backB_steps (S : List Nat) (n₀ Bs gc L : Nat) (hL : L ≤ 100000) (V : Nat → Value) (w : World) (hn : n₀ ≤ w.heap.size) (hBn : Bs < n₀) (hgn : gc < n₀) (hBS : Bs ∉ S) (hgS : gc ∉ S)
    (hb : w.cell? ⟨Bs, 0, none⟩ = some (.slice (some ⟨gc, 0, none⟩) L L)) (hv : ∀ j, j < L → w.cell? ⟨gc, j, none⟩ = some (V j)) :
    StepsBy Try.prog 91 #[.pointer (some ⟨Bs, 0, none⟩)] (fun j : Nat => #[.int .i64 j, V j]) (KB S n₀) (down L) w := by
  intro l J W hW hY h0
  have hKW : KB S n₀ w W := ⟨hW.os, hW.tape, hW.output, hW.size, fun k h1 h2 => hW.block k (by omega)⟩
  refine callsIn_of_wp Try.func91 rfl trivial ?_ rfl
  simp only [Try.ntmps91, List.size_toArray, List.length_cons, List.length_nil, Nat.reduceAdd, Nat.reduceSub, Array.replicate_succ, Array.replicate_zero, List.push_toArray, List.append_toArray, List.nil_append, List.cons_append]
  have HB := Lib.hid (fun W' (k : KB S n₀ w W') => k.cell hb hBn hBS)
  have HV := Lib.hid (fun W' (k : KB S n₀ w W') j hj => k.cell (hv j hj) hgn hgS)
  have HY := Lib.hid hY
  have HK := Lib.hid hKW
  have hb1 := HB.out W hKW
  have e0 : IntKind.i64.wrap ((L : Int) - 1) = (L : Int) - 1 := by rw [IntKind.wrap_i64]; omega
  clear hb hv hY hKW hW
  gi_wp2
  clear e0 hb1
  gi_loopw [3] (fun i wr => ∃ (k : Nat) (z : Int), k ≤ L ∧ i = .int .i64 z ∧ Hid (z = (L : Int) - 1 - (k : Int)) ∧ J k wr ∧ Hid (KB S n₀ w wr)) (fun i _ => (intOf i + 1).toNat)
  case atStart => exact ⟨0, _, Nat.zero_le _, rfl, (show _ = _ by omega), h0, HK.out⟩
  case round =>
    clear h0 HK
    obtain ⟨k, z, hk, rfl, HZ, hJ, HK⟩ := hrel
    have hb2 := HB.out wr HK.out
    by_cases hlt : k < L
    · obtain ⟨j, hj⟩ : ∃ j : Nat, j = L - 1 - k := ⟨_, rfl⟩
      have hjL : j < L := by omega
      have hz : z = (j : Int) := by have := HZ.out; omega
      subst hz
      have c1 := HV.out wr HK.out j hjL
      obtain ⟨fn, tmps, assign, body, hy, hR⟩ := HY.out k j wr (by rw [down_at L k hlt, hj]) hJ
      have e1 : IntKind.i64.wrap ((j : Int) - 1) = (j : Int) - 1 := by rw [IntKind.wrap_i64]; omega
      have hjz : (j : Int) < (L : Int) := by omega
      clear hj
      gi_wp2
      refine hR.mono ?_
      rintro e W3 ⟨rfl, hJ3, hk3⟩
      have HK3 : Hid (KB S n₀ w W3) := HK.out.trans hk3
      have HZ3 : Hid ((j : Int) - 1 = (L : Int) - 1 - ((k + 1 : Nat) : Int)) := by have := HZ.out; unfold Hid; omega
      clear hk3 hb2 c1 hy hR hJ HK HZ
      gi_wp2
      go_roundw
      case rel => exact ⟨k + 1, _, by omega, rfl, HZ3, hJ3, HK3⟩
      case measure => simp [intOf]
    · obtain rfl : k = L := by omega
      have hz : z = -1 := by have := HZ.out; omega
      subst hz
      gi_wp2
      go_end0
      exact ⟨⟨_, rfl⟩, by rw [down_len]; exact hJ⟩
end Go.Proofs.Yteahcpkaagjkkaa
namespace Go.Proofs.Yteahcpkaagjkkaa
set_option linter.unusedVariables false
set_option linter.unusedSimpArgs false
open Go.ChangeShapes Go.WideShapes Go.ChangeAt Go.RowKit Go.Shelf

/-- the function gf, bound to lb, hands the values xs to yield, one by one, while yield says so; what holds between the rounds tells I -/
def StepsByL {α : Type} (P : Program) (gf : Nat) (lb : Array Value) (encs : α → Array Value) (Kp : World → World → Prop) (I : Nat → World → Prop) (xs : List α) (w : World) : Prop :=
  ∀ (l : Nat) (J : Nat → World → Prop) (X : World → Prop) (W : World), Below w.heap.size w W → (∀ k W', J k W' → I k W') →
    (∀ k x W1, xs[k]? = some x → J k W1 → YieldAt Fence.wide 3 P l (encs x) W1 fun e W' => (e = .returned (.bool true) ∧ J (k + 1) W' ∧ Kp W1 W') ∨ (e = .returned (.bool false) ∧ X W')) → J 0 W →
    CallsIn Fence.wide 4 P gf (#[.func (.yield l) #[] #[]] ++ lb) W fun e W' => (∃ v, e = .returned v) ∧ (J xs.length W' ∨ X W')
/-- how the body of a round is left: it goes on, or it returns -/
def stepPostL (B : Nat) (Kp : World → World → Prop) (I : Nat → World → Prop) (X : World → Prop) (k : Nat) (W : World) : Exit → Act → World → Prop
  | .normal, _, W' => KeepsFrom B W W' ∧ Kp W W' ∧ I k W'
  | .ret, _, W' => KeepsFrom B W W' ∧ X W'
  | _, _, _ => False
theorem range_stepsL {α : Type} {P : Program} {g : Operand} {ps : Array Tmp} {assign body : Code} {Q : Exit → Act → World → Prop} {a : Act} {w : World} {gf : Nat} {lb : Array Value} (hg : a.eval g = .func (.func gf) #[] lb)
    (eg : ∀ args w, (callFunc gf args).run P w = .ok (.enter gf args) w) {encs : α → Array Value} {Kp : World → World → Prop} {xs : List α}
    (I : Nat → World → Prop) (X : World → Prop) (hseq : StepsByL P gf lb encs Kp I xs w)
    (hKt : ∀ {A B C : World}, Kp A B → Kp B C → Kp A C) (hKb : ∀ (W : World) (l : Nat) (o o' : Obj), w.heap.size ≤ l → W.heap[l]? = some o → o.isCells = false → Kp W (W.putObj l o')) (hps : ∀ x, (encs x).size = ps.size)
    (hI : OwnFrom w.heap.size I) (hX : OwnFrom w.heap.size fun (_ : Unit) => X) (h0 : I 0 w) (a₁ : α → Act)
    (hassign : ∀ (l : Nat) (x : α) (W : World) (K : Act → World → Prop), K (a₁ x) W → assign.wpIn (Fence.wide.inRound l) 3 P (Exit.then K (fun _ _ _ => False)) { tmps := (ps.zip (encs x)).foldl (fun t (p, v) => t.setIfInBounds p v) a.tmps, defers := [] } W)
    (hbody : ∀ (l k : Nat) (x : α) (W : World), xs[k]? = some x → I k W → body.wpIn (Fence.wide.inRound l) 3 P (stepPostL w.heap.size Kp I X (k + 1) W) (a₁ x) W)
    (hdone : ∀ (D : Nat) (W : World), w.heap.size ≤ D → I xs.length W → W.heap[D]? = some (.deferred (some [])) → Q .normal { a with defers := { target := .collected D, args := #[] } :: a.defers } W)
    (hleft : ∀ (D : Nat) (W : World), w.heap.size ≤ D → X W → W.heap[D]? = some (.deferred (some [])) → Q .ret { a with defers := { target := .collected D, args := #[] } :: a.defers } W) :
    (Code.rangeFunc g ps assign body).wpIn Fence.wide 5 P Q a w := by
  refine wpIn_rangeFunc fun fn hfn => ?_
  let rec_ : LoopState → Option Code → Loop := fun st pe => { state := st, pending := pe, fn, tmps := a.tmps, params := ps, assign, body, defers := w.heap.size }
  have key : ∀ W1, W1 = (w.alloc (.deferred (some []))).alloc (.loop (rec_ .ready none)) → W1.heap[w.heap.size + 1]? = some (.loop (rec_ .ready none)) ∧ W1.heap[w.heap.size]? = some (.deferred (some [])) ∧ I 0 W1 ∧ Below w.heap.size w W1 := by
    rintro W1 rfl
    refine ⟨?_, (Below.heap_alloc _ _ _ (by simp)).trans (World.alloc_heap_new w _), hI.alloc _ (hI.alloc _ h0), ((Below.refl _ w).alloc (Nat.le_refl _) _).alloc (by simp) _⟩
    have := World.alloc_heap_new (w.alloc (.deferred (some []))) (.loop (rec_ .ready none))
    rwa [World.size_alloc] at this
  obtain ⟨W1, hW1⟩ : ∃ W1, W1 = (w.alloc (.deferred (some []))).alloc (.loop (rec_ .ready none)) := ⟨_, rfl⟩
  obtain ⟨hL1, hK1, hI1, hb1⟩ := key W1 hW1
  have hent := run_enterLoop_outer (P := P) (w := w) fn a.tmps ps assign body
  refine ⟨w.heap.size + 1, [{ target := .collected w.heap.size, args := #[] }], W1, { target := .fn (.func gf) lb, args := #[.func (.yield (w.heap.size + 1)) #[] #[]] }, W1, gf, #[.func (.yield (w.heap.size + 1)) #[] #[]] ++ lb, W1, by rw [hW1]; exact hent, ?_, fun _ _ => trivial, ?_, fun h => by simp [Fence.wide] at h, ?_⟩
  · simp only [resolve, hg]; simp [go_sem]
  · simp [invoke, go_sem, eg]
  refine (hseq (w.heap.size + 1) (fun k W => I k W ∧ W.heap[w.heap.size + 1]? = some (.loop (rec_ .ready none)) ∧ W.heap[w.heap.size]? = some (.deferred (some []))) (fun W => X W ∧ W.heap[w.heap.size + 1]? = some (.loop (rec_ .done (some .ret))) ∧ W.heap[w.heap.size]? = some (.deferred (some []))) W1 hb1 (fun _ _ h => h.1) ?_ ⟨hI1, hL1, hK1⟩).mono ?_
  · rintro k x W hx ⟨hi, hl, hk⟩
    have hlt : w.heap.size + 1 < W.heap.size := (Array.getElem?_eq_some_iff.1 hl).1
    refine ⟨fn, _, assign, body, run_yield hl (hps x), roundIn_of_wpIn hfn (hassign _ x W _ ⟨_, run_beginRound hl rfl, ?_⟩)⟩
    have hl2 : (W.putObj (w.heap.size + 1) (.loop { rec_ .ready none with state := .busy })).heap[w.heap.size + 1]? = some (.loop { rec_ .ready none with state := .busy }) := World.putObj_heap_same hlt
    have hk2 : (W.putObj (w.heap.size + 1) (.loop { rec_ .ready none with state := .busy })).heap[w.heap.size]? = some (.deferred (some [])) := (World.putObj_heap_other (by omega)).trans hk
    refine wpIn_mono (hbody _ k x _ hx (hI.putObj _ hi (by omega) hl rfl)) ?_
    rintro e a3 W3 hp
    cases e with
    | normal =>
      obtain ⟨hk3, hkp3, hi3⟩ := hp
      have hl3 := hk3.same _ _ (by omega) hl2 rfl
      have hlt3 := (Array.getElem?_eq_some_iff.1 hl3).1
      exact ⟨_, _, run_endRound none hl3, .inl ⟨rfl, ⟨hI.putObj _ hi3 (by omega) hl3 rfl, World.putObj_heap_same hlt3, (World.putObj_heap_other (by omega)).trans (hk3.same _ _ (Nat.le_refl _) hk2 rfl)⟩, hKt (hKt (hKb _ _ _ _ (by omega) hl rfl) hkp3) (hKb _ _ _ _ (by omega) hl3 rfl)⟩⟩
    | ret =>
      obtain ⟨hk3, hx3⟩ := hp
      have hl3 := hk3.same _ _ (by omega) hl2 rfl
      have hlt3 := (Array.getElem?_eq_some_iff.1 hl3).1
      exact ⟨_, _, run_endRound (some .ret) hl3, .inr ⟨rfl, hX.putObj (s := ()) _ hx3 (by omega) hl3 rfl, World.putObj_heap_same hlt3, (World.putObj_heap_other (by omega)).trans (hk3.same _ _ (Nat.le_refl _) hk2 rfl)⟩⟩
    | _ => exact hp.elim
  · rintro e W2 ⟨⟨v, rfl⟩, ⟨hi, hl, hk⟩ | ⟨hx, hl, hk⟩⟩
    · exact ⟨none, _, run_endLoop hl (by simp [rec_]), hdone _ _ (Nat.le_refl _) (hI.putObj _ hi (by omega) hl rfl) ((World.putObj_heap_other (by omega)).trans hk)⟩
    · exact ⟨some .ret, _, run_endLoop hl (by simp [rec_]), wpIn_ret (hleft _ _ (Nat.le_refl _) (hX.putObj (s := ()) _ hx (by omega) hl rfl) ((World.putObj_heap_other (by omega)).trans hk))⟩
end Go.Proofs.Yteahcpkaagjkkaa
namespace Go.Proofs.Yteahcpkaagjkkaa
set_option linter.unusedVariables false
set_option linter.unusedSimpArgs false
open Go.ChangeShapes Go.WideShapes Go.ChangeAt Go.RowKit Go.Shelf
attribute [local go_sem] Oper.semAt_some

set_option maxRecDepth 100000 in
set_option maxHeartbeats 2000000 in
theorem backBL_steps (Bs gc L : Nat) (hL : L ≤ 100000) (V : Value) (w : World) (I : Nat → World → Prop)
    (hb : ∀ k W', I k W' → W'.cell? ⟨Bs, 0, none⟩ = some (.slice (some ⟨gc, 0, none⟩) L L)) (hv : ∀ k W', I k W' → ∀ j, j + k < L → W'.cell? ⟨gc, j, none⟩ = some V) :
    StepsByL Try.prog 91 #[.pointer (some ⟨Bs, 0, none⟩)] (fun j : Nat => #[.int .i64 j, V]) (fun _ _ => True) I (down L) w := by
  intro l J X W hW hJI hY h0
  refine callsIn_of_wp Try.func91 rfl trivial ?_ rfl
  simp only [Try.ntmps91, List.size_toArray, List.length_cons, List.length_nil, Nat.reduceAdd, Nat.reduceSub, Array.replicate_succ, Array.replicate_zero, List.push_toArray, List.append_toArray, List.nil_append, List.cons_append]
  have HB := Lib.hid (fun k W' (h : J k W') => hb k W' (hJI k W' h))
  have HV := Lib.hid (fun k W' (h : J k W') => hv k W' (hJI k W' h))
  have HY := Lib.hid hY
  have hb1 := HB.out 0 W h0
  have e0 : IntKind.i64.wrap ((L : Int) - 1) = (L : Int) - 1 := by rw [IntKind.wrap_i64]; omega
  clear hb hv hY hW hJI
  gi_wp2
  clear e0 hb1
  gi_loopw [3] (fun i wr => ∃ (k : Nat) (z : Int), k ≤ L ∧ i = .int .i64 z ∧ Hid (z = (L : Int) - 1 - (k : Int)) ∧ J k wr) (fun i _ => (intOf i + 1).toNat)
  case atStart => exact ⟨0, _, Nat.zero_le _, rfl, (show _ = _ by omega), h0⟩
  case round =>
    clear h0
    obtain ⟨k, z, hk, rfl, HZ, hJ⟩ := hrel
    have hb2 := HB.out k wr hJ
    by_cases hlt : k < L
    · obtain ⟨j, hj⟩ : ∃ j : Nat, j = L - 1 - k := ⟨_, rfl⟩
      have hjL : j < L := by omega
      have hz : z = (j : Int) := by have := HZ.out; omega
      subst hz
      have c1 := HV.out k wr hJ j (by omega)
      obtain ⟨fn, tmps, assign, body, hy, hR⟩ := HY.out k j wr (by rw [down_at L k hlt, hj]) hJ
      have e1 : IntKind.i64.wrap ((j : Int) - 1) = (j : Int) - 1 := by rw [IntKind.wrap_i64]; omega
      have hjz : (j : Int) < (L : Int) := by omega
      clear hj
      gi_wp2
      refine hR.mono ?_
      rintro e W3 (⟨rfl, hJ3, -⟩ | ⟨rfl, hX3⟩)
      · have HZ3 : Hid ((j : Int) - 1 = (L : Int) - 1 - ((k + 1 : Nat) : Int)) := by have := HZ.out; unfold Hid; omega
        clear hb2 c1 hy hR hJ HZ
        gi_wp2
        go_roundw
        case rel => exact ⟨k + 1, _, by omega, rfl, HZ3, hJ3⟩
        case measure => simp [intOf]
      · clear hb2 c1 hy hR hJ HZ
        gi_wp2
        first
        | (go_end0; exact ⟨⟨_, rfl⟩, .inr hX3⟩)
        | (refine bodyPost_ret (results_none rfl _ _ _) rfl ?_; exact ⟨⟨_, rfl⟩, .inr hX3⟩)
    · obtain rfl : k = L := by omega
      have hz : z = -1 := by have := HZ.out; omega
      subst hz
      gi_wp2
      go_end0
      exact ⟨⟨_, rfl⟩, .inl (by rw [down_len]; exact hJ)⟩
end Go.Proofs.Yteahcpkaagjkkaa
