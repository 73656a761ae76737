/- Texts put together: Ints -/
import Derived.Test.YtkefidbokeifdaaPart3
import Derived.Test.YtkefidbokeifdaaPart2
namespace Go.Proofs.Ytkefidbokeifdaa
set_option linter.unusedVariables false
set_option linter.unusedSimpArgs false
open Go.ChangeShapes Go.WideShapes Go.ChangeAt Go.RowKit

/-- a list's numbers as they are -/
def zn (zs : List Int) (i : Nat) : Int := zs.getD i 0
theorem zn_get (zs : List Int) (i : Nat) (h : i < zs.length) : zn zs i = zs[i] := by simp [zn, h]
theorem Is.sh {k : IntKind} {w : World} {v : Value} {zs : List Int} (h : Is k w v zs) : ∃ a cap, v = .slice a zs.length cap ∧ zs.length ≤ 9223372036854775807 := by
  obtain ⟨a, cap, rfl, h1, h2, _⟩ := h
  unfold maxLen at h2
  exact ⟨a, cap, rfl, by omega⟩
theorem refints_c (w : World) (v : Value) (zs : List Int) (n : Nat) (hn : n ≤ 9223372036854775807) (h : Is .i64 w v zs) : Calls Try.prog 14 #[v, .int .i64 n] w fun e w' => ∃ v', e = .returned v' ∧ Is .i64 w v' (zs.take n) ∧ v'.ownBlock = v.ownBlock ∧ w = w' := by
  have h0 := h
  obtain ⟨a, cap, rfl, h1, h2, h3, h4, h5⟩ := h
  unfold maxLen at h2
  by_cases hl : n < zs.length
  · have H4 := Lib.hid h4
    clear h4 h0
    go_enter Try.func14, Try.ntmps14
    go_wp2
    go_ret
    have e : (zs.take n).length = n := by rw [List.length_take]; omega
    refine ⟨_, rfl, ⟨a, cap, by rw [e]; rfl, by omega, by unfold maxLen; omega, h3, fun x hx i hi => ?_, fun z hz => h5 z (List.mem_of_mem_take hz)⟩, (by cases a <;> rfl), rfl⟩
    rw [e] at hi
    rw [H4.out x hx i (by omega)]; simp
  · have ht : Hid (zs.take n = zs) := List.take_of_length_le (by omega)
    clear h4
    go_enter Try.func14, Try.ntmps14
    go_wp2
    go_ret
    exact ⟨_, rfl, by rw [ht.out]; exact h0, rfl, rfl⟩
def ints64 (l : List Int) : List Value := l.map fun c => .int .i64 c
/-- v is a slice of numbers of the call's own, onto which it may append -/
def OwnI (w : World) (v : Value) (l : List Int) : Prop := w.ownsRow 0 3 1 v l.length (ints64 l) ∧ ∀ z ∈ l, (Lit.int .i64 z).wf = true
theorem OwnI.is {w : World} {v : Value} {l : List Int} (h : OwnI w v l) : Is .i64 w v l := by
  obtain ⟨h, hz⟩ := h
  rcases h.2 with ⟨rfl, hn⟩ | ⟨g, cap, cur, rfl, _, hh, hc, hm, hs, ht⟩
  · obtain rfl : l = [] := List.eq_nil_of_length_eq_zero hn
    exact ⟨none, 0, rfl, by simp, by simp, fun _ => rfl, (fun x hx => nomatch hx), by simp⟩
  · refine ⟨some ⟨g, 0, none⟩, cap, rfl, hc, hm, (fun h => nomatch h), fun x hx i hi => ?_, hz⟩
    obtain rfl : (⟨g, 0, none⟩ : Addr) = x := by simpa using hx
    have e : (⟨g, 0, none⟩ : Addr).add i = ⟨g, i, none⟩ := by unfold Addr.add; split <;> simp_all
    rw [e, cell_of_row w g i cur _ (0, 0) hh]
    have : (ints64 l)[i]? = some (.int .i64 l[i]) := by simp [ints64, hi]
    rw [← ht, List.getElem?_take] at this
    split at this
    · simpa using this
    · cases this
theorem OwnI.keep {w w' : World} {v : Value} {l : List Int} {S : List Nat} (h : OwnI w v l) (k : Keep S w w') (hb : ∀ b, v.ownBlock = some b → b ∉ S) : OwnI w' v l := by
  refine ⟨⟨h.1.1, ?_⟩, h.2⟩
  rcases h.1.2 with h2 | ⟨g, cap, cur, rfl, hb0, hh, r⟩
  · exact .inl h2
  · exact .inr ⟨g, cap, cur, rfl, hb0, (k.block g (lt_of_block hh) (hb g rfl)).trans hh, r⟩
theorem OwnI.lt {w : World} {v : Value} {l : List Int} (h : OwnI w v l) : ∀ b, v.ownBlock = some b → b < w.heap.size := fun b hb => (World.ownsRow.lt h.1 b hb).2
theorem OwnI.nil (w : World) : OwnI w (.slice none 0 0) [] := ⟨World.ownsRow_nil w 0 _ 1, by simp⟩
theorem info64 : (Try.prog.info? 3).map (fun i => (i.zero, i.size, i.bytes)) = some (some (.int .i64 0), 1, 8) := by kernel_rfl
theorem Is.src {w : World} {v : Value} {l : List Int} (h : Is .i64 w v l) : Src w 1 v l.length (ints64 l) := by
  obtain ⟨a, cap, rfl, h1, h2, h3, h4, _⟩ := h
  refine ⟨by simp [ints64], by simp [ints64, Value.oneCell'], ?_⟩
  cases a with
  | none =>
    obtain rfl := h3 rfl
    left; have : l.length = 0 := by omega
    simp [this]
  | some x =>
    refine .inr ⟨x, cap, rfl, fun j u hu => ?_⟩
    have hj : j < l.length := by
      have := (List.getElem?_eq_some_iff.1 hu).1; simpa [ints64] using this
    rw [h4 x rfl j hj]
    simpa [ints64, hj] using hu
theorem ints64_append (a b : List Int) : ints64 (a ++ b) = ints64 a ++ ints64 b := by simp [ints64]
/-- append of numbers -/
theorem wpList_appendI {w : World} {ops : Array Oper} {rest : List Oper} {o : Oper} {a : Act} {Q : Exit → Act → World → Prop} (s x : Operand) (hgd : o.guard = none)
    (ho : o.op = .call { callee := .builtin .append, args := #[s, x], argTypes := #[33, 33] })
    (v : Value) (l : List Int) (hs : a.eval s = v) (hown : OwnI w v l) (xv : Value) (l2 : List Int) (hx : a.eval x = xv) (hsrc : Is .i64 w xv l2) (hlen : l.length + l2.length ≤ 17592186044416)
    (h : ∀ v' w', OwnI w' v' (l ++ l2) → Keep v.ownBlock.toList w w' → (∀ b, v'.ownBlock = some b → v.ownBlock = some b ∨ b = w.heap.size) → (v ≠ .slice none 0 0 → v' ≠ .slice none 0 0) → wpList Try.prog ops Q rest (a.put o.dst v') w') : wpList Try.prog ops Q (o :: rest) a w := by
  obtain ⟨i0, hi, hz0, hz1, hz2⟩ := info_parts info64
  refine wpList_append_any hgd s x 33 ho 3 i0 (.int .i64 0) 1 8 Try.underlying33 hi hz0 hz1 hz2 rfl (by decide) v l.length (ints64 l) hs hown.1 xv l2.length (ints64 l2) hx hsrc.src (by unfold maxLen; omega) (by omega) ?_
  intro v' w' h1 h2 h3 h4
  refine h v' w' ⟨by rw [List.length_append, ints64_append]; exact h1, fun z hz => ?_⟩ h2 h3 h4
  rcases List.mem_append.1 hz with h5 | h5
  · exact hown.2 z h5
  · obtain ⟨_, _, _, _, _, _, _, h6⟩ := hsrc
    exact h6 z h5
end Go.Proofs.Ytkefidbokeifdaa
