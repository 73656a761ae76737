/- Rows of forks (two numbers of sixteen bits each) of a call's own: their cells, stores into them, append onto them. -/
import Derived.Test.YtblogjpoijfpbaaSfTrie
import Derived.Test.YtblogjpoijfpbaaAppend
import Derived.Test.YtblogjpoijfpbaaOpen
import Derived.Laws.OwnMore
import Derived.Laws.MakeOwn
namespace Go.Proofs.Ytblogjpoijfpbaa
set_option linter.unusedVariables false
set_option linter.unusedSimpArgs false
open Go.ChangeShapes Go.WideShapes Go.ChangeAt Go.RowKit

def cellsF (F : Nat → Nat → Int) (n : Nat) : List Value := (List.range n).flatMap fun j => [.int .i16 (F j 0), .int .i16 (F j 1)]
theorem cellsF_succ (F : Nat → Nat → Int) (n : Nat) : cellsF F (n + 1) = cellsF F n ++ [.int .i16 (F n 0), .int .i16 (F n 1)] := by simp [cellsF, List.range_succ]
theorem cellsF_len (F : Nat → Nat → Int) (n : Nat) : (cellsF F n).length = n * 2 := by
  induction n with
  | zero => rfl
  | succ n ih => rw [cellsF_succ, List.length_append, ih]; simp; omega
theorem cellsF_get (F : Nat → Nat → Int) (n j b : Nat) (h : j < n) (hb : b < 2) : (cellsF F n)[j * 2 + b]? = some (.int .i16 (F j b)) := by
  induction n with
  | zero => omega
  | succ n ih =>
    rw [cellsF_succ]
    have hl := cellsF_len F n
    by_cases e : j = n
    · subst e
      rw [List.getElem?_append_right (by omega), hl]
      obtain rfl | rfl : b = 0 ∨ b = 1 := by omega
      · simp
      · rw [show j * 2 + 1 - j * 2 = 1 by omega]; simp
    · rw [List.getElem?_append_left (by omega)]
      exact ih (by omega)
theorem cellsF_set (F : Nat → Nat → Int) (n j b : Nat) (v : Int) (h : j < n) (hb : b < 2) : (cellsF F n).set (j * 2 + b) (.int .i16 v) = cellsF (upd F j b v) n := by
  apply List.ext_getElem?
  intro i
  by_cases hi : i < n * 2
  · obtain ⟨q, c, hc, rfl⟩ : ∃ q c, c < 2 ∧ i = q * 2 + c := ⟨i / 2, i % 2, Nat.mod_lt _ (by decide), by omega⟩
    rw [cellsF_get (upd F j b v) n q c (by omega) hc, List.getElem?_set]
    by_cases e : q = j ∧ c = b
    · obtain ⟨rfl, rfl⟩ := e
      rw [if_pos rfl, if_pos (by rw [cellsF_len]; omega), upd_same]
    · rw [if_neg (by omega), cellsF_get F n q c (by omega) hc, upd_other _ _ _ _ _ _ e]
  · rw [List.getElem?_eq_none (by rw [List.length_set, cellsF_len]; omega), List.getElem?_eq_none (by rw [cellsF_len]; omega)]
/-- v is a row of n forks of the call's own -/
def OwnF (w : World) (v : Value) (F : Nat → Nat → Int) (n : Nat) : Prop := w.ownsRow 0 84 2 v n (cellsF F n)
theorem OwnF.keep {w w' : World} {v : Value} {F : Nat → Nat → Int} {n : Nat} {S : List Nat} (h : OwnF w v F n) (k : Keep S w w') (hb : ∀ b, v.ownBlock = some b → b ∉ S) : OwnF w' v F n := by
  refine ⟨h.1, ?_⟩
  rcases h.2 with h2 | ⟨g, cap, cur, rfl, hb0, hh, r⟩
  · exact .inl h2
  · exact .inr ⟨g, cap, cur, rfl, hb0, (k.block g (lt_of_block hh) (hb g rfl)).trans hh, r⟩
theorem OwnF.lt {w : World} {v : Value} {F : Nat → Nat → Int} {n : Nat} (h : OwnF w v F n) : ∀ b, v.ownBlock = some b → b < w.heap.size := fun b hb => (World.ownsRow.lt h b hb).2
theorem OwnF.shape {w : World} {v : Value} {F : Nat → Nat → Int} {n : Nat} (h : OwnF w v F n) (h0 : 0 < n) : ∃ g cap, v = .slice (some ⟨g, 0, none⟩) n cap ∧ n ≤ cap ∧ cap ≤ maxLen := by
  rcases h.2 with ⟨_, h2⟩ | ⟨g, cap, cur, rfl, _, _, h1, h2, _⟩
  · omega
  · exact ⟨g, cap, rfl, h1, h2⟩
section
variable {w : World} {g n cap : Nat} {F : Nat → Nat → Int}
theorem OwnF.cell (h : OwnF w (.slice (some ⟨g, 0, none⟩) n cap) F n) (j b : Nat) (hj : j < n) (hb : b < 2) : w.cell? ⟨g, j * 2 + b, none⟩ = some (.int .i16 (F j b)) := by
  rw [World.ownsRow.cellAt h (j * 2 + b) (by omega), cellsF_get F n j b hj hb]
theorem OwnF.free (h : OwnF w (.slice (some ⟨g, 0, none⟩) n cap) F n) (j : Nat) : w.frozen? ⟨g, j, none⟩ = false := World.ownsRow.frozenAt h j
theorem OwnF.store (h : OwnF w (.slice (some ⟨g, 0, none⟩) n cap) F n) (j b : Nat) (v : Int) (hj : j < n) (hb : b < 2) : OwnF (w.setCell ⟨g, j * 2 + b, none⟩ (.int .i16 v)) (.slice (some ⟨g, 0, none⟩) n cap) (upd F j b v) n := by
  have := (World.ownsRow.stored h (j * 2 + b) (.int .i16 v)).1
  rw [cellsF_set F n j b v hj hb] at this
  exact this
end
theorem infoF : (Try.prog.info? 84).map (fun i => (i.zero.map (·.cells), i.size, i.bytes)) = some (some #[.int .i16 0, .int .i16 0], 2, 4) := by kernel_rfl
theorem run_make_forks (w : World) (c : Nat) (hc1 : 1 ≤ c) (hc : c ≤ 256) : (Instr.makeSlice 67 (.int .i64 1) (.int .i64 (c : Int))).run Try.prog w = .ok (.slice (some ⟨w.heap.size, 0, none⟩) 1 c) (w.alloc (.cells (madeCells #[.int .i16 0, .int .i16 0] (c * 2)) 84)) := by
  obtain ⟨i, hi, hzz⟩ := Option.map_eq_some_iff.1 infoF
  simp only [Prod.mk.injEq] at hzz
  obtain ⟨hz, hs, hb⟩ := hzz
  obtain ⟨z, hz, hzc⟩ := Option.map_eq_some_iff.1 hz
  have := run_make (P := Try.prog) (w := w) 67 84 i z Try.underlying67 hi hz .i64 .i64 1 c (by omega) (by omega) (by rw [hb]; omega) (by omega)
  rw [hzc, hs] at this
  exact this
theorem OwnF.made (w : World) (c : Nat) (hc1 : 1 ≤ c) (hc : c ≤ 256) : OwnF (w.alloc (.cells (madeCells #[.int .i16 0, .int .i16 0] (c * 2)) 84)) (.slice (some ⟨w.heap.size, 0, none⟩) 1 c) (fun _ _ => 0) 1 := by
  refine ⟨rfl, .inr ⟨w.heap.size, c, _, rfl, Nat.zero_le _, heap_alloc_new w _, hc1, by unfold maxLen; omega, by rw [size_madeCells], ?_⟩⟩
  obtain ⟨d, rfl⟩ : ∃ d, c = d + 1 := ⟨c - 1, by omega⟩
  have e : ∀ j, j < (d + 1) * 2 → (madeCells #[.int .i16 0, .int .i16 0] ((d + 1) * 2))[j]? = some (.int .i16 0) := by
    intro j hj
    unfold madeCells
    rw [Array.getElem?_map, Array.getElem?_range, if_pos hj]
    have : j % 2 = 0 ∨ j % 2 = 1 := by omega
    rcases this with h | h <;> simp [h]
  have e0 := e 0 (by omega)
  have e1 := e 1 (by omega)
  apply List.ext_getElem?
  intro i
  rw [List.getElem?_take]
  by_cases hi : i < 1 * 2
  · rw [if_pos hi]
    obtain rfl | rfl : i = 0 ∨ i = 1 := by omega
    · rw [Array.getElem?_toList, e0]; rfl
    · rw [Array.getElem?_toList, e1]; rfl
  · rw [if_neg hi, List.getElem?_eq_none (by rw [cellsF_len]; omega)]
/-- append of one fork, as a step of a region that draws -/
theorem step_appendF {w : World} {ops : Array Oper} {o : Oper} {a : Act} {K : Act → World → Prop} {Q : Exit → Act → World → Prop} {E : Prop} (s x : Operand) (hgd : o.guard = none)
    (ho : o.op = .call { callee := .builtin .append, args := #[s, x], argTypes := #[67, 67] })
    (v : Value) (F : Nat → Nat → Int) (n : Nat) (hs : a.eval s = v) (hown : OwnF w v F n) (hz : F n 0 = 0 ∧ F n 1 = 0) (g : Nat) (hx : a.eval x = .slice (some ⟨g, 0, none⟩) 1 1) (hsrc : Blk w g #[.int .i16 0, .int .i16 0] 84) (hlen : n ≤ 100000)
    (h : ∀ v' w', OwnF w' v' F (n + 1) → Keep v.ownBlock.toList w w' → (∀ b, v'.ownBlock = some b → v.ownBlock = some b ∨ b = w.heap.size) → K (a.put o.dst v') w') :
    if Region.wanted o (yielded ops a.tmps) = true then Oper.wp Try.prog o a w K Q else E := by
  have hw : Region.wanted o (yielded ops a.tmps) = true := by simp [Region.wanted, hgd]
  rw [if_pos hw]
  obtain ⟨i0, hi, hzz⟩ := Option.map_eq_some_iff.1 infoF
  simp only [Prod.mk.injEq] at hzz
  obtain ⟨hz0, hz1, hz2⟩ := hzz
  obtain ⟨z, hz0, hzc⟩ := Option.map_eq_some_iff.1 hz0
  have hS : Src w 2 (.slice (some ⟨g, 0, none⟩) 1 1) 1 [.int .i16 (F n 0), .int .i16 (F n 1)] := by
    refine ⟨rfl, by simp [Value.oneCell'], .inr ⟨⟨g, 0, none⟩, 1, rfl, fun j u hu => ?_⟩⟩
    have e : ∀ m, ((⟨g, 0, none⟩ : Addr).add m) = ⟨g, m, none⟩ := fun m => by cases m <;> simp [Addr.add]
    rw [e]
    rw [hz.1, hz.2] at hu
    exact hsrc.cell j u (by simpa using hu)
  obtain ⟨v', w', hr, h2, h3, h4, h5⟩ := run_append_any (P := Try.prog) w 67 o.type 84 i0 z 2 4 Try.underlying67 hi hz0 hz1 hz2 (by rw [hzc]; rfl) (by decide) v n (cellsF F n) hown (.slice (some ⟨g, 0, none⟩) 1 1) 1 [.int .i16 (F n 0), .int .i16 (F n 1)] hS (by unfold maxLen; omega) (by omega)
  unfold Oper.wp execOp
  simp only [ho, resolve, invoke, builtin, Sem.run_bind, Sem.run_pure, Result.andThen_ok, List.map_toArray, List.map_cons, List.map_nil, hs, hx, hr]
  exact h v' w' (by unfold OwnF; rw [cellsF_succ]; exact h2) ((Keep.refl _ _).grown h3 (fun k hk => .inl (by simp [hk]))) h4
end Go.Proofs.Ytblogjpoijfpbaa
