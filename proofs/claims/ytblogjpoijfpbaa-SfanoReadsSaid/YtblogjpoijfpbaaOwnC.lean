/- Rows of words (api.Code) of the call's own, and append onto them. -/
import Derived.Test.YtblogjpoijfpbaaAppend
import Derived.Test.YtblogjpoijfpbaaOpen
namespace Go.Proofs.Ytblogjpoijfpbaa
set_option linter.unusedVariables false
set_option linter.unusedSimpArgs false
open Go.ChangeShapes Go.WideShapes Go.ChangeAt Go.RowKit

def cells2 (c l : Nat → Nat) (k : Nat) : List Value := (List.range k).flatMap fun i => [.int .u32 (c i), .int .i64 (l i)]
theorem cells2_succ (c l : Nat → Nat) (k : Nat) : cells2 c l (k + 1) = cells2 c l k ++ [.int .u32 (c k), .int .i64 (l k)] := by simp [cells2, List.range_succ]
theorem cells2_len (c l : Nat → Nat) (k : Nat) : (cells2 c l k).length = k * 2 := by
  induction k with
  | zero => rfl
  | succ k ih => rw [cells2_succ, List.length_append, ih]; simp; omega
theorem cells2_get (c l : Nat → Nat) (k i : Nat) (h : i < k) : (cells2 c l k)[i * 2]? = some (.int .u32 (c i)) ∧ (cells2 c l k)[i * 2 + 1]? = some (.int .i64 (l i)) := by
  induction k with
  | zero => omega
  | succ k ih =>
    rw [cells2_succ]
    by_cases e : i = k
    · subst e
      have := cells2_len c l i
      constructor
      · rw [List.getElem?_append_right (by omega), this]; simp
      · rw [List.getElem?_append_right (by omega), this, show i * 2 + 1 - i * 2 = 1 by omega]; simp
    · have := cells2_len c l k
      rw [List.getElem?_append_left (by omega), List.getElem?_append_left (by omega)]
      exact ih (by omega)
/-- v is a row of k words of the call's own -/
def OwnC (w : World) (v : Value) (c l : Nat → Nat) (k : Nat) : Prop := w.ownsRow 0 61 2 v k (cells2 c l k)
theorem OwnC.nil (w : World) (c l : Nat → Nat) : OwnC w (.slice none 0 0) c l 0 := World.ownsRow_nil w 0 _ 2
theorem OwnC.keep {w w' : World} {v : Value} {c l : Nat → Nat} {n : Nat} {S : List Nat} (h : OwnC w v c l n) (k : Keep S w w') (hb : ∀ b, v.ownBlock = some b → b ∉ S) : OwnC w' v c l n := by
  refine ⟨h.1, ?_⟩
  rcases h.2 with h2 | ⟨g, cap, cur, rfl, hb0, hh, r⟩
  · exact .inl h2
  · exact .inr ⟨g, cap, cur, rfl, hb0, (k.block g (lt_of_block hh) (hb g rfl)).trans hh, r⟩
theorem OwnC.lt {w : World} {v : Value} {c l : Nat → Nat} {n : Nat} (h : OwnC w v c l n) : ∀ b, v.ownBlock = some b → b < w.heap.size := fun b hb => (World.ownsRow.lt h b hb).2
theorem OwnC.sts {w : World} {v : Value} {c l : Nat → Nat} {n : Nat} (h : OwnC w v c l n) : Sts w v n 2 (fun i j => if j = 0 then .int .u32 (c i) else .int .i64 (l i)) := by
  rcases h.2 with ⟨rfl, hn⟩ | ⟨g, cap, cur, rfl, _, hh, hc, hm, hs, ht⟩
  · subst hn
    exact ⟨none, 0, rfl, by simp, by simp, fun _ => rfl, fun x hx => nomatch hx⟩
  · refine ⟨some ⟨g, 0, none⟩, cap, rfl, hc, hm, (fun h => nomatch h), fun x hx i hi j hj => ?_⟩
    obtain rfl : (⟨g, 0, none⟩ : Addr) = x := by simpa using hx
    have e : ∀ m, ((⟨g, 0, none⟩ : Addr).add m) = ⟨g, m, none⟩ := fun m => by cases m <;> simp [Addr.add]
    rw [e, cell_of_row w g _ cur _ (0, 0) hh]
    have h2 := cells2_get c l n i hi
    rw [← ht, List.getElem?_take, List.getElem?_take, if_pos (by omega), if_pos (by omega)] at h2
    obtain rfl | rfl : j = 0 ∨ j = 1 := by omega
    · simpa using h2.1
    · simpa using h2.2
theorem infoC : (Try.prog.info? 61).map (fun i => (i.zero.map (·.cells.size), i.size, i.bytes)) = some (some 2, 2, 16) := by kernel_rfl
/-- append of one word, as a step of a region that draws -/
theorem step_appendC {w : World} {ops : Array Oper} {o : Oper} {a : Act} {K : Act → World → Prop} {Q : Exit → Act → World → Prop} {E : Prop} (s x : Operand) (hgd : o.guard = none)
    (ho : o.op = .call { callee := .builtin .append, args := #[s, x], argTypes := #[24, 24] })
    (v : Value) (c l : Nat → Nat) (n : Nat) (hs : a.eval s = v) (hown : OwnC w v c l n) (g : Nat) (hx : a.eval x = .slice (some ⟨g, 0, none⟩) 1 1) (hsrc : Blk w g #[.int .u32 (c n), .int .i64 (l n)] 61) (hlen : n ≤ 100000)
    (h : ∀ v' w', OwnC w' v' c l (n + 1) → Keep v.ownBlock.toList w w' → (∀ b, v'.ownBlock = some b → v.ownBlock = some b ∨ b = w.heap.size) → K (a.put o.dst v') w') :
    if Region.wanted o (yielded ops a.tmps) = true then Oper.wp Try.prog o a w K Q else E := by
  have hw : Region.wanted o (yielded ops a.tmps) = true := by simp [Region.wanted, hgd]
  rw [if_pos hw]
  obtain ⟨i0, hi, hzz⟩ := Option.map_eq_some_iff.1 infoC
  simp only [Prod.mk.injEq] at hzz
  obtain ⟨hz, hz1, hz2⟩ := hzz
  obtain ⟨z, hz, hzc⟩ := Option.map_eq_some_iff.1 hz
  have hS : Src w 2 (.slice (some ⟨g, 0, none⟩) 1 1) 1 [.int .u32 (c n), .int .i64 (l n)] := by
    refine ⟨rfl, by simp [Value.oneCell'], .inr ⟨⟨g, 0, none⟩, 1, rfl, fun j u hu => ?_⟩⟩
    have e : ∀ m, ((⟨g, 0, none⟩ : Addr).add m) = ⟨g, m, none⟩ := fun m => by cases m <;> simp [Addr.add]
    rw [e]
    exact hsrc.cell j u (by simpa using hu)
  obtain ⟨v', w', hr, h2, h3, h4, h5⟩ := run_append_any (P := Try.prog) w 24 o.type 61 i0 z 2 16 Try.underlying24 hi hz hz1 hz2 hzc (by decide) v n (cells2 c l n) hown (.slice (some ⟨g, 0, none⟩) 1 1) 1 [.int .u32 (c n), .int .i64 (l n)] hS (by unfold maxLen; omega) (by omega)
  unfold Oper.wp execOp
  simp only [ho, resolve, invoke, builtin, Sem.run_bind, Sem.run_pure, Result.andThen_ok, List.map_toArray, List.map_cons, List.map_nil, hs, hx, hr]
  exact h v' w' (by unfold OwnC; rw [cells2_succ]; exact h2) ((Keep.refl _ _).grown h3 (fun k hk => .inl (by simp [hk]))) h4
end Go.Proofs.Ytblogjpoijfpbaa
