/- Texts put together: CopyB -/
import Derived.Test.YthmojejiaeninaaGreatPart19
import Derived.Laws.CopyRow
import Derived.Laws.CopyOwn
namespace Go.Proofs.YthmojejiaeninaaGreat
set_option linter.unusedVariables false
set_option linter.unusedSimpArgs false
open Go.ChangeShapes Go.WideShapes Go.ChangeAt Go.RowKit

theorem size8' : (Tryz.prog.info? 5).map (·.size) = some 1 := by
  obtain ⟨i, hi, h⟩ : ∃ i, Tryz.prog.info? 5 = some i ∧ (some (i.zero, i.size, i.bytes)) = some (some (.int .u8 0), 1, 1) := by
    have := info8
    cases h : Tryz.prog.info? 5 with
    | none => rw [h] at this; cases this
    | some i => rw [h] at this; exact ⟨i, rfl, this⟩
  simp at h
  rw [hi]; simp [h.2.1]
theorem take_3 {α : Type} (A B D : List α) (n : Nat) (h : A.length + B.length ≤ n) : (A ++ B ++ D).take n = A ++ (B ++ D.take (n - (A.length + B.length))) := by
  rw [List.take_append, List.take_of_length_le (by rw [List.length_append]; exact h), List.length_append, List.append_assoc]
theorem run_copyB (w : World) (ty : TypeId) (g L cap : Nat) (l : List UInt8) (o dLen dCap : Nat) (sv : Value) (m : List UInt8) (hown : OwnB w (.slice (some ⟨g, 0, none⟩) L cap) l) (ho : o + dLen = l.length) (hs : Bs w sv m) :
    ∃ w', (Builtin.copy_ #[22, 22] ty #[.slice (some ⟨g, o, none⟩) dLen dCap, sv]).run Tryz.prog w = .ok (goInt ((Nat.min m.length dLen : Nat) : Int)) w' ∧
      OwnB w' (.slice (some ⟨g, 0, none⟩) L cap) (l.take o ++ (m.take dLen ++ l.drop (o + min m.length dLen))) ∧ Keep [g] w w' := by
  rcases hown.2 with ⟨h', _⟩ | ⟨g', cap', cur, h', hg0, hg, hc, hm, hsz, ht⟩
  · simp at h'
  · simp only [Value.slice.injEq, Option.some.injEq, Addr.mk.injEq] at h'
    obtain ⟨⟨rfl, _⟩, rfl, rfl⟩ := h'
    have hlen : (l.take o ++ (m.take dLen ++ l.drop (o + min m.length dLen))).length = l.length := by simp; omega
    have hsl := hs.src
    obtain ⟨hl, h1, ⟨rfl, hm0⟩ | ⟨ad, c, rfl, hcell⟩⟩ := hsl
    · have hm1 : m = [] := List.eq_nil_of_length_eq_zero hm0
      subst hm1
      refine ⟨w, run_copy_nil (P := Tryz.prog) w _ _ ty 5 _ _ _ Tryz.underlying22 (by rw [size8']; rfl), by simpa using hown, Keep.refl _ _⟩
    · have hcs : ((ints8 m).take dLen).length = Nat.min m.length dLen := by simp [ints8, Nat.min_comm]
      have hfit : o + ((ints8 m).take dLen).length ≤ cur.size := by
        rw [hcs, hsz]; have : Nat.min m.length dLen ≤ dLen := Nat.min_le_right _ _; omega
      have hrun := run_copy_row (P := Tryz.prog) w 22 22 ty 5 g o dLen dCap ad m.length c cur _ ((ints8 m).take dLen) Tryz.underlying22 size8' hg hcs
        (fun j v hv => hcell j v (by
          rw [List.getElem?_take] at hv
          split at hv
          · exact hv
          · cases hv)) hfit (fun v hv => h1 v (List.mem_of_mem_take hv))
      have hcl : cur.toList.length = cap := by simpa using hsz
      have e1 : ((cur.toList.take o ++ (ints8 m).take dLen ++ cur.toList.drop (o + ((ints8 m).take dLen).length)).toArray).size = cap := by
        simp only [List.size_toArray, List.length_append, List.length_take, List.length_drop, hcl]
        have : (ints8 m).length = m.length := by simp [ints8]
        omega
      have e2 : (cur.toList.take o ++ (ints8 m).take dLen ++ cur.toList.drop (o + ((ints8 m).take dLen).length)).take l.length = ints8 (l.take o ++ (m.take dLen ++ l.drop (o + min m.length dLen))) := by
        have ht' : cur.toList.take l.length = ints8 l := by simpa using ht
        have hml : (ints8 m).length = m.length := by simp [ints8]
        have hA : cur.toList.take o = ints8 (l.take o) := by
          have : (cur.toList.take l.length).take o = (ints8 l).take o := by rw [ht']
          rw [List.take_take, Nat.min_eq_left (by omega)] at this
          rw [this]; simp [ints8]
        have hB : (cur.toList.drop (o + ((ints8 m).take dLen).length)).take (l.length - (o + ((ints8 m).take dLen).length)) = ints8 (l.drop (o + min m.length dLen)) := by
          rw [← List.drop_take, ht', List.length_take, hml, Nat.min_comm]; simp [ints8]
        have hAl : (cur.toList.take o).length = o := by rw [List.length_take, hcl]; omega
        rw [take_3 _ _ _ _ (by rw [hAl, List.length_take, hml]; omega), hAl, hB, hA]
        simp [ints8]
      rw [hcs] at e1 e2
      refine ⟨_, by rw [hrun, hcs], ⟨by rw [hlen]; simp [ints8]; omega, .inr ⟨g, cap, (cur.toList.take o ++ (ints8 m).take dLen ++ cur.toList.drop (o + m.length.min dLen)).toArray, by rw [hlen], hg0, setRow_heap w g _ _ _ _ hg, by rw [hlen]; exact hc, hm, by rw [e1]; omega, ?_⟩⟩, Keep.setRow _⟩
      rw [hlen, ← e2]; simp
/-- copy of bytes into an owned row -/
theorem wpList_copyB {w : World} {ops : Array Oper} {rest : List Oper} {o : Oper} {a : Act} {Q : Exit → Act → World → Prop} (d s : Operand) (hgd : o.guard = none)
    (ho : o.op = .call { callee := .builtin .copy, args := #[d, s], argTypes := #[22, 22] })
    (g L cap : Nat) (l : List UInt8) (off dLen dCap : Nat) (hown : OwnB w (.slice (some ⟨g, 0, none⟩) L cap) l) (hoff : off + dLen = l.length) (hd : a.eval d = .slice (some ⟨g, off, none⟩) dLen dCap) (sv : Value) (m : List UInt8) (hs : a.eval s = sv) (hsrc : Bs w sv m)
    (h : ∀ w', OwnB w' (.slice (some ⟨g, 0, none⟩) L cap) (l.take off ++ (m.take dLen ++ l.drop (off + min m.length dLen))) → Keep [g] w w' → wpList Tryz.prog ops Q rest (a.put o.dst (goInt ((Nat.min m.length dLen : Nat) : Int))) w') : wpList Tryz.prog ops Q (o :: rest) a w := by
  obtain ⟨w', hrun, h1, h2⟩ := run_copyB w o.type g L cap l off dLen dCap sv m hown hoff hsrc
  refine wpList_plain hgd fun K hK => ?_
  unfold Oper.wp
  simp [execOp, ho, resolve, invoke, builtin, hd, hs, hrun, Result.andThen]
  exact hK _ _ (h w' h1 h2)
/-- copy of bytes into an owned row, as a step of a region that draws -/
theorem step_copyB {w : World} {ops : Array Oper} {o : Oper} {a : Act} {K : Act → World → Prop} {Q : Exit → Act → World → Prop} {E : Prop} (d s : Operand) (hgd : o.guard = none)
    (ho : o.op = .call { callee := .builtin .copy, args := #[d, s], argTypes := #[22, 22] })
    (g L cap : Nat) (l : List UInt8) (off dLen dCap : Nat) (hown : OwnB w (.slice (some ⟨g, 0, none⟩) L cap) l) (hoff : off + dLen = l.length) (hd : a.eval d = .slice (some ⟨g, off, none⟩) dLen dCap) (sv : Value) (m : List UInt8) (hs : a.eval s = sv) (hsrc : Bs w sv m)
    (h : ∀ w', OwnB w' (.slice (some ⟨g, 0, none⟩) L cap) (l.take off ++ (m.take dLen ++ l.drop (off + min m.length dLen))) → Keep [g] w w' → K (a.put o.dst (goInt ((Nat.min m.length dLen : Nat) : Int))) w') :
    if Region.wanted o (yielded ops a.tmps) = true then Oper.wp Tryz.prog o a w K Q else E := by
  have hw : Region.wanted o (yielded ops a.tmps) = true := by simp [Region.wanted, hgd]
  rw [if_pos hw]
  obtain ⟨w', hrun, h1, h2⟩ := run_copyB w o.type g L cap l off dLen dCap sv m hown hoff hsrc
  unfold Oper.wp
  simp [execOp, ho, resolve, invoke, builtin, hd, hs, hrun, Result.andThen]
  exact h w' h1 h2
/-- b[x:] of an owned row, its address written out -/
theorem run_from {W : World} {g L cap : Nat} (x : Int) (o : Nat) (hx : x = o) (h1 : o ≤ L) (h2 : o < cap) : (Instr.slice 22 (.slice (some ⟨g, 0, none⟩) L cap) (some (.int .i64 x)) none none).run Tryz.prog W = .ok (.slice (some ⟨g, o, none⟩) (L - o) (cap - o)) W := by
  subst hx
  rw [run_slice_l W _ _ _ _ under8.1 .i64 _ (by omega) (by omega), under8.2, size8]
  have : ¬ cap = o := by omega
  simp [Result.andThen, sliced, this]
  unfold Addr.add; split <;> simp_all
end Go.Proofs.YthmojejiaeninaaGreat
