/- Texts put together: Tok TokMath FinMath FinMath2 DleMath DleMath2 DleMath3 RedMath RedMath2 RedMath3 RefDle RefDle2 RefFin RefFin2 RefTok RefTok2 RefFin3 FinBk FinMap FinChk -/
import Derived.Test.YteahcpkaagjkkaaPart3
import Derived.Test.YteahcpkaagjkkaaPart2
import Derived.Laws.OwnMore
import Derived.Test.YteahcpkaagjkkaaPart5
import Derived.Test.YteahcpkaagjkkaaPart1
import Derived.BigQuiet
import Derived.Laws.StructEq
import Derived.Maps.Views
import Derived.Maps.OwnOps
import Derived.DeepKeys4
namespace Go.Proofs.Yteahcpkaagjkkaa
set_option linter.unusedVariables false
set_option linter.unusedSimpArgs false
set_option maxRecDepth 100000
open Go.ChangeShapes Go.WideShapes Go.ChangeAt Go.RowKit

/-- a token: a byte, a distance, a length -/
structure Tk where
  lit : UInt8
  dist : Int
  len : Int
deriving DecidableEq
instance : Inhabited Tk := ⟨⟨0, 0, 0⟩⟩
def Tk.cells (t : Tk) : List Value := [.int .u8 t.lit.toNat, .int .i64 t.dist, .int .i64 t.len]
def Tk.wf (t : Tk) : Prop := (Lit.int .i64 t.dist).wf = true ∧ (Lit.int .i64 t.len).wf = true
instance (t : Tk) : Decidable t.wf := by unfold Tk.wf; infer_instance
def tcells (ts : List Tk) : List Value := ts.flatMap Tk.cells
theorem tcells_append (a b : List Tk) : tcells (a ++ b) = tcells a ++ tcells b := by simp [tcells]
theorem tcells_len (ts : List Tk) : (tcells ts).length = ts.length * 3 := by
  induction ts with
  | nil => rfl
  | cons t ts ih =>
    have : tcells (t :: ts) = t.cells ++ tcells ts := rfl
    rw [this, List.length_append, ih, List.length_cons]
    show 3 + _ = _
    omega
theorem tcells_get (ts : List Tk) (i : Nat) (h : i < ts.length) : (tcells ts)[i * 3]? = some (.int .u8 (ts[i]).lit.toNat) ∧ (tcells ts)[i * 3 + 1]? = some (.int .i64 (ts[i]).dist) ∧ (tcells ts)[i * 3 + 2]? = some (.int .i64 (ts[i]).len) := by
  induction ts generalizing i with
  | nil => simp at h
  | cons t ts ih =>
    have e : tcells (t :: ts) = t.cells ++ tcells ts := rfl
    have hl : t.cells.length = 3 := rfl
    cases i with
    | zero => rw [e]; exact ⟨rfl, rfl, rfl⟩
    | succ i =>
      have := ih i (by simpa using h)
      rw [e, List.getElem?_append_right (by omega), List.getElem?_append_right (by omega), List.getElem?_append_right (by omega), hl]
      rw [show (i + 1) * 3 - 3 = i * 3 by omega, show (i + 1) * 3 + 1 - 3 = i * 3 + 1 by omega, show (i + 1) * 3 + 2 - 3 = i * 3 + 2 by omega]
      simpa using this
/-- v is a slice of the tokens ts -/
def Ts (w : World) (v : Value) (ts : List Tk) : Prop :=
  ∃ a cap, v = .slice a ts.length cap ∧ ts.length ≤ cap ∧ cap ≤ maxLen ∧ (a = none → cap = 0) ∧ (∀ x, a = some x → ∀ j, j < ts.length * 3 → w.cell? (x.add j) = (tcells ts)[j]?) ∧ ∀ t ∈ ts, t.wf
theorem Ts.keep {w w' : World} {v : Value} {ts : List Tk} {S : List Nat} (h : Ts w v ts) (k : Keep S w w') (hb : ∀ b, v.ownBlock = some b → b ∉ S) : Ts w' v ts := by
  obtain ⟨a, cap, rfl, h1, h2, h3, h4, h5⟩ := h
  refine ⟨a, cap, rfl, h1, h2, h3, fun x hx j hj => ?_, h5⟩
  have hs := h4 x hx j hj
  obtain ⟨u, hu⟩ : ∃ u, (tcells ts)[j]? = some u := ⟨_, List.getElem?_eq_getElem (by rw [tcells_len]; exact hj)⟩
  rw [hu] at hs ⊢
  refine k.cell hs ?_
  subst hx
  have : (x.add j).block = x.block := by unfold Addr.add; split <;> rfl
  rw [this]; exact hb _ rfl
theorem Ts.drewN {w : World} {v : Value} {ts : List Tk} (h : Ts w v ts) (n : Nat) : Ts (w.drewN n) v ts := h.keep ((Keep.refl [] w).drewN _) (by simp)
theorem Ts.sh {w : World} {v : Value} {ts : List Tk} (h : Ts w v ts) : ∃ a cap, v = .slice a ts.length cap ∧ ts.length ≤ 9223372036854775807 := by
  obtain ⟨a, cap, rfl, h1, h2, _⟩ := h
  unfold maxLen at h2
  exact ⟨a, cap, rfl, by omega⟩
theorem Ts.at {w : World} {v : Value} {ts : List Tk} (h : Ts w v ts) (i : Nat) (hi : i < ts.length) : ∃ b off cap, v = .slice (some ⟨b, off, none⟩) ts.length cap ∧ w.cell? ⟨b, off + i * 3, none⟩ = some (.int .u8 (ts[i]).lit.toNat) ∧ w.cell? ⟨b, off + i * 3 + 1, none⟩ = some (.int .i64 (ts[i]).dist) ∧ w.cell? ⟨b, off + i * 3 + 2, none⟩ = some (.int .i64 (ts[i]).len) := by
  obtain ⟨a, cap, rfl, h1, h2, h3, h4, h5⟩ := h
  cases a with
  | none => have := h3 rfl; omega
  | some x =>
    obtain ⟨b, off, spot⟩ := x
    obtain ⟨g1, g2, g3⟩ := tcells_get ts i hi
    have c1 := h4 _ rfl (i * 3) (by omega)
    have c2 := h4 _ rfl (i * 3 + 1) (by omega)
    have c3 := h4 _ rfl (i * 3 + 2) (by omega)
    rw [g1] at c1; rw [g2] at c2; rw [g3] at c3
    have hspot : spot = none := by
      have c0 := h4 _ rfl 0 (by omega)
      have g0 := (tcells_get ts 0 (by omega)).1
      rw [Nat.zero_mul] at g0
      rw [g0] at c0
      simpa [Addr.add] using World.cell?_spot c0
    subst hspot
    have e : ∀ m, (⟨b, off, none⟩ : Addr).add m = ⟨b, off + m, none⟩ := fun m => by cases m <;> simp [Addr.add]
    rw [e] at c1 c2 c3
    exact ⟨b, off, cap, rfl, c1, by rw [Nat.add_assoc]; exact c2, by rw [Nat.add_assoc]; exact c3⟩
theorem Ts.wf {w : World} {v : Value} {ts : List Tk} (h : Ts w v ts) : ∀ t ∈ ts, t.wf := by
  obtain ⟨_, _, _, _, _, _, _, h5⟩ := h; exact h5
/-- v is a slice of tokens of the call's own -/
def OwnT (w : World) (v : Value) (ts : List Tk) : Prop := w.ownsRow 0 105 3 v ts.length (tcells ts) ∧ ∀ t ∈ ts, t.wf
theorem OwnT.nil (w : World) : OwnT w (.slice none 0 0) [] := ⟨World.ownsRow_nil w 0 _ 3, by simp⟩
theorem OwnT.keep {w w' : World} {v : Value} {ts : List Tk} {S : List Nat} (h : OwnT w v ts) (k : Keep S w w') (hb : ∀ b, v.ownBlock = some b → b ∉ S) : OwnT w' v ts := by
  refine ⟨⟨h.1.1, ?_⟩, h.2⟩
  rcases h.1.2 with h2 | ⟨g, cap, cur, rfl, hb0, hh, r⟩
  · exact .inl h2
  · exact .inr ⟨g, cap, cur, rfl, hb0, (k.block g (lt_of_block hh) (hb g rfl)).trans hh, r⟩
theorem OwnT.lt {w : World} {v : Value} {ts : List Tk} (h : OwnT w v ts) : ∀ b, v.ownBlock = some b → b < w.heap.size := fun b hb => (World.ownsRow.lt h.1 b hb).2
theorem OwnT.ts {w : World} {v : Value} {ts : List Tk} (h : OwnT w v ts) : Ts w v ts := by
  obtain ⟨h, hz⟩ := h
  rcases h.2 with ⟨rfl, hn⟩ | ⟨g, cap, cur, rfl, _, hh, hc, hm, hs, ht⟩
  · obtain rfl : ts = [] := List.eq_nil_of_length_eq_zero hn
    exact ⟨none, 0, rfl, by simp, by simp, fun _ => rfl, (fun x hx => nomatch hx), by simp⟩
  · refine ⟨some ⟨g, 0, none⟩, cap, rfl, hc, hm, (fun h => nomatch h), fun x hx j hj => ?_, hz⟩
    obtain rfl : (⟨g, 0, none⟩ : Addr) = x := by simpa using hx
    have e : (⟨g, 0, none⟩ : Addr).add j = ⟨g, j, none⟩ := by cases j <;> simp [Addr.add]
    rw [e, cell_of_row w g j cur _ (0, 0) hh, ← ht, List.getElem?_take, if_pos (by omega)]
    simp
theorem OwnT.blk {w : World} {v : Value} {ts : List Tk} (h : OwnT w v ts) (hn : v ≠ .slice none 0 0) : ∃ g c, v = .slice (some ⟨g, 0, none⟩) ts.length c := by
  rcases h.1.2 with ⟨h', _⟩ | ⟨g', cap', cur, h', _⟩
  · exact absurd h' hn
  · exact ⟨g', cap', h'⟩
theorem OwnT.free {w : World} {g n cap : Nat} {ts : List Tk} (h : OwnT w (.slice (some ⟨g, 0, none⟩) n cap) ts) (j : Nat) : w.frozen? ⟨g, j, none⟩ = false := by
  have hn : n = ts.length := by
    obtain ⟨_, _, e, _⟩ := h.ts
    simp only [Value.slice.injEq] at e; exact e.2.1
  subst hn
  exact h.1.frozenAt j
theorem tcells_set (ts : List Tk) (i : Nat) (h : i < ts.length) (n : Int) : tcells (ts.set i { ts[i] with len := n }) = (tcells ts).set (i * 3 + 2) (.int .i64 n) := by
  induction ts generalizing i with
  | nil => simp at h
  | cons t ts ih =>
    cases i with
    | zero => rfl
    | succ i =>
      have e1 : tcells (t :: ts) = t.cells ++ tcells ts := rfl
      have hl : t.cells.length = 3 := rfl
      rw [e1, List.set_append_right _ _ (by omega), hl, show (i + 1) * 3 + 2 - 3 = i * 3 + 2 by omega, ← ih i (by simpa using h)]
      rfl
/-- another length for a token -/
theorem OwnT.setLen {w : World} {g n cap : Nat} {ts : List Tk} (h : OwnT w (.slice (some ⟨g, 0, none⟩) n cap) ts) (i : Nat) (hi : i < ts.length) (x : Int) (hx : (Lit.int .i64 x).wf = true) : OwnT (w.setCell ⟨g, i * 3 + 2, none⟩ (.int .i64 x)) (.slice (some ⟨g, 0, none⟩) n cap) (ts.set i { ts[i] with len := x }) := by
  have hn : n = ts.length := by
    obtain ⟨_, _, e, _⟩ := h.ts
    simp only [Value.slice.injEq] at e; exact e.2.1
  subst hn
  refine ⟨?_, fun t ht => ?_⟩
  · rw [List.length_set, tcells_set ts i hi x]
    exact (h.1.stored (i * 3 + 2) (.int .i64 x)).1
  · rcases List.mem_or_eq_of_mem_set ht with h1 | h1
    · exact h.2 t h1
    · subst h1; exact ⟨(h.2 _ (List.getElem_mem hi)).1, hx⟩
theorem infoT : (Try.prog.info? 105).map (fun i => (i.zero.map (·.cells.size), i.size, i.bytes)) = some (some 3, 3, 24) := by kernel_rfl
/-- append of tokens -/
theorem wpList_appendT {w : World} {ops : Array Oper} {rest : List Oper} {o : Oper} {a : Act} {Q : Exit → Act → World → Prop} (s x : Operand) (hgd : o.guard = none)
    (ho : o.op = .call { callee := .builtin .append, args := #[s, x], argTypes := #[98, 98] })
    (v : Value) (ts : List Tk) (hs : a.eval s = v) (hown : OwnT w v ts) (g : Nat) (t : Tk) (hx : a.eval x = .slice (some ⟨g, 0, none⟩) 1 1) (hsrc : Blk w g t.cells.toArray 105) (hwf : t.wf) (hlen : ts.length ≤ 1000000)
    (h : ∀ v' w', OwnT w' v' (ts ++ [t]) → Keep v.ownBlock.toList w w' → (∀ b, v'.ownBlock = some b → v.ownBlock = some b ∨ b = w.heap.size) → v' ≠ .slice none 0 0 → wpList Try.prog ops Q rest (a.put o.dst v') w') : wpList Try.prog ops Q (o :: rest) a w := by
  obtain ⟨i0, hi, hzz⟩ := Option.map_eq_some_iff.1 infoT
  simp only [Prod.mk.injEq] at hzz
  obtain ⟨hz, hz1, hz2⟩ := hzz
  obtain ⟨z, hz, hzc⟩ := Option.map_eq_some_iff.1 hz
  have hS : Src w 3 (.slice (some ⟨g, 0, none⟩) 1 1) 1 t.cells := by
    refine ⟨rfl, by simp [Tk.cells, Value.oneCell'], .inr ⟨⟨g, 0, none⟩, 1, rfl, fun j u hu => ?_⟩⟩
    have e : ∀ m, ((⟨g, 0, none⟩ : Addr).add m) = ⟨g, m, none⟩ := fun m => by cases m <;> simp [Addr.add]
    rw [e]
    exact hsrc.cell j u (by simpa using hu)
  refine wpList_append_any hgd s x 98 ho 105 i0 z 3 24 Try.underlying98 hi hz hz1 hz2 hzc (by decide) v ts.length (tcells ts) hs hown.1 _ 1 t.cells hx hS (by unfold maxLen; omega) (by omega) ?_
  intro v' w' h1 h2 h3 h4
  have hO : OwnT w' v' (ts ++ [t]) := by
    refine ⟨by rw [List.length_append, tcells_append, show tcells [t] = t.cells from by simp [tcells]]; exact h1, fun y hy => ?_⟩
    rcases List.mem_append.1 hy with h5 | h5
    · exact hown.2 y h5
    · obtain rfl : y = t := by simpa using h5
      exact hwf
  refine h v' w' hO h2 h3 (fun e => ?_)
  obtain ⟨a', cap, e2, _⟩ := hO.ts.sh
  rw [e2] at e
  simp only [Value.slice.injEq] at e
  have := e.2.1
  simp at this
section
variable {H : Type} {enc : TypeId × Value → H} {W : World} {base base0 : Nat} {spare : Nat → Bool} {held : Bool} {v : Value} {d : DataW H} {p : List MemPlace}
theorem open_tks (hv : Value.okWide Try.prog W .any base0 98 v) (h : DataW.Trod enc Try.prog W base spare held 98 v d p) : ∃ ts, Ts W v ts := by
  obtain ⟨n, C, ⟨a, cap, rfl, h1, h2, h3, h4⟩, hf⟩ := open_sts Try.underlying98 Try.underlying105 (by kernel_rfl) (by kernel_rfl) hv h
  have key : ∀ i, ∃ t : Tk, i < n → t.wf ∧ C i 0 = .int .u8 t.lit.toNat ∧ C i 1 = .int .i64 t.dist ∧ C i 2 = .int .i64 t.len := fun i => by
    by_cases hi : i < n
    · obtain ⟨_, _, f0⟩ := hf i hi 0 _ rfl
      obtain ⟨_, _, f1⟩ := hf i hi 1 _ rfl
      obtain ⟨_, _, f2⟩ := hf i hi 2 _ rfl
      obtain ⟨z0, e0, w0⟩ := int_of_trod Try.underlying5 f0
      obtain ⟨z1, e1, w1⟩ := int_of_trod Try.underlying3 f1
      obtain ⟨z2, e2, w2⟩ := int_of_trod Try.underlying3 f2
      exact ⟨⟨UInt8.ofNat z0.toNat, z1, z2⟩, fun _ => ⟨⟨w1, w2⟩, by rw [e0, u8_of_wf w0], e1, e2⟩⟩
    · exact ⟨default, fun h => absurd h hi⟩
  obtain ⟨f, hF⟩ : ∃ f : Nat → Tk, ∀ i, i < n → (f i).wf ∧ C i 0 = .int .u8 (f i).lit.toNat ∧ C i 1 = .int .i64 (f i).dist ∧ C i 2 = .int .i64 (f i).len := ⟨fun i => Classical.choose (key i), fun i => Classical.choose_spec (key i)⟩
  refine ⟨(List.range n).map f, a, cap, by simp, by simpa using h1, h2, h3, fun x hx j hj => ?_, fun t ht => ?_⟩
  · have hj' : j < n * 3 := by simpa using hj
    obtain ⟨i, m, hi, hm, rfl⟩ : ∃ i m, i < n ∧ m < 3 ∧ j = i * 3 + m := ⟨j / 3, j % 3, by omega, by omega, by omega⟩
    have hil : i < ((List.range n).map f).length := by simpa using hi
    obtain ⟨g1, g2, g3⟩ := tcells_get _ i hil
    obtain ⟨_, s1, s2, s3⟩ := hF i hi
    simp only [List.getElem_map, List.getElem_range] at g1 g2 g3
    have hc := h4 x hx i hi m hm
    change W.cell? (x.add (i * 3 + m)) = _ at hc
    rw [hc]
    obtain rfl | rfl | rfl : m = 0 ∨ m = 1 ∨ m = 2 := by omega
    · rw [Nat.add_zero, g1, s1]
    · rw [g2, s2]
    · rw [g3, s3]
  · simp only [List.mem_map, List.mem_range] at ht
    obtain ⟨i, hi, rfl⟩ := ht
    exact (hF i hi).1
end
end Go.Proofs.Yteahcpkaagjkkaa
namespace Go.Proofs.Yteahcpkaagjkkaa
set_option linter.unusedVariables false
set_option linter.unusedSimpArgs false

/-- one token told -/
def HS.tk (s : HS) (t : Tk) : Nat × HS := if t.len = 0 then s.lit t.lit else s.copy t.dist t.len
/-- tokens told, one by one, up to the first error -/
def tellT : HS → List Tk → Nat × HS
  | s, [] => (0, s)
  | s, t :: ts => if (s.tk t).1 = 0 then tellT (s.tk t).2 ts else s.tk t
theorem tellT_append (s : HS) (a b : List Tk) : tellT s (a ++ b) = if (tellT s a).1 = 0 then tellT (tellT s a).2 b else tellT s a := by
  induction a generalizing s with
  | nil => simp [tellT]
  | cons t a ih =>
    rw [List.cons_append, tellT, tellT]
    by_cases h : (s.tk t).1 = 0
    · rw [if_pos h, if_pos h, ih]
    · rw [if_neg h, if_neg h, if_neg h]
/-- which windows may not be -/
def winBad (win most : Int) : Prop := win < 1 ∨ 65536 < win ∨ most < 0
instance (win most : Int) : Decidable (winBad win most) := by unfold winBad; infer_instance
/-- the error, and the bytes -/
def expT (ts : List Tk) (win most : Int) (nou : Bool) : Nat × List UInt8 :=
  if winBad win most then (2, []) else if (tellT ⟨win.toNat, most.toNat, nou, []⟩ ts).1 = 0 then (0, (tellT ⟨win.toNat, most.toNat, nou, []⟩ ts).2.b) else ((tellT ⟨win.toNat, most.toNat, nou, []⟩ ts).1, [])
def sz1 (t : Tk) : Nat := if t.len = 0 then 1 else t.len.toNat
def sumT (ts : List Tk) : Nat := (ts.map sz1).sum
def sizeT (ts : List Tk) : Nat := min 4611686018427387904 (sumT ts)
theorem sumT_append (a b : List Tk) : sumT (a ++ b) = sumT a + sumT b := by simp [sumT]
theorem HS.tk_ok {s : HS} {t : Tk} (h : (s.tk t).1 = 0) : (s.tk t).2.b.length = s.b.length + sz1 t ∧ (s.tk t).2.win = s.win ∧ (s.tk t).2.most = s.most ∧ (s.tk t).2.nou = s.nou := by
  unfold HS.tk sz1 at *
  by_cases h0 : t.len = 0
  · rw [if_pos h0] at h ⊢
    rw [if_pos h0]
    unfold HS.lit at *
    by_cases h1 : s.most ≤ s.b.length
    · rw [if_pos h1] at h; simp at h
    · rw [if_neg h1]; simp
  · rw [if_neg h0] at h ⊢
    rw [if_neg h0]
    unfold HS.copy at *
    by_cases h1 : t.dist < 1 ∨ t.len < 0
    · rw [if_pos h1] at h; simp at h
    rw [if_neg h1] at h ⊢
    by_cases h2 : (s.win : Int) < t.dist ∨ ((s.b.length : Int) < t.dist ∧ s.nou = false)
    · rw [if_pos h2] at h; simp at h
    rw [if_neg h2] at h ⊢
    by_cases h3 : (s.most : Int) - s.b.length < t.len
    · rw [if_pos h3] at h; simp at h
    rw [if_neg h3]
    exact ⟨cpy_len _ _ _, rfl, rfl, rfl⟩
theorem tellT_size {s : HS} {ts : List Tk} (h : (tellT s ts).1 = 0) : (tellT s ts).2.b.length = s.b.length + sumT ts := by
  induction ts generalizing s with
  | nil => simp [tellT, sumT]
  | cons t ts ih =>
    rw [tellT] at h ⊢
    by_cases h1 : (s.tk t).1 = 0
    · rw [if_pos h1] at h ⊢
      rw [ih h, (HS.tk_ok h1).1]
      simp [sumT]; omega
    · rw [if_neg h1] at h; exact absurd h h1
/-- with less room: the same, or it is no room -/
theorem HS.tk_less {s : HS} {t : Tk} (h : (s.tk t).1 = 0) (m : Nat) (hm : s.b.length ≤ m) :
    (s.b.length + sz1 t ≤ m → ({ s with most := m } : HS).tk t = (0, { (s.tk t).2 with most := m })) ∧ (m < s.b.length + sz1 t → (({ s with most := m } : HS).tk t).1 = 9) := by
  unfold HS.tk sz1 at *
  by_cases h0 : t.len = 0
  · rw [if_pos h0] at h ⊢
    rw [if_pos h0, if_pos h0]
    unfold HS.lit at *
    by_cases h1 : s.most ≤ s.b.length
    · rw [if_pos h1] at h; simp at h
    · rw [if_neg h1]
      refine ⟨fun h2 => ?_, fun h2 => ?_⟩
      · rw [if_neg (by dsimp only; omega)]
      · rw [if_pos (by dsimp only; omega)]
  · rw [if_neg h0] at h ⊢
    rw [if_neg h0, if_neg h0]
    unfold HS.copy at *
    by_cases h1 : t.dist < 1 ∨ t.len < 0
    · rw [if_pos h1] at h; simp at h
    rw [if_neg h1] at h ⊢
    by_cases h2 : (s.win : Int) < t.dist ∨ ((s.b.length : Int) < t.dist ∧ s.nou = false)
    · rw [if_pos h2] at h; simp at h
    rw [if_neg h2] at h ⊢
    by_cases h3 : (s.most : Int) - s.b.length < t.len
    · rw [if_pos h3] at h; simp at h
    rw [if_neg h3]
    refine ⟨fun h4 => ?_, fun h4 => ?_⟩
    · rw [if_neg h1, if_neg h2, if_neg (by dsimp only; omega)]
    · first | rw [if_neg h1, if_neg h2, if_pos (by dsimp only; omega)] | rw [if_pos (by dsimp only; omega)]
theorem tellT_less {s : HS} {ts : List Tk} (h : (tellT s ts).1 = 0) (m : Nat) (hm : s.b.length ≤ m) (hlt : m < s.b.length + sumT ts) : (tellT { s with most := m } ts).1 = 9 := by
  induction ts generalizing s with
  | nil => simp [sumT] at hlt; omega
  | cons t ts ih =>
    rw [tellT] at h ⊢
    by_cases h1 : (s.tk t).1 = 0
    · rw [if_pos h1] at h
      obtain ⟨g1, g2⟩ := HS.tk_less h1 m hm
      have hs : sumT (t :: ts) = sz1 t + sumT ts := by simp [sumT]
      by_cases h2 : s.b.length + sz1 t ≤ m
      · rw [g1 h2, if_pos rfl]
        have hk := (HS.tk_ok h1).1
        exact ih h (by omega) (by omega)
      · have h9 := g2 (by omega)
        rw [if_neg (by omega)]; exact h9
    · rw [if_neg h1] at h; exact absurd h h1
/-- the tokens that the first k bytes' runs are -/
def rn (b : List UInt8) : Nat → List Tk
  | 0 => []
  | k + 1 => if k = 0 ∨ b.getD k 0 ≠ b.getD (k - 1) 0 then rn b k ++ [⟨b.getD k 0, 0, 0⟩]
    else if ((rn b k).getLast?.getD default).len = 0 ∨ ((rn b k).getLast?.getD default).len = 258 then rn b k ++ [⟨0, 1, 1⟩]
    else (rn b k).set ((rn b k).length - 1) { (rn b k).getLast?.getD default with len := ((rn b k).getLast?.getD default).len + 1 }
def runs (b : List UInt8) : List Tk := rn b b.length
theorem set_last (l : List Tk) (t x : Tk) : (l ++ [t]).set ((l ++ [t]).length - 1) x = l ++ [x] := by
  rw [List.length_append, List.set_append_right _ _ (by simp)]; simp
theorem take_snoc (b : List UInt8) (k : Nat) (hk : k < b.length) : b.take (k + 1) = b.take k ++ [b.getD k 0] := by
  rw [List.take_succ_eq_append_getElem hk]; simp [hk]
/-- what is known of the runs of the first k bytes -/
structure Rn (b : List UInt8) (k : Nat) : Prop where
  tell : ∀ n, k ≤ n → tellT ⟨1, n, false, []⟩ (rn b k) = (0, ⟨1, n, false, b.take k⟩)
  sum : sumT (rn b k) = k
  len : (rn b k).length ≤ k
  last : k = 0 ∨ ∃ l t, rn b k = l ++ [t] ∧ (t.len = 0 ∨ (t.dist = 1 ∧ 1 ≤ t.len ∧ t.len ≤ 258))
theorem rn_all (b : List UInt8) (k : Nat) (hk : k ≤ b.length) : Rn b k := by
  induction k with
  | zero => exact ⟨fun n _ => by simp [rn, tellT], rfl, Nat.le_refl _, .inl rfl⟩
  | succ k ih =>
    have h := ih (by omega)
    have hts := take_snoc b k (by omega)
    have hlk : (b.take k).length = k := by rw [List.length_take]; omega
    by_cases h1 : k = 0 ∨ b.getD k 0 ≠ b.getD (k - 1) 0
    · have e : rn b (k + 1) = rn b k ++ [⟨b.getD k 0, 0, 0⟩] := by rw [rn, if_pos h1]
      refine ⟨fun n hn => ?_, ?_, ?_, .inr ⟨rn b k, _, e, .inl rfl⟩⟩
      · rw [e, tellT_append, h.tell n (by omega)]
        simp only [if_true]
        rw [tellT]
        have : (⟨1, n, false, b.take k⟩ : HS).tk ⟨b.getD k 0, 0, 0⟩ = (0, ⟨1, n, false, b.take (k + 1)⟩) := by
          unfold HS.tk HS.lit
          rw [if_pos rfl, if_neg (by simp only [hlk]; omega), hts]
        rw [this]; simp [tellT]
      · rw [e, sumT_append, h.sum]; rfl
      · rw [e, List.length_append]; have := h.len; simp; omega
    · have hk0 : k ≠ 0 := fun e => h1 (.inl e)
      have hbe : b.getD k 0 = b.getD (k - 1) 0 := Decidable.byContradiction fun e => h1 (.inr e)
      obtain ⟨l, t, hlt, ht⟩ : ∃ l t, rn b k = l ++ [t] ∧ (t.len = 0 ∨ (t.dist = 1 ∧ 1 ≤ t.len ∧ t.len ≤ 258)) := by
        rcases h.last with h2 | h2
        · exact absurd h2 hk0
        · exact h2
      have hlast : (rn b k).getLast?.getD default = t := by rw [hlt]; simp
      have hback : back1 (b.take k) 1 = b.getD k 0 := by
        unfold back1
        rw [if_pos (by omega), hlk, hbe]
        simp only [List.getD_eq_getElem?_getD]
        rw [List.getElem?_take_of_lt (by omega)]
      by_cases h2 : t.len = 0 ∨ t.len = 258
      · have e : rn b (k + 1) = rn b k ++ [⟨0, 1, 1⟩] := by rw [rn, if_neg h1, hlast, if_pos h2]
        refine ⟨fun n hn => ?_, ?_, ?_, .inr ⟨rn b k, _, e, .inr ⟨rfl, by decide, by decide⟩⟩⟩
        · rw [e, tellT_append, h.tell n (by omega)]
          simp only [if_true]
          rw [tellT]
          have : (⟨1, n, false, b.take k⟩ : HS).tk ⟨0, 1, 1⟩ = (0, ⟨1, n, false, b.take (k + 1)⟩) := by
            unfold HS.tk HS.copy
            rw [if_neg (by decide), if_neg (by decide), if_neg (by simp only [hlk]; omega), if_neg (by simp only [hlk]; omega)]
            show (0, (⟨1, n, false, cpy (b.take k) 1 1⟩ : HS)) = _
            rw [cpy, cpy, hback, hts]
          rw [this]; simp [tellT]
        · rw [e, sumT_append, h.sum]; rfl
        · rw [e, List.length_append]; have := h.len; simp; omega
      · have ht2 : t.dist = 1 ∧ 1 ≤ t.len ∧ t.len ≤ 258 := by
          rcases ht with h3 | h3
          · exact absurd (.inl h3) h2
          · exact h3
        have e : rn b (k + 1) = l ++ [{ t with len := t.len + 1 }] := by rw [rn, if_neg h1, hlast, if_neg h2, hlt, set_last]
        refine ⟨fun n hn => ?_, ?_, ?_, .inr ⟨l, _, e, .inr ⟨ht2.1, by show 1 ≤ t.len + 1; omega, by show t.len + 1 ≤ 258; omega⟩⟩⟩
        · have hT := h.tell n (by omega)
          rw [hlt, tellT_append] at hT
          rw [e, tellT_append]
          by_cases h4 : (tellT ⟨1, n, false, []⟩ l).1 = 0
          · rw [if_pos h4] at hT ⊢
            have hz := tellT_size h4
            generalize (tellT ⟨1, n, false, []⟩ l).2 = s1 at hT hz ⊢
            rw [tellT] at hT ⊢
            by_cases h5 : (s1.tk t).1 = 0
            · rw [if_pos h5] at hT
              simp only [tellT, Prod.mk.injEq, true_and] at hT
              have hk5 := HS.tk_ok h5
              rw [hT] at hk5
              obtain ⟨q1, q2, q3, q4⟩ := hk5
              have hs1 : sz1 t = t.len.toNat := by unfold sz1; rw [if_neg (by omega)]
              simp only [hlk] at q1
              have hcp : cpy s1.b 1 t.len.toNat = b.take k := by
                have h6 := hT
                unfold HS.tk HS.copy at h6
                rw [if_neg (by omega), ht2.1] at h6
                unfold HS.tk HS.copy at h5
                rw [if_neg (by omega), ht2.1] at h5
                by_cases g1 : (1 : Int) < 1 ∨ t.len < 0
                · omega
                rw [if_neg g1] at h5 h6
                by_cases g2 : (s1.win : Int) < 1 ∨ ((s1.b.length : Int) < 1 ∧ s1.nou = false)
                · rw [if_pos g2] at h5; simp at h5
                rw [if_neg g2] at h5 h6
                by_cases g3 : (s1.most : Int) - s1.b.length < t.len
                · rw [if_pos g3] at h5; simp at h5
                rw [if_neg g3] at h6
                exact congrArg HS.b h6
              have hnd : ¬ ((s1.b.length : Int) < 1 ∧ s1.nou = false) := by
                intro g
                unfold HS.tk HS.copy at h5
                rw [if_neg (by omega), ht2.1, if_neg (by omega), if_pos (.inr g)] at h5
                simp at h5
              have hfin : s1.tk { t with len := t.len + 1 } = (0, ⟨1, n, false, b.take (k + 1)⟩) := by
                unfold HS.tk HS.copy
                show (if t.len + 1 = 0 then _ else if t.dist < 1 ∨ t.len + 1 < 0 then _ else if (s1.win : Int) < t.dist ∨ _ then _ else if (s1.most : Int) - s1.b.length < t.len + 1 then _ else (0, { s1 with b := cpy s1.b t.dist.toNat (t.len + 1).toNat })) = _
                rw [if_neg (by omega), ht2.1, if_neg (by omega), if_neg (by
                  intro g
                  rcases g with g | g
                  · rw [← q2] at g; simp at g
                  · exact hnd g), if_neg (by rw [← q3]; simp only; omega)]
                rw [show (t.len + 1).toNat = t.len.toNat + 1 by omega, show (1 : Int).toNat = 1 from rfl, cpy, hcp, hback, ← hts]
                cases s1
                simp only at q2 q3 q4
                subst q2 q3 q4
                rfl
              rw [hfin]; simp [tellT]
            · rw [if_neg h5] at hT
              rw [hT] at h5; simp at h5
          · rw [if_neg h4] at hT
            rw [hT] at h4; simp at h4
        · have h5 := h.sum
          rw [hlt, sumT_append] at h5
          rw [e, sumT_append]
          have e1 : sumT [t] = t.len.toNat := by simp [sumT, sz1]; omega
          have e2 : sumT [{ t with len := t.len + 1 }] = (t.len + 1).toNat := by simp [sumT, sz1]; omega
          rw [e1] at h5; rw [e2]; omega
        · have h5 := h.len
          rw [hlt] at h5
          rw [e]; simp at h5 ⊢; omega
theorem runs_exp (b : List UInt8) (hb : b.length ≤ 65536000) : expT (runs b) 1 b.length false = (0, b) := by
  have h := (rn_all b b.length (Nat.le_refl _)).tell b.length (Nat.le_refl _)
  unfold expT runs
  rw [if_neg (by unfold winBad; omega)]
  show (if (tellT ⟨1, b.length, false, []⟩ (rn b b.length)).1 = 0 then _ else _) = _
  rw [if_pos (by rw [h])]
  show (0, (tellT ⟨1, b.length, false, []⟩ (rn b b.length)).2.b) = _
  rw [h, List.take_length]
theorem runs_size (b : List UInt8) (hb : b.length ≤ 65536000) : sizeT (runs b) = b.length := by
  unfold sizeT runs
  rw [(rn_all b b.length (Nat.le_refl _)).sum]; omega
end Go.Proofs.Yteahcpkaagjkkaa
namespace Go.Proofs.Yteahcpkaagjkkaa
set_option linter.unusedVariables false
set_option linter.unusedSimpArgs false

/-- a shape -/
structure Sh where
  win : Int
  min : Int
  max : Int
  chain : Int
  lazy : Bool
def Sh.ok (s : Sh) : Prop := 1 ≤ s.win ∧ s.win ≤ 65536 ∧ 2 ≤ s.min ∧ s.min ≤ 3 ∧ s.min ≤ s.max ∧ s.max ≤ 65538 ∧ 0 ≤ s.chain ∧ s.chain ≤ 4096
instance (s : Sh) : Decidable s.ok := by unfold Sh.ok; infer_instance
/-- from n on as far as P holds, m more at most -/
def cntUp (P : Nat → Bool) : Nat → Nat → Nat
  | 0, n => n
  | m + 1, n => if P n then cntUp P m (n + 1) else n
theorem cntUp_le (P : Nat → Bool) (m n : Nat) : n ≤ cntUp P m n ∧ cntUp P m n ≤ n + m := by
  induction m generalizing n with
  | zero => simp [cntUp]
  | succ m ih =>
    rw [cntUp]
    split
    · have := ih (n + 1); omega
    · omega
theorem cntUp_all (P : Nat → Bool) (m n j : Nat) (h1 : n ≤ j) (h2 : j < cntUp P m n) : P j = true := by
  induction m generalizing n with
  | zero => simp [cntUp] at h2; omega
  | succ m ih =>
    rw [cntUp] at h2
    by_cases h : P n = true
    · rw [if_pos h] at h2
      by_cases e : n = j
      · rw [← e]; exact h
      · exact ih (n + 1) (by omega) h2
    · rw [if_neg h] at h2; omega
/-- all that can be is counted -/
theorem cntUp_ge (P : Nat → Bool) (m n k : Nat) (hk : n ≤ k) (hkm : k ≤ n + m) (h : ∀ j, n ≤ j → j < k → P j = true) : k ≤ cntUp P m n := by
  induction m generalizing n with
  | zero => rw [cntUp]; omega
  | succ m ih =>
    rw [cntUp]
    by_cases e : n = k
    · split
      · have := (cntUp_le P m (n + 1)).1; omega
      · omega
    · rw [if_pos (h n (Nat.le_refl _) (by omega))]
      exact ih (n + 1) (by omega) (by omega) (fun j h1 h2 => h j (by omega) h2)
/-- do the bytes n behind f and i stand, and are they the same -/
def sm1 (b : List UInt8) (f i n : Nat) : Bool := decide (i + n < b.length) && (b.getD (f + n) 0 == b.getD (i + n) 0)
/-- how many bytes are the same from f and i on, up to most -/
def sme (b : List UInt8) (f i most : Nat) : Nat := cntUp (sm1 b f i) most 0
/-- what is found at i among the places below k -/
def atF (b : List UInt8) (s : Sh) (i : Nat) : Nat → Nat → Tk → Tk
  | 0, _, best => best
  | k + 1, looked, best =>
    if (i : Int) - k ≤ s.win ∧ (looked : Int) < s.chain then
      if sme b k i s.min.toNat < s.min.toNat then atF b s i k looked best
      else atF b s i k (looked + 1) (if best.len < (sme b k i s.max.toNat : Int) then ⟨0, (i : Int) - k, sme b k i s.max.toNat⟩ else best)
    else best
def atT (b : List UInt8) (s : Sh) (i : Nat) : Tk := atF b s i i 0 ⟨0, 0, 0⟩
def waits (b : List UInt8) (s : Sh) (i : Nat) : Prop := s.lazy = true ∧ (atT b s i).len < s.max ∧ 0 < (atT b s i).len ∧ i + 1 < b.length ∧ (atT b s i).len < (atT b s (i + 1)).len
instance (b : List UInt8) (s : Sh) (i : Nat) : Decidable (waits b s i) := by unfold waits; infer_instance
/-- the token at i -/
def stepT (b : List UInt8) (s : Sh) (i : Nat) : Tk := if (atT b s i).len = 0 ∨ waits b s i then ⟨b.getD i 0, 0, 0⟩ else atT b s i
/-- the tokens from i on, f of them at most -/
def fdF (b : List UInt8) (s : Sh) : Nat → Nat → List Tk
  | 0, _ => []
  | f + 1, i => if i < b.length then stepT b s i :: fdF b s f (i + sz1 (stepT b s i)) else []
def found (b : List UInt8) (s : Sh) : List Tk := fdF b s b.length 0
/-- a copy that is right at i -/
structure Hit (b : List UInt8) (s : Sh) (i : Nat) (t : Tk) : Prop where
  lit : t.lit = 0
  ex : ∃ d n : Nat, t.dist = (d : Int) ∧ t.len = (n : Int) ∧ 1 ≤ d ∧ d ≤ i ∧ (d : Int) ≤ s.win ∧ s.min ≤ (n : Int) ∧ (n : Int) ≤ s.max ∧ i + n ≤ b.length ∧ ∀ j, j < n → b.getD (i - d + j) 0 = b.getD (i + j) 0
theorem sme_hit {b : List UInt8} {s : Sh} (hs : s.ok) {i k : Nat} (hk : k < i) (hw : (i : Int) - k ≤ s.win) (hm : ¬ sme b k i s.min.toNat < s.min.toNat) (hi : i ≤ b.length) : Hit b s i ⟨0, (i : Int) - k, sme b k i s.max.toNat⟩ := by
  obtain ⟨_, _, h3, h4, h5, h6, _⟩ := hs
  have hall := fun j hj => cntUp_all (sm1 b k i) s.max.toNat 0 j (Nat.zero_le _) hj
  have hle := (cntUp_le (sm1 b k i) s.max.toNat 0).2
  have hmin := (cntUp_le (sm1 b k i) s.min.toNat 0).2
  have hmall := fun j hj => cntUp_all (sm1 b k i) s.min.toNat 0 j (Nat.zero_le _) hj
  have hge := cntUp_ge (sm1 b k i) s.max.toNat 0 s.min.toNat (Nat.zero_le _) (by omega) (fun j _ hj => hmall j (by show j < sme b k i s.min.toNat; omega))
  refine ⟨rfl, i - k, sme b k i s.max.toNat, by show (i : Int) - k = _; omega, rfl, by omega, by omega, by omega, ?_, ?_, ?_, fun j hj => ?_⟩
  · have : s.min.toNat ≤ sme b k i s.max.toNat := hge; omega
  · have : sme b k i s.max.toNat ≤ 0 + s.max.toNat := hle; omega
  · rcases Nat.eq_zero_or_pos (sme b k i s.max.toNat) with h0 | h0
    · rw [h0]; exact hi
    · have := hall (sme b k i s.max.toNat - 1) (by show _ < sme b k i s.max.toNat; omega)
      unfold sm1 at this
      simp only [Bool.and_eq_true, decide_eq_true_eq] at this
      omega
  · have := hall j hj
    unfold sm1 at this
    simp only [Bool.and_eq_true, beq_iff_eq] at this
    rw [show i - (i - k) + j = k + j by omega]
    exact this.2
theorem atF_hit {b : List UInt8} {s : Sh} (hs : s.ok) {i : Nat} (hi : i ≤ b.length) (k looked : Nat) (best : Tk) (hk : k ≤ i) (hb : best = ⟨0, 0, 0⟩ ∨ Hit b s i best) : atF b s i k looked best = ⟨0, 0, 0⟩ ∨ Hit b s i (atF b s i k looked best) := by
  induction k generalizing looked best with
  | zero => exact hb
  | succ k ih =>
    rw [atF]
    split
    · next h1 =>
      split
      · exact ih _ _ (by omega) hb
      · next h2 =>
        refine ih _ _ (by omega) ?_
        split
        · exact .inr (sme_hit hs (by omega) h1.1 h2 hi)
        · exact hb
    · exact hb
theorem atT_hit {b : List UInt8} {s : Sh} (hs : s.ok) {i : Nat} (hi : i ≤ b.length) : atT b s i = ⟨0, 0, 0⟩ ∨ Hit b s i (atT b s i) := atF_hit hs hi i 0 _ (Nat.le_refl _) (.inl rfl)
theorem stepT_cases {b : List UInt8} {s : Sh} (hs : s.ok) {i : Nat} (hi : i < b.length) : stepT b s i = ⟨b.getD i 0, 0, 0⟩ ∨ Hit b s i (stepT b s i) := by
  unfold stepT
  split
  · exact .inl rfl
  · next h =>
    rcases atT_hit hs (Nat.le_of_lt hi) with h1 | h1
    · exact absurd (.inl (by rw [h1])) h
    · exact .inr h1
theorem Hit.sz {b : List UInt8} {s : Sh} {i : Nat} {t : Tk} (hs : s.ok) (h : Hit b s i t) : t.len ≠ 0 ∧ 2 ≤ sz1 t ∧ i + sz1 t ≤ b.length := by
  obtain ⟨d, n, h1, h2, h3, h4, h5, h6, h7, h8, h9⟩ := h.ex
  obtain ⟨_, _, g3, _⟩ := hs
  have hz : sz1 t = n := by unfold sz1; rw [if_neg (by omega), h2]; simp
  rw [hz]; omega
theorem stepT_sz {b : List UInt8} {s : Sh} (hs : s.ok) {i : Nat} (hi : i < b.length) : 1 ≤ sz1 (stepT b s i) ∧ i + sz1 (stepT b s i) ≤ b.length := by
  rcases stepT_cases hs hi with h | h
  · rw [h]; exact ⟨Nat.le_refl _, hi⟩
  · have := h.sz hs; omega
/-- a copy of bytes that are the same as those behind -/
theorem cpy_same (b : List UInt8) (i d n : Nat) (hd : 1 ≤ d) (hdi : d ≤ i) (hn : i + n ≤ b.length) (h : ∀ j, j < n → b.getD (i - d + j) 0 = b.getD (i + j) 0) : cpy (b.take i) d n = b.take (i + n) := by
  induction n with
  | zero => rfl
  | succ n ih =>
    have hi := ih (by omega) (fun j hj => h j (by omega))
    rw [cpy, hi, show i + (n + 1) = (i + n) + 1 by omega, take_snoc b (i + n) (by omega)]
    congr 1
    have hl : (b.take (i + n)).length = i + n := by rw [List.length_take]; omega
    unfold back1
    rw [if_pos (by omega), hl, ← h n (by omega)]
    simp only [List.getD_eq_getElem?_getD]
    rw [List.getElem?_take_of_lt (by omega), show i + n - d = i - d + n by omega]
theorem fd_tell {b : List UInt8} {s : Sh} (hs : s.ok) (f i : Nat) (hi : i ≤ b.length) (hf : b.length ≤ i + f) : tellT ⟨s.win.toNat, b.length, false, b.take i⟩ (fdF b s f i) = (0, ⟨s.win.toNat, b.length, false, b⟩) := by
  induction f generalizing i with
  | zero =>
    rw [fdF, tellT, List.take_of_length_le (by omega)]
  | succ f ih =>
    rw [fdF]
    by_cases hlt : i < b.length
    · rw [if_pos hlt, tellT]
      obtain ⟨z1, z2⟩ := stepT_sz hs hlt
      have hl : (b.take i).length = i := by rw [List.length_take]; omega
      have key : (⟨s.win.toNat, b.length, false, b.take i⟩ : HS).tk (stepT b s i) = (0, ⟨s.win.toNat, b.length, false, b.take (i + sz1 (stepT b s i))⟩) := by
        rcases stepT_cases hs hlt with h | h
        · rw [h]
          unfold HS.tk HS.lit
          rw [if_pos rfl, if_neg (by simp only [hl]; omega)]
          show (0, (⟨s.win.toNat, b.length, false, b.take i ++ [b.getD i 0]⟩ : HS)) = _
          rw [← take_snoc b i hlt]; rfl
        · obtain ⟨g1, _, g3⟩ := h.sz hs
          obtain ⟨d, n, h1, h2, h3, h4, h5, h6, h7, h8, h9⟩ := h.ex
          have hz : sz1 (stepT b s i) = n := by unfold sz1; rw [if_neg g1, h2]; simp
          obtain ⟨q1, _⟩ := hs
          unfold HS.tk HS.copy
          rw [if_neg g1, h1, h2, if_neg (by omega), if_neg (by
            intro g
            rcases g with g | g
            · simp only at g; omega
            · have := g.1; simp only [hl] at this; omega), if_neg (by simp only [hl]; omega)]
          show (0, (⟨s.win.toNat, b.length, false, cpy (b.take i) (d : Int).toNat (n : Int).toNat⟩ : HS)) = _
          rw [Int.toNat_natCast, Int.toNat_natCast, cpy_same b i d n h3 h4 h8 h9, hz]
      rw [key]
      simp only [if_true]
      exact ih (i + sz1 (stepT b s i)) z2 (by omega)
    · rw [if_neg hlt, tellT, List.take_of_length_le (by omega)]
theorem found_tell {b : List UInt8} {s : Sh} (hs : s.ok) : expT (found b s) s.win b.length false = (0, b) := by
  have h := fd_tell (b := b) hs b.length 0 (Nat.zero_le _) (by omega)
  unfold expT found
  rw [if_neg (by obtain ⟨h1, h2, _⟩ := hs; unfold winBad; omega)]
  rw [List.take_zero] at h
  rw [Int.toNat_natCast, h]; rfl
theorem found_sum {b : List UInt8} {s : Sh} (hs : s.ok) : sumT (found b s) = b.length := by
  have h := fd_tell (b := b) hs b.length 0 (Nat.zero_le _) (by omega)
  have h2 := tellT_size (s := ⟨s.win.toNat, b.length, false, b.take 0⟩) (ts := found b s) (by unfold found; rw [h])
  unfold found at h2 ⊢
  rw [h] at h2
  simpa using h2.symm
theorem fd_len {b : List UInt8} {s : Sh} (hs : s.ok) (f i : Nat) : (fdF b s f i).length ≤ b.length - i := by
  induction f generalizing i with
  | zero => rw [fdF]; simp
  | succ f ih =>
    rw [fdF]
    split
    · next h =>
      have h1 := ih (i + sz1 (stepT b s i))
      have h2 := (stepT_sz hs h).1
      rw [List.length_cons]; omega
    · simp
/-- are tokens of a shape -/
def fits1 (s : Sh) (t : Tk) : Prop := (t.len = 0 ∧ t.dist = 0) ∨ (t.len ≠ 0 ∧ s.min ≤ t.len ∧ t.len ≤ s.max ∧ 1 ≤ t.dist ∧ t.dist ≤ s.win)
instance (s : Sh) (t : Tk) : Decidable (fits1 s t) := by unfold fits1; infer_instance
def fitsT (ts : List Tk) (s : Sh) : Bool := ts.all fun t => decide (fits1 s t)
theorem fd_fits {b : List UInt8} {s : Sh} (hs : s.ok) (f i : Nat) : fitsT (fdF b s f i) s = true := by
  induction f generalizing i with
  | zero => rfl
  | succ f ih =>
    rw [fdF]
    split
    · next h =>
      have e : ∀ t l, fitsT (t :: l) s = (decide (fits1 s t) && fitsT l s) := fun t l => rfl
      rw [e, ih, Bool.and_true, decide_eq_true_eq]
      rcases stepT_cases hs h with h1 | h1
      · rw [h1]; exact .inl ⟨rfl, rfl⟩
      · obtain ⟨g1, _, _⟩ := h1.sz hs
        obtain ⟨d, n, q1, q2, q3, q4, q5, q6, q7, _⟩ := h1.ex
        exact .inr ⟨g1, by omega, by omega, by omega, by omega⟩
    · rfl
end Go.Proofs.Yteahcpkaagjkkaa
namespace Go.Proofs.Yteahcpkaagjkkaa
set_option linter.unusedVariables false
set_option linter.unusedSimpArgs false

/-- min bytes come twice within the window -/
def tw (b : List UInt8) (s : Sh) : Prop := ∃ i k : Nat, i + s.min.toNat ≤ b.length ∧ k < i ∧ (i : Int) - k ≤ s.win ∧ ∀ j, j < s.min.toNat → b.getD (k + j) 0 = b.getD (i + j) 0
theorem sme_tw {b : List UInt8} {s : Sh} (h : ¬ tw b s) {i k : Nat} (hk : k < i) (hw : (i : Int) - k ≤ s.win) (hm : 0 < s.min.toNat) : sme b k i s.min.toNat < s.min.toNat := by
  refine Nat.lt_of_not_le fun hge => h ?_
  have hall := fun j hj => cntUp_all (sm1 b k i) s.min.toNat 0 j (Nat.zero_le _) hj
  have h1 : ∀ j, j < s.min.toNat → i + j < b.length ∧ b.getD (k + j) 0 = b.getD (i + j) 0 := fun j hj => by
    have := hall j (by show j < sme b k i s.min.toNat; omega)
    unfold sm1 at this
    simpa using this
  exact ⟨i, k, by have := (h1 (s.min.toNat - 1) (by omega)).1; omega, hk, hw, fun j hj => (h1 j hj).2⟩
theorem atF_none {b : List UInt8} {s : Sh} (h : ¬ tw b s ∨ s.chain = 0) (hm : 0 < s.min.toNat) (i k : Nat) (hk : k ≤ i) : atF b s i k 0 ⟨0, 0, 0⟩ = ⟨0, 0, 0⟩ := by
  induction k with
  | zero => rfl
  | succ k ih =>
    rw [atF]
    split
    · next h1 =>
      rcases h with h | h
      · rw [if_pos (sme_tw h (by omega) h1.1 hm)]; exact ih (by omega)
      · have := h1.2; omega
    · rfl
theorem atT_none {b : List UInt8} {s : Sh} (hs : s.ok) (h : ¬ tw b s ∨ s.chain = 0) (i : Nat) : atT b s i = ⟨0, 0, 0⟩ := atF_none h (by obtain ⟨_, _, h3, _⟩ := hs; omega) i i (Nat.le_refl _)
theorem fd_none {b : List UInt8} {s : Sh} (hs : s.ok) (h : ¬ tw b s ∨ s.chain = 0) (f i : Nat) (hi : i ≤ b.length) (hf : b.length ≤ i + f) : fdF b s f i = (b.drop i).map fun c => ⟨c, 0, 0⟩ := by
  induction f generalizing i with
  | zero => rw [fdF, List.drop_of_length_le (by omega)]; rfl
  | succ f ih =>
    rw [fdF]
    by_cases hlt : i < b.length
    · have e : stepT b s i = ⟨b.getD i 0, 0, 0⟩ := by unfold stepT; rw [if_pos (.inl (by rw [atT_none hs h]))]
      rw [if_pos hlt, e, List.drop_eq_getElem_cons hlt, List.map_cons]
      have e2 : sz1 ⟨b.getD i 0, 0, 0⟩ = 1 := rfl
      rw [e2, ih (i + 1) (by omega) (by omega)]
      simp [hlt]
    · rw [if_neg hlt, List.drop_of_length_le (by omega)]; rfl
theorem found_none {b : List UInt8} {s : Sh} (hs : s.ok) (h : ¬ tw b s ∨ s.chain = 0) : found b s = b.map fun c => ⟨c, 0, 0⟩ := by
  unfold found
  rw [fd_none hs h b.length 0 (Nat.zero_le _) (by omega)]; rfl
/-- in a text of one byte all that stands is the same -/
theorem sme_rep (n : Nat) (c : UInt8) (k i m : Nat) (hk : k < i) : sme (List.replicate n c) k i m = min m (n - i) := by
  have h : ∀ j, j < n - i → sm1 (List.replicate n c) k i j = true := fun j hj => by
    unfold sm1
    have e1 : (List.replicate n c).getD (k + j) 0 = c := by rw [List.getD_eq_getElem?_getD, List.getElem?_replicate, if_pos (by omega)]; rfl
    have e2 : (List.replicate n c).getD (i + j) 0 = c := by rw [List.getD_eq_getElem?_getD, List.getElem?_replicate, if_pos (by omega)]; rfl
    rw [e1, e2]; simp; omega
  have hge := cntUp_ge (sm1 (List.replicate n c) k i) m 0 (min m (n - i)) (Nat.zero_le _) (by omega) (fun j _ hj => h j (by omega))
  have hle := (cntUp_le (sm1 (List.replicate n c) k i) m 0).2
  have h3 : sme (List.replicate n c) k i m ≤ n - i := by
    refine Nat.le_of_not_lt fun hlt => ?_
    have := cntUp_all (sm1 (List.replicate n c) k i) m 0 (n - i) (Nat.zero_le _) hlt
    unfold sm1 at this
    simp at this
    omega
  have h4 : min m (n - i) ≤ sme (List.replicate n c) k i m := hge
  have h5 : sme (List.replicate n c) k i m ≤ 0 + m := hle
  omega
theorem atF_keep {n : Nat} {c : UInt8} {s : Sh} {i : Nat} (k looked : Nat) (hk : k ≤ i) (t : Tk) (ht : ((min s.max.toNat (n - i) : Nat) : Int) ≤ t.len) : atF (List.replicate n c) s i k looked t = t := by
  induction k generalizing looked with
  | zero => rfl
  | succ k ih =>
    rw [atF]
    split
    · split
      · exact ih _ (by omega)
      · rw [sme_rep n c k i _ (by omega), if_neg (by omega)]; exact ih _ (by omega)
    · rfl
theorem atF_few {n : Nat} {c : UInt8} {s : Sh} {i : Nat} (k : Nat) (hk : k ≤ i) (hr : n - i < s.min.toNat) : atF (List.replicate n c) s i k 0 ⟨0, 0, 0⟩ = ⟨0, 0, 0⟩ := by
  induction k with
  | zero => rfl
  | succ k ih =>
    rw [atF]
    split
    · rw [sme_rep n c k i _ (by omega), if_pos (by omega)]; exact ih (by omega)
    · rfl
theorem atT_rep {n : Nat} {c : UInt8} {s : Sh} (hs : s.ok) (hc : 1 ≤ s.chain) (i : Nat) (hi : 1 ≤ i) : atT (List.replicate n c) s i = if n - i < s.min.toNat then ⟨0, 0, 0⟩ else ⟨0, 1, ((min s.max.toNat (n - i) : Nat) : Int)⟩ := by
  obtain ⟨h1, h2, h3, h4, h5, h6, h7, h8⟩ := hs
  unfold atT
  split
  · next h => exact atF_few i (Nat.le_refl _) h
  · next h =>
    obtain ⟨k, rfl⟩ : ∃ k, i = k + 1 := ⟨i - 1, by omega⟩
    rw [atF, if_pos ⟨by omega, by omega⟩, sme_rep n c k (k + 1) _ (by omega), if_neg (by omega), sme_rep n c k (k + 1) _ (by omega), if_pos (by show (0 : Int) < _; omega)]
    rw [show ((k + 1 : Nat) : Int) - (k : Int) = 1 by omega]
    exact atF_keep k 1 (by omega) _ (Int.le_refl _)
theorem atT_zero (b : List UInt8) (s : Sh) : atT b s 0 = ⟨0, 0, 0⟩ := rfl
theorem stepT_rep {n : Nat} {c : UInt8} {s : Sh} (hs : s.ok) (hc : 1 ≤ s.chain) (i : Nat) (hi : 1 ≤ i) (hin : i < n) : sz1 (stepT (List.replicate n c) s i) = if n - i < s.min.toNat then 1 else min s.max.toNat (n - i) := by
  have ha := atT_rep (n := n) (c := c) hs hc i hi
  have hb := atT_rep (n := n) (c := c) hs hc (i + 1) (by omega)
  obtain ⟨h1, h2, h3, h4, h5, h6, h7, h8⟩ := hs
  unfold stepT
  by_cases h : n - i < s.min.toNat
  · rw [if_pos h] at ha
    rw [if_pos (.inl (by rw [ha])), if_pos h]; rfl
  · rw [if_neg h] at ha
    have hnw : ¬ ((atT (List.replicate n c) s i).len = 0 ∨ waits (List.replicate n c) s i) := by
      intro g
      rcases g with g | g
      · rw [ha] at g; simp only at g; omega
      · unfold waits at g
        obtain ⟨_, _, _, _, g5⟩ := g
        rw [ha, hb] at g5
        split at g5
        · simp only at g5; omega
        · simp only at g5; omega
    rw [if_neg hnw, ha, if_neg h]
    unfold sz1
    rw [if_neg (by simp only; omega)]
    simp
/-- how many tokens from i on -/
theorem fd_rep {n : Nat} {c : UInt8} {s : Sh} (hs : s.ok) (hc : 1 ≤ s.chain) (f i : Nat) (hi : 1 ≤ i) : (fdF (List.replicate n c) s f i).length ≤ (n - i + s.max.toNat - 1) / s.max.toNat + s.min.toNat ∧ (n - i < s.min.toNat → (fdF (List.replicate n c) s f i).length ≤ n - i) := by
  have hm : 2 ≤ s.max.toNat := by obtain ⟨_, _, h3, _, h5, _⟩ := hs; omega
  have hmm : s.min.toNat ≤ s.max.toNat := by obtain ⟨_, _, h3, _, h5, _⟩ := hs; omega
  have hm1 : 1 ≤ s.min.toNat := by obtain ⟨_, _, h3, _, h5, _⟩ := hs; omega
  induction f generalizing i with
  | zero => rw [fdF]; simp
  | succ f ih =>
    rw [fdF]
    by_cases hlt : i < n
    · rw [if_pos (by simpa using hlt), List.length_cons]
      have hz := stepT_rep (c := c) hs hc i hi hlt
      obtain ⟨g1, g2⟩ := ih (i + sz1 (stepT (List.replicate n c) s i)) (by omega)
      rw [hz] at g1 g2 ⊢
      by_cases h : n - i < s.min.toNat
      · rw [if_pos h] at g1 g2 ⊢
        have := g2 (by omega)
        refine ⟨?_, fun _ => by omega⟩
        have : 0 ≤ (n - i + s.max.toNat - 1) / s.max.toNat := Nat.zero_le _
        omega
      · rw [if_neg h] at g1 g2 ⊢
        refine ⟨?_, fun h' => absurd h' h⟩
        by_cases hb : n - i ≤ s.max.toNat
        · have e : n - (i + min s.max.toNat (n - i)) = 0 := by omega
          rw [e] at g2
          have h0 := g2 (by omega)
          have : 1 ≤ (n - i + s.max.toNat - 1) / s.max.toNat := (Nat.le_div_iff_mul_le (by omega)).2 (by omega)
          omega
        · have e : n - (i + min s.max.toNat (n - i)) + s.max.toNat - 1 = n - i - 1 := by omega
          rw [e] at g1
          have e2 : n - i + s.max.toNat - 1 = (n - i - 1) + s.max.toNat := by omega
          rw [e2, Nat.add_div_right _ (by omega)]
          omega
    · rw [if_neg (by simpa using hlt)]; simp
theorem found_rep {n : Nat} {c : UInt8} {s : Sh} (hs : s.ok) (hc : 1 ≤ s.chain) (hn : 0 < n) : (found (List.replicate n c) s).length ≤ 1 + (n - 1 + s.max.toNat - 1) / s.max.toNat + s.min.toNat := by
  unfold found
  rw [List.length_replicate]
  obtain ⟨m, rfl⟩ : ∃ m, n = m + 1 := ⟨n - 1, by omega⟩
  rw [fdF, if_pos (by simp)]
  have e : stepT (List.replicate (m + 1) c) s 0 = ⟨(List.replicate (m + 1) c).getD 0 0, 0, 0⟩ := by unfold stepT; rw [if_pos (.inl (by rw [atT_zero]))]
  rw [e, List.length_cons]
  have := (fd_rep (n := m + 1) (c := c) hs hc m (0 + sz1 ⟨(List.replicate (m + 1) c).getD 0 0, 0, 0⟩) (Nat.le_refl _)).1
  have e2 : sz1 ⟨(List.replicate (m + 1) c).getD 0 0, 0, 0⟩ = 1 := rfl
  rw [e2, Nat.zero_add] at this ⊢
  omega
end Go.Proofs.Yteahcpkaagjkkaa
namespace Go.Proofs.Yteahcpkaagjkkaa
set_option linter.unusedVariables false
set_option linter.unusedSimpArgs false

/-- a power of two: how many lengths a byte V tells -/
def low13 (f : Nat) : Nat := 2 ^ (8 - f)
theorem low13_of (f : Nat) (h1 : 1 ≤ f) (h2 : f ≤ 4) : 16 ≤ low13 f ∧ low13 f ≤ 128 ∧ low13 f * 2 ^ f = 256 := by
  have h : f = 1 ∨ f = 2 ∨ f = 3 ∨ f = 4 := by omega
  rcases h with rfl | rfl | rfl | rfl <;> decide
/-- a machine: its factor, what was told, what it waits for, V and the length so far -/
structure MS where
  f : Nat
  o : HS
  st : Nat
  V : Nat
  N : Nat
def MS.full (m : MS) : Bool := decide (m.st = 0) && decide (m.o.b.length = m.o.most)
def MS.feed (m : MS) (c : UInt8) : Nat × MS :=
  if m.full then (9, m)
  else if m.st = 0 then (if c.toNat = 144 then (0, { m with st := 1 }) else ((m.o.lit c).1, { m with o := (m.o.lit c).2 }))
  else if m.st = 1 then
    (if c.toNat = 0 then ((m.o.lit 144).1, { m with o := (m.o.lit 144).2, st := if (m.o.lit 144).1 = 0 then 0 else 1 })
     else (0, { m with V := c.toNat, N := c.toNat % low13 m.f, st := if c.toNat % low13 m.f = low13 m.f - 1 then 2 else 3 }))
  else if m.st = 2 then (0, { m with N := m.N + c.toNat, st := 3 })
  else ((m.o.copy (256 * (m.V / low13 m.f) + c.toNat + 1 : Nat) (m.N + 3 : Nat)).1, { m with o := (m.o.copy (256 * (m.V / low13 m.f) + c.toNat + 1 : Nat) (m.N + 3 : Nat)).2, st := if (m.o.copy (256 * (m.V / low13 m.f) + c.toNat + 1 : Nat) (m.N + 3 : Nat)).1 = 0 then 0 else m.st })
def MS.all : MS → List UInt8 → Nat × MS
  | m, [] => (0, m)
  | m, c :: t => if (m.feed c).1 = 0 then MS.all (m.feed c).2 t else m.feed c
theorem MS.all_append (m : MS) (a t : List UInt8) (h : (m.all a).1 = 0) : m.all (a ++ t) = (m.all a).2.all t := by
  induction a generalizing m with
  | nil => rfl
  | cons c a ih =>
    simp only [List.cons_append, MS.all] at h ⊢
    by_cases e : (m.feed c).1 = 0
    · rw [if_pos e] at h ⊢; rw [if_pos e]; exact ih _ h
    · rw [if_neg e] at h; exact absurd h e
theorem MS.all_step (m : MS) (c : UInt8) (t : List UInt8) (m2 : MS) (h : m.feed c = (0, m2)) : m.all (c :: t) = m2.all t := by
  simp only [MS.all, h]; rfl
/-- where a machine stands that is at rest -/
def at13 (f : Nat) (b : List UInt8) (i V N : Nat) : MS := ⟨f, ⟨65536, b.length, true, b.take i⟩, 0, V, N⟩
/-- bytes as they are told -/
def lits (l : List UInt8) : List UInt8 := l.flatMap fun c => if c.toNat = 144 then [c, 0] else [c]
theorem lits_cons (c : UInt8) (t : List UInt8) : lits (c :: t) = (if c.toNat = 144 then [c, 0] else [c]) ++ lits t := by unfold lits; rw [List.flatMap_cons]
theorem lits_len (l : List UInt8) : (lits l).length ≤ 2 * l.length := by
  induction l with
  | nil => exact Nat.le_refl _
  | cons c t ih =>
    rw [lits_cons, List.length_append, List.length_cons]
    split
    · simp only [List.length_cons, List.length_nil]; omega
    · simp only [List.length_cons, List.length_nil]; omega
theorem feed_0 (f : Nat) (o : HS) (V N : Nat) (c : UInt8) (h : o.b.length ≠ o.most) (hc : c.toNat ≠ 144) : (⟨f, o, 0, V, N⟩ : MS).feed c = ((o.lit c).1, ⟨f, (o.lit c).2, 0, V, N⟩) := by
  simp [MS.feed, MS.full, h, hc]
theorem feed_0m (f : Nat) (o : HS) (V N : Nat) (c : UInt8) (h : o.b.length ≠ o.most) (hc : c.toNat = 144) : (⟨f, o, 0, V, N⟩ : MS).feed c = (0, ⟨f, o, 1, V, N⟩) := by
  simp [MS.feed, MS.full, h, hc]
theorem feed_1z (f : Nat) (o : HS) (V N : Nat) (c : UInt8) (hc : c.toNat = 0) : (⟨f, o, 1, V, N⟩ : MS).feed c = ((o.lit 144).1, ⟨f, (o.lit 144).2, if (o.lit 144).1 = 0 then 0 else 1, V, N⟩) := by
  simp [MS.feed, MS.full, hc]
theorem feed_1 (f : Nat) (o : HS) (V N : Nat) (c : UInt8) (hc : c.toNat ≠ 0) : (⟨f, o, 1, V, N⟩ : MS).feed c = (0, ⟨f, o, if c.toNat % low13 f = low13 f - 1 then 2 else 3, c.toNat, c.toNat % low13 f⟩) := by
  simp [MS.feed, MS.full, hc]
theorem feed_2 (f : Nat) (o : HS) (V N : Nat) (c : UInt8) : (⟨f, o, 2, V, N⟩ : MS).feed c = (0, ⟨f, o, 3, V, N + c.toNat⟩) := by
  simp [MS.feed, MS.full]
theorem feed_3 (f : Nat) (o : HS) (V N : Nat) (c : UInt8) (o2 : HS) (h : o.copy (256 * (V / low13 f) + c.toNat + 1 : Nat) (N + 3 : Nat) = (0, o2)) : (⟨f, o, 3, V, N⟩ : MS).feed c = (0, ⟨f, o2, 0, V, N⟩) := by
  unfold MS.feed
  rw [if_neg (by simp [MS.full]), if_neg (by simp), if_neg (by simp), if_neg (by simp)]
  simp only [h]; rfl
theorem feed_lit (f : Nat) (b : List UInt8) (i V N : Nat) (hi : i < b.length) : (at13 f b i V N).all (if (b.getD i 0).toNat = 144 then [b.getD i 0, 0] else [b.getD i 0]) = (0, at13 f b (i + 1) V N) := by
  have hl : (b.take i).length = i := by rw [List.length_take]; omega
  have hne : (⟨65536, b.length, true, b.take i⟩ : HS).b.length ≠ (⟨65536, b.length, true, b.take i⟩ : HS).most := by
    show (b.take i).length ≠ b.length; omega
  have ht := take_snoc b i hi
  have hlit : ∀ c, (⟨65536, b.length, true, b.take i⟩ : HS).lit c = (0, ⟨65536, b.length, true, b.take i ++ [c]⟩) := by
    intro c
    unfold HS.lit
    rw [if_neg (by simp only [hl]; omega)]
  split
  · next e =>
    unfold at13
    rw [MS.all_step _ _ _ _ (feed_0m f _ V N _ hne e)]
    have e2 := feed_1z f (⟨65536, b.length, true, b.take i⟩ : HS) V N 0 rfl
    rw [hlit] at e2
    rw [MS.all_step _ _ _ _ e2, ht]
    have : b.getD i 0 = 144 := by apply UInt8.toNat_inj.1; simpa using e
    rw [this]; rfl
  · next e =>
    unfold at13
    have e1 := feed_0 f (⟨65536, b.length, true, b.take i⟩ : HS) V N (b.getD i 0) hne e
    rw [hlit] at e1
    rw [MS.all_step _ _ _ _ e1, ht]; rfl
theorem feed_lits (f : Nat) (b : List UInt8) (n i V N : Nat) (hi : i + n ≤ b.length) : (at13 f b i V N).all (lits ((b.drop i).take n)) = (0, at13 f b (i + n) V N) := by
  induction n generalizing i with
  | zero => rw [List.take_zero]; rfl
  | succ n ih =>
    have hd : b.drop i = b.getD i 0 :: b.drop (i + 1) := by
      rw [List.drop_eq_getElem_cons (show i < b.length by omega), List.getD_eq_getElem?_getD, List.getElem?_eq_getElem (by omega)]; rfl
    rw [hd, List.take_succ_cons, lits_cons, MS.all_append _ _ _ (by rw [feed_lit f b i V N (by omega)]), feed_lit f b i V N (by omega)]
    show (at13 f b (i + 1) V N).all (lits ((b.drop (i + 1)).take n)) = _
    rw [ih (i + 1) (by omega), show i + 1 + n = i + (n + 1) by omega]
/-- what a copy's byte V is -/
def v13 (f d n : Nat) : Nat := min (n - 3) (low13 f - 1) + low13 f * ((d - 1) / 256)
/-- the bytes of a copy -/
def em13 (f d n : Nat) : List UInt8 := [144, UInt8.ofNat (v13 f d n)] ++ (if low13 f - 1 ≤ n - 3 then [UInt8.ofNat (n - 3 - (low13 f - 1))] else []) ++ [UInt8.ofNat ((d - 1) % 256)]
theorem v13_lt (f d n : Nat) (h1 : 1 ≤ f) (h2 : f ≤ 4) (hd : 1 ≤ d) (hd2 : d ≤ 256 * 2 ^ f) : v13 f d n < 256 ∧ v13 f d n % low13 f = min (n - 3) (low13 f - 1) ∧ v13 f d n / low13 f = (d - 1) / 256 := by
  obtain ⟨a, b, c⟩ := low13_of f h1 h2
  have hq : (d - 1) / 256 < 2 ^ f := (Nat.div_lt_iff_lt_mul (by decide)).2 (by omega)
  have hm : min (n - 3) (low13 f - 1) < low13 f := by omega
  refine ⟨?_, ?_, ?_⟩
  · unfold v13
    have : low13 f * ((d - 1) / 256 + 1) ≤ low13 f * 2 ^ f := Nat.mul_le_mul_left _ (by omega)
    rw [Nat.mul_add, Nat.mul_one] at this
    omega
  · unfold v13; rw [Nat.add_mul_mod_self_left, Nat.mod_eq_of_lt hm]
  · unfold v13; rw [Nat.add_mul_div_left _ _ (by omega), Nat.div_eq_of_lt hm, Nat.zero_add]
theorem feed_em (f : Nat) (b : List UInt8) (i d n V N : Nat) (h1 : 1 ≤ f) (h2 : f ≤ 4) (hd : 1 ≤ d) (hdi : d ≤ i) (hd2 : d ≤ 256 * 2 ^ f) (hn : 3 ≤ n) (hn2 : n ≤ low13 f + 257) (hin : i + n ≤ b.length)
    (hs : ∀ j, j < n → b.getD (i - d + j) 0 = b.getD (i + j) 0) (hv : v13 f d n ≠ 0) : ∃ V' N', (at13 f b i V N).all (em13 f d n) = (0, at13 f b (i + n) V' N') := by
  obtain ⟨a, bb, c⟩ := low13_of f h1 h2
  obtain ⟨v1, v2, v3⟩ := v13_lt f d n h1 h2 hd hd2
  have hl : (b.take i).length = i := by rw [List.length_take]; omega
  have hne : (⟨65536, b.length, true, b.take i⟩ : HS).b.length ≠ (⟨65536, b.length, true, b.take i⟩ : HS).most := by
    show (b.take i).length ≠ b.length; omega
  have hto : (UInt8.ofNat (v13 f d n)).toNat = v13 f d n := by rw [UInt8.toNat_ofNat']; omega
  have hdm : (UInt8.ofNat ((d - 1) % 256)).toNat = (d - 1) % 256 := by rw [UInt8.toNat_ofNat']; omega
  have hcopy : (⟨65536, b.length, true, b.take i⟩ : HS).copy (256 * ((d - 1) / 256) + (d - 1) % 256 + 1 : Nat) (n - 3 + 3 : Nat) = (0, ⟨65536, b.length, true, b.take (i + n)⟩) := by
    rw [show 256 * ((d - 1) / 256) + (d - 1) % 256 + 1 = d by omega, show n - 3 + 3 = n by omega]
    have hpf : 2 ^ f ≤ 2 ^ 4 := Nat.pow_le_pow_right (by decide) h2
    unfold HS.copy
    rw [if_neg (by omega), if_neg (by
      intro g
      rcases g with g | g
      · simp only at g; omega
      · exact absurd g.2 (by simp)), if_neg (by simp only [hl]; omega)]
    show (0, (⟨65536, b.length, true, cpy (b.take i) (d : Int).toNat (n : Int).toNat⟩ : HS)) = _
    rw [Int.toNat_natCast, Int.toNat_natCast, cpy_same b i d n hd hdi hin hs]
  unfold em13 at13
  rw [List.append_assoc, List.cons_append, List.cons_append, List.nil_append, MS.all_step _ _ _ _ (feed_0m f _ V N 144 hne rfl)]
  have e1 := feed_1 f (⟨65536, b.length, true, b.take i⟩ : HS) V N (UInt8.ofNat (v13 f d n)) (by rw [hto]; exact hv)
  rw [hto, v2] at e1
  rw [MS.all_step _ _ _ _ e1]
  by_cases hbig : low13 f - 1 ≤ n - 3
  · have hm : min (n - 3) (low13 f - 1) = low13 f - 1 := by omega
    have hx : (UInt8.ofNat (n - 3 - (low13 f - 1))).toNat = n - 3 - (low13 f - 1) := by rw [UInt8.toNat_ofNat']; omega
    rw [if_pos hbig, hm, if_pos rfl, List.cons_append, List.nil_append]
    have e2 := feed_2 f (⟨65536, b.length, true, b.take i⟩ : HS) (v13 f d n) (low13 f - 1) (UInt8.ofNat (n - 3 - (low13 f - 1)))
    rw [hx, show low13 f - 1 + (n - 3 - (low13 f - 1)) = n - 3 by omega] at e2
    rw [MS.all_step _ _ _ _ e2]
    have e3 := feed_3 f (⟨65536, b.length, true, b.take i⟩ : HS) (v13 f d n) (n - 3) (UInt8.ofNat ((d - 1) % 256)) _ (by rw [v3, hdm]; exact hcopy)
    rw [MS.all_step _ _ _ _ e3]
    exact ⟨_, _, rfl⟩
  · have hm : min (n - 3) (low13 f - 1) = n - 3 := by omega
    rw [if_neg hbig, hm, if_neg (by omega), List.nil_append]
    have e3 := feed_3 f (⟨65536, b.length, true, b.take i⟩ : HS) (v13 f d n) (n - 3) (UInt8.ofNat ((d - 1) % 256)) _ (by rw [v3, hdm]; exact hcopy)
    rw [MS.all_step _ _ _ _ e3]
    exact ⟨_, _, rfl⟩
end Go.Proofs.Yteahcpkaagjkkaa
namespace Go.Proofs.Yteahcpkaagjkkaa
set_option linter.unusedVariables false
set_option linter.unusedSimpArgs false

def sh13 (f : Nat) : Sh := ⟨256 * 2 ^ f, 3, low13 f + 257, 64, true⟩
theorem sh13_ok (f : Nat) (h1 : 1 ≤ f) (h2 : f ≤ 4) : (sh13 f).ok ∧ (sh13 f).win = ((256 * 2 ^ f : Nat) : Int) ∧ (sh13 f).max = ((low13 f + 257 : Nat) : Int) := by
  have h : f = 1 ∨ f = 2 ∨ f = 3 ∨ f = 4 := by omega
  rcases h with rfl | rfl | rfl | rfl <;> (refine ⟨?_, by decide, by decide⟩; unfold Sh.ok; decide)
/-- the bytes of a token at i -/
def emT (f : Nat) (b : List UInt8) (i : Nat) (t : Tk) : List UInt8 :=
  if t.len = 0 then lits ((b.drop i).take 1)
  else if v13 f t.dist.toNat t.len.toNat = 0 then lits ((b.drop i).take t.len.toNat)
  else em13 f t.dist.toNat t.len.toNat
def encT (f : Nat) (b : List UInt8) : List Tk → Nat → List UInt8
  | [], _ => []
  | t :: ts, i => emT f b i t ++ encT f b ts (i + sz1 t)
def enc13 (f : Nat) (b : List UInt8) : List UInt8 := encT f b (found b (sh13 f)) 0
theorem em13_len (f d n : Nat) : (em13 f d n).length ≤ 4 := by
  unfold em13
  split <;> simp
theorem v13_zero (f d n : Nat) (h1 : 1 ≤ f) (h2 : f ≤ 4) (hv : v13 f d n = 0) : n ≤ 3 := by
  obtain ⟨a, b, c⟩ := low13_of f h1 h2
  unfold v13 at hv
  omega
theorem enc_fd (f : Nat) (h1 : 1 ≤ f) (h2 : f ≤ 4) (b : List UInt8) (F i V N : Nat) (hi : i ≤ b.length) (hF : b.length ≤ i + F) : (∃ V' N', (at13 f b i V N).all (encT f b (fdF b (sh13 f) F i) i) = (0, at13 f b b.length V' N')) ∧ (encT f b (fdF b (sh13 f) F i) i).length ≤ 2 * (b.length - i) := by
  obtain ⟨hs, hw, hm⟩ := sh13_ok f h1 h2
  induction F generalizing i V N with
  | zero =>
    have e : i = b.length := by omega
    subst e
    rw [fdF, encT]
    exact ⟨⟨V, N, rfl⟩, Nat.zero_le _⟩
  | succ F ih =>
    rw [fdF]
    by_cases hlt : i < b.length
    · rw [if_pos hlt, encT]
      obtain ⟨z1, z2⟩ := stepT_sz hs hlt
      have key : (∃ V' N', (at13 f b i V N).all (emT f b i (stepT b (sh13 f) i)) = (0, at13 f b (i + sz1 (stepT b (sh13 f) i)) V' N')) ∧ (emT f b i (stepT b (sh13 f) i)).length ≤ 2 * sz1 (stepT b (sh13 f) i) := by
        rcases stepT_cases hs hlt with h | h
        · rw [h]
          unfold emT
          rw [if_pos rfl]
          refine ⟨⟨V, N, feed_lits f b 1 i V N hlt⟩, ?_⟩
          refine Nat.le_trans (lits_len _) (Nat.mul_le_mul_left _ ?_)
          rw [List.length_take]; show _ ≤ 1; omega
        · obtain ⟨g1, g2, g3⟩ := h.sz hs
          obtain ⟨d, n, e1, e2, e3, e4, e5, e6, e7, e8, e9⟩ := h.ex
          have hz : sz1 (stepT b (sh13 f) i) = n := by unfold sz1; rw [if_neg g1, e2]; simp
          rw [hw] at e5
          rw [hm] at e7
          have e6' : 3 ≤ n := by have : (3 : Int) ≤ (n : Int) := e6; omega
          unfold emT
          rw [if_neg g1, e1, e2, hz, Int.toNat_natCast, Int.toNat_natCast]
          by_cases hv : v13 f d n = 0
          · rw [if_pos hv]
            refine ⟨⟨V, N, feed_lits f b n i V N e8⟩, ?_⟩
            refine Nat.le_trans (lits_len _) (Nat.mul_le_mul_left _ ?_)
            rw [List.length_take]; omega
          · rw [if_neg hv]
            refine ⟨feed_em f b i d n V N h1 h2 e3 e4 (by omega) e6' (by omega) e8 e9 hv, ?_⟩
            have := em13_len f d n
            omega
      obtain ⟨⟨V1, N1, k1⟩, k2⟩ := key
      obtain ⟨⟨V2, N2, k3⟩, k4⟩ := ih (i + sz1 (stepT b (sh13 f) i)) V1 N1 z2 (by omega)
      refine ⟨⟨V2, N2, ?_⟩, ?_⟩
      · rw [MS.all_append _ _ _ (by rw [k1]), k1]
        exact k3
      · rw [List.length_append]; omega
    · have e : i = b.length := by omega
      subst e
      rw [if_neg hlt, encT]
      exact ⟨⟨V, N, rfl⟩, Nat.zero_le _⟩
theorem enc_tell (f : Nat) (h1 : 1 ≤ f) (h2 : f ≤ 4) (b : List UInt8) : (∃ V N, (at13 f b 0 0 0).all (enc13 f b) = (0, at13 f b b.length V N)) ∧ (enc13 f b).length ≤ 2 * b.length := by
  have h := enc_fd f h1 h2 b b.length 0 0 0 (Nat.zero_le _) (by omega)
  exact ⟨h.1, by have := h.2; unfold enc13 found; omega⟩
theorem enc_rep (f : Nat) (h1 : 1 ≤ f) (h2 : f ≤ 4) (n : Nat) (c : UInt8) (F i : Nat) (hi : 1 ≤ i) : (encT f (List.replicate n c) (fdF (List.replicate n c) (sh13 f) F i) i).length ≤ 4 * ((n - i) / (low13 f + 257)) + 6 ∧ (n - i < 3 → (encT f (List.replicate n c) (fdF (List.replicate n c) (sh13 f) F i) i).length ≤ 2 * (n - i)) := by
  obtain ⟨hs, hw, hm⟩ := sh13_ok f h1 h2
  have hmx : (sh13 f).max.toNat = low13 f + 257 := by rw [hm, Int.toNat_natCast]
  have hmn : (sh13 f).min.toNat = 3 := rfl
  induction F generalizing i with
  | zero => rw [fdF, encT]; exact ⟨Nat.zero_le _, fun _ => Nat.zero_le _⟩
  | succ F ih =>
    rw [fdF]
    by_cases hlt : i < n
    · rw [if_pos (by simpa using hlt), encT, List.length_append]
      have hz := stepT_rep (c := c) hs (by decide : (1 : Int) ≤ 64) i hi hlt
      rw [hmx, hmn] at hz
      obtain ⟨g1, g2⟩ := ih (i + sz1 (stepT (List.replicate n c) (sh13 f) i)) (by omega)
      have hem : (emT f (List.replicate n c) i (stepT (List.replicate n c) (sh13 f) i)).length ≤ (if n - i < 3 then 2 else if n - i ≤ 3 then 6 else 4) := by
        rcases stepT_cases hs (show i < (List.replicate n c).length by simpa using hlt) with h | h
        · have hz1 : sz1 (stepT (List.replicate n c) (sh13 f) i) = 1 := by rw [h]; rfl
          have hr : n - i < 3 := by
            rcases Nat.lt_or_ge (n - i) 3 with h' | h'
            · exact h'
            · rw [hz1, if_neg (by omega)] at hz; omega
          rw [h, if_pos hr]
          unfold emT
          rw [if_pos rfl]
          refine Nat.le_trans (lits_len _) ?_
          rw [List.length_take]; omega
        · obtain ⟨g1', g2', _⟩ := h.sz hs
          have hr : ¬ n - i < 3 := by intro h'; rw [if_pos h'] at hz; omega
          rw [if_neg hr] at hz ⊢
          obtain ⟨d, k, e1, e2, _⟩ := h.ex
          have hzk : sz1 (stepT (List.replicate n c) (sh13 f) i) = k := by unfold sz1; rw [if_neg g1', e2]; simp
          rw [hzk] at hz
          unfold emT
          rw [if_neg g1', e1, e2, Int.toNat_natCast, Int.toNat_natCast]
          by_cases hv : v13 f d k = 0
          · have := v13_zero f d k h1 h2 hv
            rw [if_pos hv]
            have hl := lits_len (((List.replicate n c).drop i).take k)
            rw [List.length_take] at hl
            rw [if_pos (by omega)]; omega
          · rw [if_neg hv]
            have := em13_len f d k
            split <;> omega
      rw [hz] at g1 g2 ⊢
      by_cases h : n - i < 3
      · rw [if_pos h] at g1 g2 hem ⊢
        have := g2 (by omega)
        refine ⟨by omega, fun _ => by omega⟩
      · rw [if_neg h] at g1 g2 hem ⊢
        refine ⟨?_, fun h' => absurd h' h⟩
        by_cases hb : n - i < low13 f + 257
        · have e : n - (i + min (low13 f + 257) (n - i)) = 0 := by omega
          rw [e] at g2
          have h0 := g2 (by omega)
          have : (if n - i ≤ 3 then 6 else 4) ≤ 6 := by split <;> omega
          omega
        · have e : n - (i + min (low13 f + 257) (n - i)) = n - i - (low13 f + 257) := by omega
          rw [e] at g1
          rw [if_neg (by omega)] at hem
          have e2 : (n - i) / (low13 f + 257) = (n - i - (low13 f + 257)) / (low13 f + 257) + 1 := by
            rw [← Nat.add_div_right _ (by omega), Nat.sub_add_cancel (by omega)]
          omega
    · rw [if_neg (by simpa using hlt), encT]
      exact ⟨Nat.zero_le _, fun _ => Nat.zero_le _⟩
theorem enc_runs (f : Nat) (h1 : 1 ≤ f) (h2 : f ≤ 4) (n : Nat) (c : UInt8) : (enc13 f (List.replicate n c)).length ≤ 4 * (n / (low13 f + 257)) + 12 := by
  obtain ⟨hs, hw, hm⟩ := sh13_ok f h1 h2
  unfold enc13 found
  rw [List.length_replicate]
  cases n with
  | zero => rw [fdF, encT]; exact Nat.zero_le _
  | succ n =>
    rw [fdF, if_pos (by simp), encT, List.length_append]
    have h0 : stepT (List.replicate (n + 1) c) (sh13 f) 0 = ⟨(List.replicate (n + 1) c).getD 0 0, 0, 0⟩ := by
      unfold stepT; rw [atT_zero]; rw [if_pos (.inl rfl)]
    rw [h0]
    have hz : sz1 ⟨(List.replicate (n + 1) c).getD 0 0, 0, 0⟩ = 1 := rfl
    rw [hz, Nat.zero_add]
    have hr := (enc_rep f h1 h2 (n + 1) c n 1 (Nat.le_refl _)).1
    have he : (emT f (List.replicate (n + 1) c) 0 ⟨(List.replicate (n + 1) c).getD 0 0, 0, 0⟩).length ≤ 2 := by
      unfold emT
      rw [if_pos rfl]
      refine Nat.le_trans (lits_len _) ?_
      rw [List.length_take]; omega
    have hd : (n + 1 - 1) / (low13 f + 257) ≤ (n + 1) / (low13 f + 257) := Nat.div_le_div_right (by omega)
    omega
end Go.Proofs.Yteahcpkaagjkkaa
namespace Go.Proofs.Yteahcpkaagjkkaa
set_option linter.unusedVariables false
set_option linter.unusedSimpArgs false

theorem all_get (m : MS) (l : List UInt8) (k : Nat) (hk : k < l.length) (h : (m.all l).1 = 0) : (m.all (l.take k)).1 = 0 ∧ ((m.all (l.take k)).2.feed l[k]).1 = 0 ∧ (m.all (l.take (k + 1))).2 = ((m.all (l.take k)).2.feed l[k]).2 := by
  induction l generalizing m k with
  | nil => simp at hk
  | cons c t ih =>
    simp only [MS.all] at h
    by_cases e : (m.feed c).1 = 0
    · rw [if_pos e] at h
      cases k with
      | zero => refine ⟨rfl, e, ?_⟩; simp only [List.take_succ_cons, List.take_zero, MS.all]; rw [if_pos e]; rfl
      | succ k =>
        have := ih (m.feed c).2 k (by simpa using hk) h
        simp only [List.take_succ_cons, MS.all, if_pos e, List.getElem_cons_succ]
        exact this
    · rw [if_neg e] at h; exact absurd h e
theorem feed_full (m : MS) (c : UInt8) (h : (m.feed c).1 = 0) : m.full = false := by
  cases e : m.full with
  | false => rfl
  | true => unfold MS.feed at h; rw [e, if_pos rfl] at h; cases h
theorem HS.lit_le (s : HS) (c : UInt8) (h : s.b.length ≤ s.most) : (s.lit c).2.b.length ≤ (s.lit c).2.most ∧ (s.lit c).2.most = s.most := by
  unfold HS.lit
  split
  · exact ⟨h, rfl⟩
  · exact ⟨by show (s.b ++ [c]).length ≤ s.most; rw [List.length_append]; simp; omega, rfl⟩
theorem HS.copy_le (s : HS) (d n : Int) (h : s.b.length ≤ s.most) : (s.copy d n).2.b.length ≤ (s.copy d n).2.most ∧ (s.copy d n).2.most = s.most := by
  unfold HS.copy
  split
  · exact ⟨h, rfl⟩
  · split
    · exact ⟨h, rfl⟩
    · split
      · exact ⟨h, rfl⟩
      · rename_i a b c
        refine ⟨?_, rfl⟩
        show (cpy s.b d.toNat n.toNat).length ≤ s.most
        rw [cpy_len]; omega
theorem feed_le (m : MS) (c : UInt8) (h : m.o.b.length ≤ m.o.most) : (m.feed c).2.o.b.length ≤ (m.feed c).2.o.most ∧ (m.feed c).2.o.most = m.o.most := by
  unfold MS.feed
  split
  · exact ⟨h, rfl⟩
  split
  · split
    · exact ⟨h, rfl⟩
    · exact HS.lit_le _ _ h
  split
  · split
    · exact HS.lit_le _ _ h
    · exact ⟨h, rfl⟩
  split
  · exact ⟨h, rfl⟩
  · exact HS.copy_le _ _ _ h
theorem feed_grow (m : MS) (c : UInt8) : (m.feed c).2.o.b.length ≤ m.o.b.length + m.N + 3 := by
  have hlit : ∀ x, (m.o.lit x).2.b.length ≤ m.o.b.length + 1 := by
    intro x; unfold HS.lit; split
    · show m.o.b.length ≤ _; omega
    · show (m.o.b ++ [x]).length ≤ _; rw [List.length_append]; exact Nat.le_refl _
  have hcopy : ∀ d : Int, (m.o.copy d (m.N + 3 : Nat)).2.b.length ≤ m.o.b.length + (m.N + 3) := by
    intro d
    unfold HS.copy
    split
    · show m.o.b.length ≤ _; omega
    · split
      · show m.o.b.length ≤ _; omega
      · split
        · show m.o.b.length ≤ _; omega
        · show (cpy m.o.b d.toNat ((m.N + 3 : Nat) : Int).toNat).length ≤ _
          rw [cpy_len]; simp
  unfold MS.feed
  split
  · show m.o.b.length ≤ _; omega
  split
  · split
    · show m.o.b.length ≤ _; omega
    · have := hlit c; show (m.o.lit c).2.b.length ≤ _; omega
  split
  · split
    · have := hlit 144; show (m.o.lit 144).2.b.length ≤ _; omega
    · show m.o.b.length ≤ _; omega
  split
  · show m.o.b.length ≤ _; omega
  · have := hcopy (256 * (m.V / low13 m.f) + c.toNat + 1 : Nat); show (m.o.copy _ _).2.b.length ≤ _; omega
end Go.Proofs.Yteahcpkaagjkkaa
namespace Go.Proofs.Yteahcpkaagjkkaa
set_option linter.unusedVariables false
set_option linter.unusedSimpArgs false

/-- n bytes, as they are read -/
def RS.byt (r : RS) : Nat → List UInt8 × RS
  | 0 => ([], r)
  | n + 1 => ((r.byt n).1 ++ [UInt8.ofNat ((r.byt n).2.bits 8).1], ((r.byt n).2.bits 8).2)
theorem RS.byt_len (r : RS) (n : Nat) : (r.byt n).1.length = n := by
  induction n with
  | zero => rfl
  | succ n ih => rw [RS.byt, List.length_append, ih]; rfl
theorem RS.bits_err (r : RS) (n : Int) (h : r.E ≠ 0) (h0 : 0 ≤ n) (h2 : n ≤ 32) : r.bits n = (0, r) := by
  unfold RS.bits
  rw [if_neg (by omega), if_pos h]
  split
  · rw [RS.fail_fail _ _ h]
  · rfl
theorem RS.bits_keep (r : RS) (n : Int) : (r.bits n).2.l = r.l ∧ (r.bits n).2.made = r.made := by
  unfold RS.bits RS.fail
  repeat' split
  all_goals exact ⟨rfl, rfl⟩
theorem RS.fail3 (r : RS) : (r.fail 3).E ≠ 0 := by
  unfold RS.fail
  split
  · unfold RS.E; split <;> simp
  · assumption
theorem RS.bits_E (r : RS) (n : Int) (h : (r.bits n).2.E = 0) (h0 : 1 ≤ n) (h2 : n ≤ 32) : r.E = 0 ∧ (r.bits n).2.pos = r.pos + n.toNat ∧ r.pos + n.toNat ≤ 8 * r.l.length := by
  have hE : r.E = 0 := by
    by_cases e : r.E = 0
    · exact e
    · rw [RS.bits_err r n e (by omega) h2] at h; exact h
  unfold RS.bits at h ⊢
  rw [if_neg (by omega), if_neg (by simpa using hE)] at h ⊢
  by_cases hl : (r.left : Int) < n
  · rw [if_pos hl] at h; exact absurd h (RS.fail3 r)
  · rw [if_neg hl]
    refine ⟨hE, rfl, ?_⟩
    unfold RS.left at hl; rw [if_pos hE] at hl; omega
theorem RS.byt_err (r : RS) (n : Nat) (h : r.E ≠ 0) : (r.byt n).2 = r := by
  induction n with
  | zero => rfl
  | succ n ih => rw [RS.byt, ih, RS.bits_err r 8 h (by decide) (by decide)]
theorem RS.byt_E (r : RS) (n : Nat) (h : (r.byt n).2.E = 0) : r.E = 0 := by
  by_cases e : r.E = 0
  · exact e
  · rw [RS.byt_err r n e] at h; exact h
theorem RS.byt_keep (r : RS) (n : Nat) : (r.byt n).2.l = r.l ∧ (r.byt n).2.made = r.made := by
  induction n with
  | zero => exact ⟨rfl, rfl⟩
  | succ n ih => rw [RS.byt]; exact ⟨((r.byt n).2.bits_keep 8).1.trans ih.1, ((r.byt n).2.bits_keep 8).2.trans ih.2⟩
theorem bits_lt (r : RS) (n : Nat) : (r.bits n).1 < 2 ^ n := by
  have := Nat.two_pow_pos n
  unfold RS.bits
  split
  · exact this
  · split
    · exact this
    · split
      · exact this
      · have := num_lt r.l r.pos n
        simpa using this
/-- the followers of the greatest j bytes, as they are read: what is wrong, the followers, the reader -/
def gsF (r : RS) : Nat → Nat × (Nat → List UInt8) × RS
  | 0 => (0, fun _ => [], r)
  | j + 1 =>
    if (gsF r j).1 ≠ 0 then gsF r j
    else if 32 < ((gsF r j).2.2.bits 6).1 then (4, fun _ => [], ((gsF r j).2.2.bits 6).2)
    else (0, fun c => if c = 255 - j then (((gsF r j).2.2.bits 6).2.byt ((gsF r j).2.2.bits 6).1).1 else (gsF r j).2.1 c, (((gsF r j).2.2.bits 6).2.byt ((gsF r j).2.2.bits 6).1).2)
/-- what GetSets answers, and the reader behind it -/
def gsEnd (G : Nat × (Nat → List UInt8) × RS) : Nat × (Nat → List UInt8) × RS :=
  if G.1 ≠ 0 then (G.1, fun _ => [], G.2.2)
  else if G.2.2.E ≠ 0 then (G.2.2.E, fun _ => [], G.2.2)
  else (0, G.2.1, G.2.2)
def gs14 (r : RS) : Nat × (Nat → List UInt8) × RS := gsEnd (gsF r 256)
theorem gsF_keep (r : RS) (j : Nat) : (gsF r j).2.2.l = r.l ∧ (gsF r j).2.2.made = r.made := by
  induction j with
  | zero => exact ⟨rfl, rfl⟩
  | succ j ih =>
    rw [gsF]
    split
    · exact ih
    · split
      · exact ⟨((gsF r j).2.2.bits_keep 6).1.trans ih.1, ((gsF r j).2.2.bits_keep 6).2.trans ih.2⟩
      · have h1 := (gsF r j).2.2.bits_keep 6
        have h2 := ((gsF r j).2.2.bits 6).2.byt_keep ((gsF r j).2.2.bits 6).1
        exact ⟨h2.1.trans (h1.1.trans ih.1), h2.2.trans (h1.2.trans ih.2)⟩
/-- what is read of none is nothing: an error that is there stays -/
theorem gsF_err (r : RS) (j k : Nat) (h0 : (gsF r j).1 = 0) (h : (gsF r j).2.2.E ≠ 0) : (gsF r (j + k)).1 = 0 ∧ (gsF r (j + k)).2.2 = (gsF r j).2.2 := by
  induction k with
  | zero => exact ⟨h0, rfl⟩
  | succ k ih =>
    rw [← Nat.add_assoc, gsF, if_neg (by rw [ih.1]; simp)]
    have hb : (gsF r (j + k)).2.2.bits 6 = (0, (gsF r j).2.2) := by rw [ih.2]; exact RS.bits_err _ _ h (by decide) (by decide)
    rw [hb, if_neg (by simp)]
    exact ⟨rfl, rfl⟩
theorem gsF_form (r : RS) (j k : Nat) (h0 : (gsF r j).1 ≠ 0) : gsF r (j + k) = gsF r j := by
  induction k with
  | zero => rfl
  | succ k ih => rw [← Nat.add_assoc, gsF, ih, if_pos h0]
theorem gsF_len (r : RS) (j c : Nat) : ((gsF r j).2.1 c).length ≤ 32 := by
  induction j with
  | zero => exact Nat.zero_le _
  | succ j ih =>
    rw [gsF]
    split
    · exact ih
    · split
      · exact Nat.zero_le _
      · next h =>
        show (if c = 255 - j then _ else _ : List UInt8).length ≤ 32
        split
        · rw [RS.byt_len]; omega
        · exact ih
attribute [irreducible] gsF
theorem gsEnd_len (G : Nat × (Nat → List UInt8) × RS) (h : ∀ c, (G.2.1 c).length ≤ 32) (c : Nat) : ((gsEnd G).2.1 c).length ≤ 32 := by
  unfold gsEnd
  split
  · exact Nat.zero_le _
  · split
    · exact Nat.zero_le _
    · exact h c
theorem gs14_len (r : RS) (c : Nat) : ((gs14 r).2.1 c).length ≤ 32 := gsEnd_len (gsF r 256) (gsF_len r 256) c
theorem gsEnd_E (G : Nat × (Nat → List UInt8) × RS) (h : (gsEnd G).1 = 0) : (gsEnd G).2.2.E = 0 ∧ (gsEnd G).2.2 = G.2.2 ∧ gsEnd G = (0, G.2.1, G.2.2) ∧ G.1 = 0 := by
  unfold gsEnd at h ⊢
  by_cases h1 : G.1 ≠ 0
  · rw [if_pos h1] at h; exact absurd h h1
  · rw [if_neg h1] at h ⊢
    by_cases h2 : G.2.2.E ≠ 0
    · rw [if_pos h2] at h; exact absurd h h2
    · rw [if_neg h2]
      exact ⟨by simpa using h2, rfl, rfl, by simpa using h1⟩
theorem gs14_E (r : RS) (h : (gs14 r).1 = 0) : (gs14 r).2.2.E = 0 ∧ (gs14 r).2.2.l = r.l ∧ (gs14 r).2.2.made = r.made := by
  obtain ⟨a, b, _⟩ := gsEnd_E (gsF r 256) h
  refine ⟨a, ?_⟩
  show (gsEnd (gsF r 256)).2.2.l = _ ∧ (gsEnd (gsF r 256)).2.2.made = _
  rw [b]
  exact gsF_keep r 256
/-- what Get answers: a byte, what is wrong, the reader behind it -/
def get14 (l : List UInt8) (r : RS) : UInt8 × Nat × RS :=
  if l.length = 0 then (UInt8.ofNat (r.bits 8).1, (r.bits 8).2.E, (r.bits 8).2)
  else if (r.bits 1).1 = 1 then (UInt8.ofNat ((r.bits 1).2.bits 8).1, ((r.bits 1).2.bits 8).2.E, ((r.bits 1).2.bits 8).2)
  else if ((r.bits 1).2.bits (widthN l.length)).2.E ≠ 0 then (0, ((r.bits 1).2.bits (widthN l.length)).2.E, ((r.bits 1).2.bits (widthN l.length)).2)
  else if l.length ≤ ((r.bits 1).2.bits (widthN l.length)).1 then (0, 7, ((r.bits 1).2.bits (widthN l.length)).2)
  else (l.getD ((r.bits 1).2.bits (widthN l.length)).1 0, 0, ((r.bits 1).2.bits (widthN l.length)).2)
theorem widthN_pos (n : Nat) (h : 1 ≤ n) (h2 : n ≤ 32) : 1 ≤ widthN n := by
  unfold widthN
  repeat' split
  all_goals omega
/-- a byte that is read costs two bits at least -/
theorem get14_cost (l : List UInt8) (r : RS) (hl : l.length ≤ 32) (h : (get14 l r).2.1 = 0) : r.E = 0 ∧ (get14 l r).2.2.E = 0 ∧ r.pos + 2 ≤ (get14 l r).2.2.pos ∧ (get14 l r).2.2.pos ≤ 8 * r.l.length ∧ (get14 l r).2.2.l = r.l ∧ (get14 l r).2.2.made = r.made := by
  unfold get14 at h ⊢
  by_cases h0 : l.length = 0
  · rw [if_pos h0] at h ⊢
    obtain ⟨a, b, c⟩ := r.bits_E 8 h (by decide) (by decide)
    have hk := r.bits_keep 8
    exact ⟨a, h, by rw [b]; show r.pos + 2 ≤ r.pos + 8; omega, by rw [b]; exact c, hk⟩
  · rw [if_neg h0] at h ⊢
    have k1 := r.bits_keep 1
    by_cases h1 : (r.bits 1).1 = 1
    · rw [if_pos h1] at h ⊢
      obtain ⟨a, b, c⟩ := (r.bits 1).2.bits_E 8 h (by decide) (by decide)
      obtain ⟨a1, b1, c1⟩ := r.bits_E 1 a (by decide) (by decide)
      have hk := (r.bits 1).2.bits_keep 8
      rw [k1.1] at c
      refine ⟨a1, h, ?_, by rw [b]; exact c, hk.1.trans k1.1, hk.2.trans k1.2⟩
      rw [b, b1]; show r.pos + 2 ≤ r.pos + 1 + 8; omega
    · rw [if_neg h1] at h ⊢
      have hw := widthN_pos l.length (by omega) hl
      have hw2 := widthN_le l.length
      by_cases h2 : ((r.bits 1).2.bits (widthN l.length)).2.E ≠ 0
      · rw [if_pos h2] at h; exact absurd h h2
      · rw [if_neg h2] at h ⊢
        have h2' : ((r.bits 1).2.bits (widthN l.length)).2.E = 0 := by simpa using h2
        obtain ⟨a, b, c⟩ := (r.bits 1).2.bits_E (widthN l.length) h2' (by omega) (by omega)
        obtain ⟨a1, b1, c1⟩ := r.bits_E 1 a (by decide) (by decide)
        have hk := (r.bits 1).2.bits_keep (widthN l.length)
        rw [k1.1] at c
        rw [Int.toNat_natCast] at b c
        have hp : r.pos + 2 ≤ ((r.bits 1).2.bits (widthN l.length)).2.pos := by
          rw [b, b1]; show r.pos + 2 ≤ r.pos + 1 + _; omega
        have hp2 : ((r.bits 1).2.bits (widthN l.length)).2.pos ≤ 8 * r.l.length := by rw [b]; exact c
        by_cases h3 : l.length ≤ ((r.bits 1).2.bits (widthN l.length)).1
        · rw [if_pos h3] at h; cases h
        · rw [if_neg h3]
          exact ⟨a1, h2', hp, hp2, hk.1.trans k1.1, hk.2.trans k1.2⟩
/-- bytes behind bytes, till the machine is full; n were fed -/
def dec14L (s : Nat → List UInt8) : Nat → MS → RS → UInt8 → Nat → List UInt8 × Nat × Nat
  | 0, _, _, _, _ => ([], 0, 99)
  | F + 1, m, r, p, n =>
    if m.full then (if 8 ≤ r.left then ([], 0, 5) else (m.o.b, n, 0))
    else if (get14 (s p.toNat) r).2.1 ≠ 0 then ([], 0, (get14 (s p.toNat) r).2.1)
    else if (m.feed (get14 (s p.toNat) r).1).1 ≠ 0 then ([], 0, (m.feed (get14 (s p.toNat) r).1).1)
    else dec14L s F (m.feed (get14 (s p.toNat) r).1).2 (get14 (s p.toNat) r).2.2 (get14 (s p.toNat) r).1 (n + 1)
/-- what Decode answers: the text, the steps, what is wrong -/
def dec14 (b : List UInt8) (f size : Int) : List UInt8 × Nat × Nat :=
  if f < 1 ∨ 4 < f ∨ size < 0 then ([], 0, 2)
  else if size = 0 then (if b.length = 0 then ([], 0, 0) else ([], 0, 5))
  else if (gs14 ⟨b, 0, true, 0⟩).1 ≠ 0 then ([], 0, (gs14 ⟨b, 0, true, 0⟩).1)
  else dec14L (gs14 ⟨b, 0, true, 0⟩).2.1 (8 * b.length + 1) ⟨f.toNat, ⟨65536, size.toNat, true, []⟩, 0, 0, 0⟩ (gs14 ⟨b, 0, true, 0⟩).2.2 0 0
theorem bits_pos (r : RS) (n : Int) (h : r.pos ≤ 8 * r.l.length) : (r.bits n).2.pos ≤ 8 * r.l.length ∧ r.pos ≤ (r.bits n).2.pos := by
  unfold RS.bits RS.fail
  split
  · split <;> exact ⟨h, Nat.le_refl _⟩
  · split
    · show (if 0 < n then _ else _ : RS).pos ≤ _ ∧ _ ≤ (if 0 < n then _ else _ : RS).pos
      have : ∀ (c : Prop) [Decidable c], (if c then r else r) = r := fun c _ => by split <;> rfl
      rw [this]
      exact ⟨h, Nat.le_refl _⟩
    · split
      · split <;> exact ⟨h, Nat.le_refl _⟩
      · rename_i h1 h2 h3
        have hE : r.E = 0 := by simpa using h2
        unfold RS.left at h3; rw [if_pos hE] at h3
        show r.pos + n.toNat ≤ _ ∧ r.pos ≤ r.pos + n.toNat
        omega
theorem byt_pos (r : RS) (n : Nat) (h : r.pos ≤ 8 * r.l.length) : (r.byt n).2.pos ≤ 8 * r.l.length := by
  induction n with
  | zero => exact h
  | succ n ih =>
    rw [RS.byt]
    have hk := (r.byt_keep n).1
    have := (bits_pos (r.byt n).2 8 (by rw [hk]; exact ih)).1
    rw [hk] at this; exact this
theorem gsF_pos (r : RS) (j : Nat) (h : r.pos ≤ 8 * r.l.length) : (gsF r j).2.2.pos ≤ 8 * r.l.length := by
  induction j with
  | zero => rw [gsF]; exact h
  | succ j ih =>
    have hk := (gsF_keep r j).1
    have hb := (bits_pos (gsF r j).2.2 6 (by rw [hk]; exact ih)).1
    have hk2 := ((gsF r j).2.2.bits_keep 6).1
    rw [gsF]
    split
    · exact ih
    · split
      · rw [hk] at hb; exact hb
      · have := byt_pos ((gsF r j).2.2.bits 6).2 ((gsF r j).2.2.bits 6).1 (by rw [hk2]; exact hb)
        rw [hk2, hk] at this; exact this
theorem gsEnd_r (G : Nat × (Nat → List UInt8) × RS) : (gsEnd G).2.2 = G.2.2 := by
  unfold gsEnd
  split
  · rfl
  · split <;> rfl
theorem gs14_pos (r : RS) (h : r.pos ≤ 8 * r.l.length) : (gs14 r).2.2.pos ≤ 8 * r.l.length := by
  show (gsEnd (gsF r 256)).2.2.pos ≤ _
  rw [gsEnd_r]
  exact gsF_pos r 256 h
/-- what is told has as many bytes as were to be told; two bits a step at least -/
theorem dec14L_ok (s : Nat → List UInt8) (hs : ∀ c, (s c).length ≤ 32) (F : Nat) (m : MS) (r : RS) (p : UInt8) (n : Nat) (hm : m.o.b.length ≤ m.o.most) (hr : r.pos ≤ 8 * r.l.length) (hn : 2 * n ≤ r.pos) :
    ((dec14L s F m r p n).2.2 = 0 ∧ (dec14L s F m r p n).1.length = m.o.most ∧ (dec14L s F m r p n).2.1 ≤ 4 * r.l.length) ∨ ((dec14L s F m r p n).2.2 ≠ 0 ∧ (dec14L s F m r p n).1 = [] ∧ (dec14L s F m r p n).2.1 = 0) := by
  induction F generalizing m r p n with
  | zero => exact .inr ⟨by simp [dec14L], rfl, rfl⟩
  | succ F ih =>
    rw [dec14L]
    by_cases hf : m.full = true
    · rw [if_pos hf]
      split
      · exact .inr ⟨by simp, rfl, rfl⟩
      · have : m.o.b.length = m.o.most := by
          simp only [MS.full, Bool.and_eq_true, decide_eq_true_eq] at hf; exact hf.2
        exact .inl ⟨rfl, this, by show n ≤ _; omega⟩
    · rw [if_neg hf]
      by_cases h1 : (get14 (s p.toNat) r).2.1 ≠ 0
      · rw [if_pos h1]; exact .inr ⟨h1, rfl, rfl⟩
      · rw [if_neg h1]
        by_cases h2 : (m.feed (get14 (s p.toNat) r).1).1 ≠ 0
        · rw [if_pos h2]; exact .inr ⟨h2, rfl, rfl⟩
        · rw [if_neg h2]
          obtain ⟨c1, c2, c3, c4, c5, c6⟩ := get14_cost (s p.toNat) r (hs _) (by simpa using h1)
          obtain ⟨q1, q2⟩ := feed_le m (get14 (s p.toNat) r).1 hm
          have := ih (m.feed (get14 (s p.toNat) r).1).2 (get14 (s p.toNat) r).2.2 (get14 (s p.toNat) r).1 (n + 1) q1 (by rw [c5]; exact c4) (by omega)
          rw [q2, c5] at this
          exact this
theorem dec14_ok (b : List UInt8) (f size : Int) : ((dec14 b f size).2.2 = 0 ∧ ((dec14 b f size).1.length : Int) = size ∧ (dec14 b f size).2.1 ≤ 4 * b.length ∧ 1 ≤ f ∧ f ≤ 4) ∨ ((dec14 b f size).2.2 ≠ 0 ∧ (dec14 b f size).1 = [] ∧ (dec14 b f size).2.1 = 0) := by
  unfold dec14
  by_cases h1 : f < 1 ∨ 4 < f ∨ size < 0
  · rw [if_pos h1]; exact .inr ⟨by simp, rfl, rfl⟩
  · rw [if_neg h1]
    by_cases h2 : size = 0
    · rw [if_pos h2]
      split
      · exact .inl ⟨rfl, by simp [h2], Nat.zero_le _, by omega, by omega⟩
      · exact .inr ⟨by simp, rfl, rfl⟩
    · rw [if_neg h2]
      by_cases h3 : (gs14 ⟨b, 0, true, 0⟩).1 ≠ 0
      · rw [if_pos h3]; exact .inr ⟨h3, rfl, rfl⟩
      · rw [if_neg h3]
        obtain ⟨e1, e2, e3⟩ := gs14_E ⟨b, 0, true, 0⟩ (by simpa using h3)
        have hp := gs14_pos ⟨b, 0, true, 0⟩ (Nat.zero_le _)
        have := dec14L_ok (gs14 ⟨b, 0, true, 0⟩).2.1 (gs14_len _) (8 * b.length + 1) ⟨f.toNat, ⟨65536, size.toNat, true, []⟩, 0, 0, 0⟩ (gs14 ⟨b, 0, true, 0⟩).2.2 0 0 (Nat.zero_le _) (by rw [e2]; exact hp) (Nat.zero_le _)
        rcases this with ⟨a1, a2, a3⟩ | h
        · rw [e2] at a3
          exact .inl ⟨a1, by rw [a2]; show ((size.toNat : Nat) : Int) = size; omega, a3, by omega, by omega⟩
        · exact .inr h
end Go.Proofs.Yteahcpkaagjkkaa
namespace Go.Proofs.Yteahcpkaagjkkaa
set_option linter.unusedVariables false
set_option linter.unusedSimpArgs false

theorem byt_at (L : List UInt8) (l : List UInt8) (pre post : List Bool) (h : toBits L = (pre ++ l.flatMap (fun x => bitsOf x.toNat 8)) ++ post) (k : Nat) (hk : k ≤ l.length) :
    (⟨L, pre.length, true, 0⟩ : RS).byt k = (l.take k, ⟨L, (pre ++ (l.take k).flatMap (fun x => bitsOf x.toNat 8)).length, true, 0⟩) := by
  induction k with
  | zero => rw [RS.byt, List.take_zero]; simp
  | succ k ih =>
    have hs : l.take (k + 1) = l.take k ++ [l[k]] := List.take_succ_eq_append_getElem hk
    have hd : l = l.take (k + 1) ++ l.drop (k + 1) := (List.take_append_drop _ _).symm
    have e : toBits L = ((pre ++ (l.take k).flatMap (fun x => bitsOf x.toNat 8)) ++ bitsOf (l[k]).toNat 8) ++ ((l.drop (k + 1)).flatMap (fun x => bitsOf x.toNat 8) ++ post) := by
      rw [h]
      conv => lhs; rw [hd, List.flatMap_append, hs, List.flatMap_append]
      simp [List.append_assoc]
    rw [RS.byt, ih (by omega)]
    have hb := bits_at L _ _ (l[k]).toNat 8 e (by decide) (l[k]).toNat_lt
    dsimp only
    have h8 : ((8 : Nat) : Int) = 8 := rfl
    rw [h8] at hb
    rw [hb, hs, List.flatMap_append]
    dsimp only
    rw [UInt8.ofNat_toNat, ← List.append_assoc]
    simp
theorem take32 {l : List UInt8} (h : l.length ≤ 32) : l.take 32 = l := List.take_of_length_le h
theorem gsF_at (L : List UInt8) (s : Nat → List UInt8) (hs : ∀ c, (s c).length ≤ 32) (post : List Bool) (M : Nat) (hM : M = 256) (h : toBits L = fss s M ++ post) (j : Nat) (hj : j ≤ M) :
    ∃ pre, fss s M = pre ++ fss s (M - j) ∧ gsF ⟨L, 0, true, 0⟩ j = (0, (fun c => if M - j ≤ c ∧ c < M then s c else []), ⟨L, pre.length, true, 0⟩) := by
  induction j with
  | zero =>
    refine ⟨[], rfl, ?_⟩
    rw [gsF]
    congr 2
    funext c
    rw [if_neg (by omega)]
  | succ j ih =>
    obtain ⟨pre, e1, e2⟩ := ih (by omega)
    have hq : M - j = (255 - j) + 1 := by omega
    have hq2 : M - (j + 1) = 255 - j := by omega
    rw [hq, fss, take32 (hs _)] at e1
    rw [hq2]
    refine ⟨pre ++ (bitsOf (s (255 - j)).length 6 ++ (s (255 - j)).flatMap (fun x => bitsOf x.toNat 8)), by rw [e1]; simp [List.append_assoc], ?_⟩
    have b1 : toBits L = (pre ++ bitsOf (s (255 - j)).length 6) ++ ((s (255 - j)).flatMap (fun x => bitsOf x.toNat 8) ++ fss s (255 - j) ++ post) := by
      rw [h, e1]; simp [List.append_assoc]
    have hb := bits_at L pre _ (s (255 - j)).length 6 b1 (by decide) (by have := hs (255 - j); omega)
    have h6 : ((6 : Nat) : Int) = 6 := rfl
    rw [h6] at hb
    have b2 : toBits L = ((pre ++ bitsOf (s (255 - j)).length 6) ++ (s (255 - j)).flatMap (fun x => bitsOf x.toNat 8)) ++ (fss s (255 - j) ++ post) := by
      rw [h, e1]; simp [List.append_assoc]
    have hy := byt_at L (s (255 - j)) _ _ b2 (s (255 - j)).length (Nat.le_refl _)
    rw [List.take_length] at hy
    rw [gsF, e2]
    dsimp only
    rw [if_neg (by simp), hb]
    dsimp only
    rw [if_neg (by have := hs (255 - j); omega), hy]
    dsimp only
    rw [List.append_assoc]
    congr 2
    funext c
    by_cases hc : c = 255 - j
    · subst hc; rw [if_pos rfl, if_pos (by omega)]
    · rw [if_neg hc]
      by_cases hc2 : M - j ≤ c ∧ c < M
      · rw [if_pos hc2, if_pos (by omega)]
      · rw [if_neg hc2, if_neg (by omega)]
theorem gs14_at (L : List UInt8) (s : Nat → List UInt8) (hs : ∀ c, (s c).length ≤ 32) (post : List Bool) (h : toBits L = fss s 256 ++ post) :
    ∃ s', gs14 ⟨L, 0, true, 0⟩ = (0, s', ⟨L, (fss s 256).length, true, 0⟩) ∧ ∀ c, c < 256 → s' c = s c := by
  obtain ⟨M, hM⟩ : ∃ M, M = 256 := ⟨_, rfl⟩
  rw [← hM] at h ⊢
  obtain ⟨pre, e1, e2⟩ := gsF_at L s hs post M hM h M (Nat.le_refl _)
  rw [Nat.sub_self, fss, List.append_nil] at e1
  refine ⟨fun c => if M - M ≤ c ∧ c < M then s c else [], ?_, fun c hc => if_pos (by omega)⟩
  unfold gs14
  rw [← hM, e2, e1]
  unfold gsEnd
  rw [if_neg (by simp), if_neg (by simp [RS.E])]
theorem widthN_holds (n : Nat) (h : 1 ≤ n) (h2 : n ≤ 32) : n ≤ 2 ^ widthN n := by
  unfold widthN
  repeat' split
  all_goals omega
theorem atU_at (l : List UInt8) (c : UInt8) (h : 0 ≤ atU l c) : (atU l c).toNat < l.length ∧ l.getD (atU l c).toNat 0 = c := by
  unfold atU at h ⊢
  cases e : l.findIdx? (· == c) with
  | none => rw [e] at h; exact absurd h (by decide)
  | some i =>
    rw [List.findIdx?_eq_some_iff_getElem] at e
    obtain ⟨h1, h2, _⟩ := e
    refine ⟨h1, ?_⟩
    show l.getD i 0 = c
    rw [List.getD_eq_getElem?_getD, List.getElem?_eq_getElem h1]
    simpa using h2
theorem get14_at (L : List UInt8) (l : List UInt8) (c : UInt8) (pre post : List Bool) (hl : l.length ≤ 32) (h : toBits L = (pre ++ fput l c) ++ post) :
    get14 l ⟨L, pre.length, true, 0⟩ = (c, 0, ⟨L, (pre ++ fput l c).length, true, 0⟩) := by
  have h8 : ((8 : Nat) : Int) = 8 := rfl
  have h1' : ((1 : Nat) : Int) = 1 := rfl
  unfold fput at h ⊢
  rw [take32 hl] at h ⊢
  unfold get14
  by_cases h0 : l.length = 0
  · rw [if_pos h0] at h ⊢
    rw [if_pos h0] at ⊢
    have hb := bits_at L pre post c.toNat 8 h (by decide) c.toNat_lt
    rw [h8] at hb
    rw [hb]
    dsimp only
    rw [UInt8.ofNat_toNat]
    rfl
  · rw [if_neg h0] at h ⊢
    rw [if_neg h0] at ⊢
    by_cases hi : 0 ≤ atU l c
    · rw [if_pos hi] at h ⊢
      obtain ⟨g1, g2⟩ := atU_at l c hi
      have hw := widthN_holds l.length (by omega) hl
      have hw5 := widthN_le l.length
      have b1 := bits_at L pre (bitsOf (atU l c).toNat (widthN l.length) ++ post) 0 1 (by rw [h]; simp [List.append_assoc]) (by decide) (by decide)
      rw [h1'] at b1
      have b2 := bits_at L (pre ++ bitsOf 0 1) post (atU l c).toNat (widthN l.length) (by rw [h]; simp [List.append_assoc]) (by omega) (by omega)
      rw [b1]
      dsimp only
      rw [b2]
      dsimp only
      rw [if_neg (by decide), if_neg (by simp [RS.E]), if_neg (by omega), g2, List.append_assoc]
    · rw [if_neg hi] at h ⊢
      have b1 := bits_at L pre (bitsOf c.toNat 8 ++ post) 1 1 (by rw [h]; simp [List.append_assoc]) (by decide) (by decide)
      rw [h1'] at b1
      have b2 := bits_at L (pre ++ bitsOf 1 1) post c.toNat 8 (by rw [h]; simp [List.append_assoc]) (by decide) c.toNat_lt
      rw [h8] at b2
      rw [b1]
      dsimp only
      rw [if_pos rfl, b2]
      dsimp only
      rw [UInt8.ofNat_toNat, List.append_assoc]
      rfl
/-- the bits of bytes, each behind the one ahead -/
def fputs (s : Nat → List UInt8) : UInt8 → List UInt8 → List Bool
  | _, [] => []
  | p, c :: t => fput (s p.toNat) c ++ fputs s c t
theorem fputs_snoc (s : Nat → List UInt8) (p : UInt8) (l : List UInt8) (k : Nat) (hk : k < l.length) : fputs s p (l.take (k + 1)) = fputs s p (l.take k) ++ fput (s ((l.take k).getLastD p).toNat) l[k] := by
  induction l generalizing p k with
  | nil => simp at hk
  | cons c t ih =>
    cases k with
    | zero => simp [fputs]
    | succ k =>
      rw [List.take_succ_cons, List.take_succ_cons, fputs, fputs, ih c k (by simpa using hk), List.append_assoc, List.getElem_cons_succ, List.getLastD_cons]
theorem fputs_tl (s : Nat → List UInt8) (hs : ∀ c, (s c).length ≤ 32) (p : UInt8) (l : List UInt8) : (fputs s p l).length = tl s p l := by
  induction l generalizing p with
  | nil => rfl
  | cons c t ih => rw [fputs, tl, List.length_append, ih, fput_len _ _ (hs _)]
theorem pl_pos (l : List UInt8) (x : Nat) : 1 ≤ pl l x := by unfold pl; repeat' split
                                                             all_goals omega
theorem tl_ge (s : Nat → List UInt8) (p : UInt8) (l : List UInt8) : l.length ≤ tl s p l := by
  induction l generalizing p with
  | nil => exact Nat.le_refl _
  | cons c t ih => have := ih c; have := pl_pos (s p.toNat) c.toNat; rw [tl, List.length_cons]; omega
theorem dec14L_at (L : List UInt8) (s s' : Nat → List UInt8) (hs : ∀ c, (s c).length ≤ 32) (hss : ∀ c, c < 256 → s' c = s c) (cs : List UInt8) (F : Nat) (hF : cs.length < F) (m : MS) (p : UInt8) (n : Nat) (pre post : List Bool) (hp : post.length < 8)
    (h : toBits L = (pre ++ fputs s p cs) ++ post) (h0 : (m.all cs).1 = 0) (hf : (m.all cs).2.full = true) : dec14L s' F m ⟨L, pre.length, true, 0⟩ p n = ((m.all cs).2.o.b, n + cs.length, 0) := by
  induction cs generalizing F m p n pre with
  | nil =>
    obtain ⟨F, rfl⟩ : ∃ G, F = G + 1 := ⟨F - 1, by simp at hF; omega⟩
    rw [MS.all] at hf ⊢
    have hl := congrArg List.length h
    simp only [fputs, List.append_nil, List.length_append, toBits_length] at hl
    rw [dec14L, if_pos hf, if_neg (by unfold RS.left; rw [if_pos (show (⟨L, pre.length, true, 0⟩ : RS).E = 0 from rfl)]; dsimp only; omega)]
    rfl
  | cons c t ih =>
    obtain ⟨F, rfl⟩ : ∃ G, F = G + 1 := ⟨F - 1, by simp at hF; omega⟩
    have hfe : (m.feed c).1 = 0 := by
      by_cases e : (m.feed c).1 = 0
      · exact e
      · rw [MS.all, if_neg e] at h0; exact absurd h0 e
    have hall : m.all (c :: t) = (m.feed c).2.all t := by rw [MS.all, if_pos hfe]
    rw [hall] at h0 hf ⊢
    rw [fputs, ← List.append_assoc] at h
    have hg := get14_at L (s p.toNat) c pre (fputs s c t ++ post) (hs _) (by rw [h]; simp [List.append_assoc])
    rw [dec14L, feed_full m c hfe, hss _ p.toNat_lt, hg]
    dsimp only
    rw [if_neg (by simp), if_neg (by simp), if_neg (by simpa using hfe), ih F (by simp at hF; omega) (m.feed c).2 c (n + 1) (pre ++ fput (s p.toNat) c) h h0 hf, List.length_cons]
    congr 2; omega
/-- what Encode answers -/
def bits14 (c : List UInt8) : List Bool := fss (one12 c) 256 ++ fputs (one12 c) 0 c
def enc14 (f : Nat) (b : List UInt8) : List UInt8 := if (enc13 f b).length = 0 then [] else ofBits (bits14 (enc13 f b))
theorem bits14_len (c : List UInt8) : (bits14 c).length ≤ 1536 + 8 * c.length ∧ 1536 + c.length ≤ (bits14 c).length := by
  have h := best_fewer c
  have h2 := tl_ge (one12 c) 0 c
  unfold bits14
  rw [List.length_append, fss_len _ _ (one12_len c), fputs_tl _ (one12_len c)]
  omega
theorem ofBits_len (bs : List Bool) : (ofBits bs).length = (bs.length + 7) / 8 := by unfold ofBits; simp
theorem enc14_len (f : Nat) (h1 : 1 ≤ f) (h2 : f ≤ 4) (b : List UInt8) : (enc14 f b).length ≤ 2 * b.length + 192 := by
  have h := (enc_tell f h1 h2 b).2
  have h3 := bits14_len (enc13 f b)
  unfold enc14
  split
  · exact Nat.zero_le _
  · rw [ofBits_len]; omega
theorem enc13_nil (f : Nat) (h1 : 1 ≤ f) (h2 : f ≤ 4) (b : List UInt8) (h : (enc13 f b).length = 0) : b.length = 0 := by
  obtain ⟨V, N, e⟩ := (enc_tell f h1 h2 b).1
  rw [List.length_eq_zero_iff.1 h] at e
  have := congrArg (fun x => x.2.o.b.length) e
  simp only [MS.all, at13, List.length_take] at this
  omega
/-- what is encoded is decoded as it was; in as many steps as there are bytes of the machine -/
theorem dec14_enc (f : Nat) (h1 : 1 ≤ f) (h2 : f ≤ 4) (b : List UInt8) : dec14 (enc14 f b) f b.length = (b, (enc13 f b).length, 0) := by
  have hfn : ¬ ((f : Int) < 1 ∨ 4 < (f : Int) ∨ (b.length : Int) < 0) := by omega
  unfold dec14
  rw [if_neg hfn]
  by_cases hz : (enc13 f b).length = 0
  · have hb := enc13_nil f h1 h2 b hz
    have hb2 : b = [] := List.length_eq_zero_iff.1 hb
    unfold enc14
    rw [if_pos hz, hz, hb2]
    rfl
  · obtain ⟨⟨V, N, e⟩, hle⟩ := enc_tell f h1 h2 b
    have hb0 : ¬ (b.length : Int) = 0 := by omega
    rw [if_neg hb0]
    unfold enc14
    rw [if_neg hz]
    obtain ⟨s', g1, g2⟩ := gs14_at (ofBits (bits14 (enc13 f b))) (one12 (enc13 f b)) (one12_len _) (fputs (one12 (enc13 f b)) 0 (enc13 f b) ++ List.replicate ((8 - (bits14 (enc13 f b)).length % 8) % 8) false) (by
      rw [toBits_ofBits]; unfold pad8
      rw [← List.append_assoc]
      rfl)
    rw [g1]
    dsimp only
    rw [if_neg (by simp)]
    have hl := bits14_len (enc13 f b)
    have hF : (enc13 f b).length < 8 * (ofBits (bits14 (enc13 f b))).length + 1 := by rw [ofBits_len]; omega
    have hd := dec14L_at (ofBits (bits14 (enc13 f b))) (one12 (enc13 f b)) s' (one12_len _) g2 (enc13 f b) _ hF (at13 f b 0 0 0) 0 0 (fss (one12 (enc13 f b)) 256) (List.replicate ((8 - (bits14 (enc13 f b)).length % 8) % 8) false) (by simp; omega) (by rw [toBits_ofBits]; rfl) (by rw [e]) (by rw [e]; simp [MS.full, at13])
    have hm : (⟨(f : Int).toNat, ⟨65536, (b.length : Int).toNat, true, []⟩, 0, 0, 0⟩ : MS) = at13 f b 0 0 0 := by simp [at13]
    rw [hm, hd, e]
    simp [at13]
end Go.Proofs.Yteahcpkaagjkkaa
namespace Go.Proofs.Yteahcpkaagjkkaa
set_option linter.unusedVariables false
set_option linter.unusedSimpArgs false

theorem bl_zero (n : Nat → Nat) (l : List UInt8) (h : cst n [] 256 ≤ 8) (i : Nat) (hi : i ≤ l.length) : bl n l i = 0 := by
  induction i with
  | zero => rfl
  | succ i ih =>
    rw [bl, ih (by omega), List.take_zero, if_neg]
    have := cst_sm n (l.take (i + 1)) 256
    rw [List.length_take] at this
    omega
theorem oneN_zero (n : Nat → Nat) (h : cst n [] 256 ≤ 8) : oneN n = [] := by
  unfold oneN
  rw [bl_zero n _ h _ (Nat.le_refl _), List.take_zero]
theorem one12_one (a : UInt8) (c : Nat) : one12 [a] c = [] := by
  refine oneN_zero _ ?_
  rw [cst_sm]
  have h : sm (fun x => cnB 0 [a] c x * pl [] x) 256 ≤ 8 := by
    have e : ∀ x, cnB 0 [a] c x * pl [] x = (if (0 : UInt8).toNat = c ∧ a.toNat = x then 8 else 0) := by
      intro x; simp only [cnB, pl]; split <;> simp
    rw [sm_eq _ (fun x => if (0 : UInt8).toNat = c ∧ a.toNat = x then 8 else 0) 256 (fun x _ => e x)]
    have h2 := sm_one (fun x => if (0 : UInt8).toNat = c ∧ a.toNat = x then 8 else 0) a.toNat 256 a.toNat_lt (fun i hi => by rw [if_neg]; intro h; exact hi h.2.symm)
    rw [h2]
    split <;> omega
  simpa using h
theorem fss_none (m : Nat) : fss (fun _ => []) m = List.replicate (6 * m) false := by
  induction m with
  | zero => rfl
  | succ m ih =>
    rw [fss, ih, List.take_nil, List.length_nil, bitsOf_zero, List.flatMap_nil, List.append_nil, List.replicate_append_replicate]
    congr 1; omega
theorem toBits_noughts (n : Nat) : toBits (List.replicate n 0) = List.replicate (8 * n) false := by
  induction n with
  | zero => rfl
  | succ n ih =>
    rw [List.replicate_succ', toBits_append, ih]
    have : toBits [(0 : UInt8)] = List.replicate 8 false := by
      have := toBits_one 0 (by decide)
      rw [bitsOf_zero] at this
      exact this
    rw [this, List.replicate_append_replicate]
    congr 1
theorem enc14_a : enc14 1 [97] = List.replicate 192 0 ++ [97] := by
  have h13 : enc13 1 [97] = [97] := by rfl
  unfold enc14
  rw [h13, if_neg (by decide)]
  have hb : bits14 [97] = List.replicate 1536 false ++ bitsOf 97 8 := by
    unfold bits14
    have : one12 [97] = fun _ => [] := by funext c; exact one12_one 97 c
    rw [this, fss_none]
    rfl
  refine toBits_inj _ _ ?_
  rw [toBits_ofBits, hb, toBits_append, toBits_noughts]
  have : toBits [(97 : UInt8)] = bitsOf 97 8 := toBits_one 97 (by decide)
  rw [this]
  unfold pad8
  have e : 8 * 192 = 1536 := rfl
  rw [List.length_append, List.length_replicate, bitsOf_length, e, show (8 - (1536 + 8) % 8) % 8 = 0 from rfl, List.replicate_zero, List.append_nil]
end Go.Proofs.Yteahcpkaagjkkaa
namespace Go.Proofs.Yteahcpkaagjkkaa
set_option linter.unusedVariables false
set_option linter.unusedSimpArgs false
set_option maxRecDepth 100000
open Go.ChangeShapes Go.WideShapes Go.ChangeAt Go.RowKit

theorem two13_c (w : World) (n : Nat) (hn : n ≤ 60) : Calls Try.prog 53 #[.int .i64 n] w fun e w' => e = .returned (.int .i64 ((2 ^ n : Nat) : Int)) ∧ w = w' := by
  go_enter Try.func53, Try.ntmps53
  go_wp2_with fail
  go_loopw [3, 4] (fun xv iv wr => ∃ (k X : Nat), k ≤ n ∧ iv = .int .i64 k ∧ xv = .int .i64 X ∧ X = 2 ^ k ∧ wr = w) (fun _ iv _ => n - (intOf iv).toNat)
  case atStart => exact ⟨0, 1, by omega, rfl, rfl, rfl, rfl⟩
  case round =>
    obtain ⟨k, X, hk, rfl, rfl, hX, hwr⟩ := hrel
    have h5 : (2 : Nat) ^ k ≤ 2 ^ 60 := Nat.pow_le_pow_right (by decide) (by omega)
    by_cases hx : k < n
    · have t1 : decide (k < n) = true := by simpa using hx
      have hs : IntKind.i64.wrap ((k : Int) + 1) = ((k + 1 : Nat) : Int) := by rw [IntKind.wrap_i64]; omega
      have hm : IntKind.i64.wrap ((X : Int) * 2) = ((2 * X : Nat) : Int) := by rw [IntKind.wrap_i64]; omega
      have HX := Lib.hid hX
      clear hX h5
      go_wp2_with fail
      go_roundw
      case rel => exact ⟨k + 1, 2 * X, by omega, rfl, rfl, by rw [Nat.pow_succ, ← HX.out]; omega, by first | exact hwr | trivial⟩
      case measure => simp [intOf]; omega
    · have t1 : decide (k < n) = false := by simpa using hx
      have hk2 : k = n := by omega
      have HX := Lib.hid hX; have HK := Lib.hid hk2
      clear hX h5 hx hk2
      go_wp2_with fail
      go_ret
      rw [← HK.out, ← HX.out]
      exact ⟨rfl, by first | exact hwr.symm | trivial⟩
def MS.ok (m : MS) : Prop := 1 ≤ m.f ∧ m.f ≤ 4 ∧ m.st ≤ 3 ∧ m.V ≤ 255 ∧ m.N ≤ 382 ∧ (m.st = 2 → m.N ≤ 127) ∧ m.o.win = 65536
/-- block x is the document's machine in state m; its output lies at q, the bytes in v -/
def Mx (w : World) (x q : Nat) (v : Value) (m : MS) : Prop :=
  Blk w x #[.int .i64 m.f, .pointer (some ⟨q, 0, none⟩), .int .i64 m.st, .int .i64 m.V, .int .i64 m.N] 64 ∧ Rx w q v m.o ∧ x ≠ q ∧ (∀ b, v.ownBlock = some b → b ≠ x) ∧ m.ok
theorem Mx.keep {w w' : World} {x q : Nat} {v : Value} {m : MS} {S : List Nat} (h : Mx w x q v m) (k : Keep S w w') (hx : x ∉ S) (hq : q ∉ S) (hv : ∀ b, v.ownBlock = some b → b ∉ S) : Mx w' x q v m :=
  ⟨h.1.keep k hx, h.2.1.keep k hq hv, h.2.2⟩
theorem Mx.drewN {w : World} {x q : Nat} {v : Value} {m : MS} (h : Mx w x q v m) (n : Nat) : Mx (w.drewN n) x q v m := h.keep ((Keep.refl [] w).drewN n) (by simp) (by simp) (by simp)
theorem refm_full (w : World) (x q : Nat) (v : Value) (m : MS) (h : Mx w x q v m) : Calls Try.prog 24 #[.pointer (some ⟨x, 0, none⟩)] w fun e w' => e = .returned (.bool m.full) ∧ ∃ n, w' = w.drewN n := by
  have c1 := h.1.cell 1 _ rfl
  have c2 := h.1.cell 2 _ rfl
  have d1 := h.2.1.1.cell 1 _ rfl
  have d3 := h.2.1.1.cell 3 _ rfl
  obtain ⟨a, cp, rfl, _⟩ := h.2.1.2.1.bs.shape
  obtain ⟨bf, hbf⟩ : ∃ bf, m.full = bf := ⟨_, rfl⟩
  have hdef : m.full = (decide (m.st = 0) && decide (m.o.b.length = m.o.most)) := rfl
  rw [hbf] at hdef ⊢
  clear hbf
  by_cases h0 : m.st = 0
  · have t1 : ((m.st : Int) == 0) = true := by simp; omega
    by_cases h1 : m.o.b.length = m.o.most
    · have t2 : ((m.o.b.length : Int) == (m.o.most : Int)) = true := by simp; omega
      have hb : bf = true := by rw [hdef]; simp [h0, h1]
      clear hdef h0 h1
      subst hb
      go_enter Try.func24, Try.ntmps24
      go_wp2_with fail
      go_quiet (fail)
      go_wp2
      go_ret
      exact ⟨rfl, _, rfl⟩
    · have t2 : ((m.o.b.length : Int) == (m.o.most : Int)) = false := by simp; omega
      have hb : bf = false := by rw [hdef]; simp [h1]
      clear hdef h0 h1
      subst hb
      go_enter Try.func24, Try.ntmps24
      go_wp2_with fail
      go_quiet (fail)
      go_wp2
      go_ret
      exact ⟨rfl, _, rfl⟩
  · have t1 : ((m.st : Int) == 0) = false := by simp; omega
    have hb : bf = false := by rw [hdef]; simp [h0]
    clear hdef h0
    subst hb
    go_enter Try.func24, Try.ntmps24
    go_wp2_with fail
    go_quiet (fail)
    go_wp2
    go_ret
    exact ⟨rfl, _, rfl⟩
def MBad (f size : Int) : Prop := f < 1 ∨ 4 < f ∨ size < 0
theorem refm_bad (w : World) (f size : Int) (h : MBad f size) : Calls Try.prog 22 #[.int .i64 f, .int .i64 size] w fun e w' => e = .returned (.tuple #[.pointer none, .int .i64 2]) ∧ w = w' := by
  unfold MBad at h
  by_cases h1 : f < 1
  · have t1 : decide (f < 1) = true := by simpa using h1
    clear h h1
    go_enter Try.func22, Try.ntmps22
    go_wp2
    go_ret2
    exact ⟨rfl, rfl⟩
  · have t1 : decide (f < 1) = false := by simpa using h1
    by_cases h2 : 4 < f
    · have t2 : decide (4 < f) = true := by simpa using h2
      clear h h1 h2
      go_enter Try.func22, Try.ntmps22
      go_wp2
      go_ret2
      exact ⟨rfl, rfl⟩
    · have t2 : decide (4 < f) = false := by simpa using h2
      have t3 : decide (size < 0) = true := by simp; omega
      clear h h1 h2
      go_enter Try.func22, Try.ntmps22
      go_wp2
      go_ret2
      exact ⟨rfl, rfl⟩
theorem refm_new (w : World) (f size : Nat) (h1 : 1 ≤ f) (h4 : f ≤ 4) (hs : (size : Int) ≤ 9223372036854775807) : Calls Try.prog 22 #[.int .i64 f, .int .i64 size] w fun e w' => e = .returned (.tuple #[.pointer (some ⟨w.heap.size + 1, 0, none⟩), .int .i64 0]) ∧ Mx w' (w.heap.size + 1) w.heap.size (.slice none 0 0) ⟨f, ⟨65536, size, true, []⟩, 0, 0, 0⟩ ∧ Keep [] w w' := by
  have t1 : decide ((f : Int) < 1) = false := by simp; omega
  have t1' : decide (f < 1) = false := by simp; omega
  have t2 : decide ((4 : Int) < (f : Int)) = false := by simp; omega
  have t2' : decide (4 < f) = false := by simp; omega
  go_enter Try.func22, Try.ntmps22
  go_wp2
  go_ret2
  have hsz : (w.alloc (.cells #[.int .i64 65536, .int .i64 size, .bool true, .slice none 0 0] 61)).heap.size = w.heap.size + 1 := by simp
  have B1 := Blk.new (w.alloc (.cells #[.int .i64 65536, .int .i64 size, .bool true, .slice none 0 0] 61)) #[.int .i64 f, .pointer (some ⟨w.heap.size, 0, none⟩), .int .i64 0, .int .i64 0, .int .i64 0] 64
  rw [hsz] at B1
  refine ⟨rfl, ⟨B1, ⟨(Blk.new w _ _).alloc _, OwnB.nil _, by simp [Value.ownBlock], by show size ≤ 9223372036854775807; omega, by show 65536 ≤ 65536; omega⟩, by omega, by simp [Value.ownBlock], h1, h4, by show 0 ≤ 3; omega, by show 0 ≤ 255; omega, by show 0 ≤ 382; omega, (fun h => by cases h), rfl⟩, ((Keep.refl [] w).alloc _).alloc _⟩
end Go.Proofs.Yteahcpkaagjkkaa
namespace Go.Proofs.Yteahcpkaagjkkaa
set_option linter.unusedVariables false
set_option linter.unusedSimpArgs false
set_option maxRecDepth 100000
open Go.ChangeShapes Go.WideShapes Go.ChangeAt Go.RowKit

/-- what Feed leaves behind -/
def MxTo (w w' : World) (x q : Nat) (v : Value) (m : MS) : Prop := ∃ v', Mx w' x q v' m ∧ Keep (x :: q :: v.ownBlock.toList) w w' ∧ ∀ b, v'.ownBlock = some b → v.ownBlock = some b ∨ w.heap.size ≤ b
theorem HS.lit_win (s : HS) (c : UInt8) : (s.lit c).2.win = s.win := by unfold HS.lit; split <;> rfl
theorem HS.copy_win (s : HS) (d n : Int) : (s.copy d n).2.win = s.win := by unfold HS.copy; repeat' split
                                                                            all_goals rfl
/-- the machine's box with other numbers, its output told on -/
theorem Mx.to {w w1 : World} {x q : Nat} {v v1 : Value} {m : MS} {o1 : HS} (h : Mx w x q v m) (k : Keep (q :: v.ownBlock.toList) w w1) (r : Rx w1 q v1 o1) (hb : ∀ b, v1.ownBlock = some b → v.ownBlock = some b ∨ w.heap.size ≤ b) :
    Blk w1 x #[.int .i64 m.f, .pointer (some ⟨q, 0, none⟩), .int .i64 m.st, .int .i64 m.V, .int .i64 m.N] 64 ∧ (∀ b, v1.ownBlock = some b → b ≠ x) := by
  refine ⟨h.1.keep k (fun hm => ?_), fun b hb' e => ?_⟩
  · rcases List.mem_cons.1 hm with e | e
    · exact h.2.2.1 e
    · exact h.2.2.2.1 x (by simpa using e) rfl
  · rcases hb b hb' with h' | h'
    · exact h.2.2.2.1 b h' e
    · have := h.1.lt; omega
theorem Mx.boxed {w w1 w2 : World} {x q : Nat} {v : Value} {m : MS} (h : Mx w1 x q v m) (K1 : Keep [] w w1) (k : Keep [x] w1 w2) (st V N : Nat) (B : Blk w2 x #[.int .i64 m.f, .pointer (some ⟨q, 0, none⟩), .int .i64 st, .int .i64 V, .int .i64 N] 64)
    (ok : MS.ok { m with st := st, V := V, N := N }) : MxTo w w2 x q v { m with st := st, V := V, N := N } :=
  ⟨v, ⟨B, h.2.1.keep k (by have := h.2.2.1; simpa using Ne.symm this) (fun b hb => by have := h.2.2.2.1 b hb; simpa using this), h.2.2.1, h.2.2.2.1, ok⟩, (K1.nil (S := x :: q :: v.ownBlock.toList)).trans (k.mono (S' := x :: q :: v.ownBlock.toList) (by simp)) (fun z hz => .inl hz), fun b hb => .inl hb⟩
theorem Mx.told {w w1 w2 w3 : World} {x q : Nat} {v v2 : Value} {m : MS} {o2 : HS} (h : Mx w1 x q v m) (K1 : Keep [] w w1) (k : Keep (q :: v.ownBlock.toList) w1 w2) (r : Rx w2 q v2 o2) (hb : ∀ b, v2.ownBlock = some b → v.ownBlock = some b ∨ w1.heap.size ≤ b) (k3 : Keep [x] w2 w3) (st : Nat)
    (B : Blk w3 x #[.int .i64 m.f, .pointer (some ⟨q, 0, none⟩), .int .i64 st, .int .i64 m.V, .int .i64 m.N] 64) (ok : MS.ok { m with o := o2, st := st }) : MxTo w w3 x q v { m with o := o2, st := st } := by
  obtain ⟨_, hx⟩ := h.to k r hb
  refine ⟨v2, ⟨B, r.keep k3 (by have := h.2.2.1; simpa using Ne.symm this) (fun b hb' => by have := hx b hb'; simpa using this), h.2.2.1, hx, ok⟩, ((K1.nil (S := x :: q :: v.ownBlock.toList)).trans (k.mono (S' := x :: q :: v.ownBlock.toList) (fun z hz => List.mem_cons_of_mem _ hz)) (fun z hz => .inl hz)).trans k3 (by simp), fun b hb' => ?_⟩
  rcases hb b hb' with e | e
  · exact .inl e
  · have := K1.size; exact .inr (by omega)
set_option maxHeartbeats 4000000 in
theorem refm_feed (w : World) (x q : Nat) (v : Value) (m : MS) (c : UInt8) (h : Mx w x q v m) (hl : m.o.b.length ≤ 140737488350000) :
    Calls Try.prog 26 #[.pointer (some ⟨x, 0, none⟩), .int .u8 c.toNat] w fun e w' => e = .returned (.int .i64 (m.feed c).1) ∧ MxTo w w' x q v (m.feed c).2 := by
  have HF := Lib.hid (refm_full w x q v m h)
  obtain ⟨R, hR⟩ : ∃ R, m.feed c = R := ⟨_, rfl⟩
  rw [hR]
  unfold MS.feed at hR
  cases hfull : m.full with
  | true =>
    rw [hfull] at HF hR
    rw [if_pos rfl] at hR
    have HR := Lib.hid hR; clear hR hfull
    go_enter Try.func26, Try.ntmps26
    go_wp2_with fail
    refine HF.out.mono ?_; rintro e w1 ⟨rfl, n1, rfl⟩
    go_wp2_with fail
    go_ret
    rw [← HR.out]
    exact ⟨rfl, v, h.drewN _, (Keep.refl _ _).drewN _, fun b hb => .inl hb⟩
  | false =>
  rw [hfull] at HF hR
  rw [if_neg (by simp)] at hR
  clear hfull
  obtain ⟨g1, g2, g3, g4, g5, g6, g7⟩ := h.2.2.2.2
  obtain ⟨l1, l2, l3⟩ := low13_of m.f g1 g2
  have hw8 : IntKind.i64.wrap (8 - (m.f : Int)) = ((8 - m.f : Nat) : Int) := by rw [IntKind.wrap_i64]; omega
  have HTW := Lib.hid (fun w' => two13_c w' (8 - m.f) (by omega))
  have hlow : 2 ^ (8 - m.f) = low13 m.f := rfl
  rw [hlow] at HTW
  clear hlow
  by_cases s0 : m.st = 0
  · rw [if_pos s0] at hR
    have t0 : ((m.st : Int) == 0) = true := by simp; omega
    by_cases hc : c.toNat = 144
    · rw [if_pos hc] at hR
      have q1 : ((c.toNat : Int) == 144) = true := by simp; omega
      have HR := Lib.hid hR; have HS0 := Lib.hid s0
      clear hR hc s0
      go_enter Try.func26, Try.ntmps26
      go_wp2_with fail
      refine HF.out.mono ?_; rintro e w1 ⟨rfl, n1, rfl⟩
      have h1 := h.drewN n1
      have K1 : Keep [] w (w.drewN n1) := (Keep.refl [] w).drewN n1
      generalize w.drewN n1 = w1 at h1 K1 ⊢
      have c0 := h1.1.cell 0 _ rfl
      have c1 := h1.1.cell 1 _ rfl
      have c2 := h1.1.cell 2 _ rfl
      have c3 := h1.1.cell 3 _ rfl
      have c4 := h1.1.cell 4 _ rfl
      have f2 := h1.1.free 2
      have f3 := h1.1.free 3
      have f4 := h1.1.free 4
      go_wp2_with fail
      refine (HTW.out _).mono ?_; rintro e w2 ⟨rfl, rfl⟩
      go_wp2_with fail
      go_ret
      rw [← HR.out]
      exact ⟨rfl, h1.boxed K1 ((Keep.refl [x] w1).setCell (by simp) _) 1 m.V m.N (by simpa using h1.1.set 2 (.int .i64 1)) ⟨g1, g2, by show 1 ≤ 3; omega, g4, g5, (fun h => by cases h), g7⟩⟩
    · rw [if_neg hc] at hR
      have q1 : ((c.toNat : Int) == 144) = false := by simp; omega
      have HR := Lib.hid hR; have HS0 := Lib.hid s0
      clear hR hc s0
      go_enter Try.func26, Try.ntmps26
      go_wp2_with fail
      refine HF.out.mono ?_; rintro e w1 ⟨rfl, n1, rfl⟩
      have h1 := h.drewN n1
      have K1 : Keep [] w (w.drewN n1) := (Keep.refl [] w).drewN n1
      generalize w.drewN n1 = w1 at h1 K1 ⊢
      have c0 := h1.1.cell 0 _ rfl
      have c1 := h1.1.cell 1 _ rfl
      have c2 := h1.1.cell 2 _ rfl
      have c3 := h1.1.cell 3 _ rfl
      have c4 := h1.1.cell 4 _ rfl
      have f2 := h1.1.free 2
      have f3 := h1.1.free 3
      have f4 := h1.1.free 4
      go_wp2_with fail
      refine (HTW.out _).mono ?_; rintro e w2 ⟨rfl, rfl⟩
      go_wp2_with fail
      refine (refhs_lit w1 q v m.o c h1.2.1 (by omega)).mono ?_; rintro e w3 ⟨v3, rfl, r3, k3, b3⟩
      have hB := (h1.to k3 r3 b3).1
      go_wp2_with fail
      go_ret
      rw [← HR.out]
      exact ⟨rfl, h1.told K1 k3 r3 b3 (Keep.refl _ _) m.st hB ⟨g1, g2, g3, g4, g5, g6, by rw [HS.lit_win]; exact g7⟩⟩
  rw [if_neg s0] at hR
  have t0 : ((m.st : Int) == 0) = false := by simp; omega
  by_cases s1 : m.st = 1
  · rw [if_pos s1] at hR
    have t1 : ((m.st : Int) == 1) = true := by simp; omega
    by_cases hc : c.toNat = 0
    · rw [if_pos hc] at hR
      have q1 : ((c.toNat : Int) == 0) = true := by simp; omega
      have HR := Lib.hid hR; have HS1 := Lib.hid s1
      clear hR hc s1
      go_enter Try.func26, Try.ntmps26
      go_wp2_with fail
      refine HF.out.mono ?_; rintro e w1 ⟨rfl, n1, rfl⟩
      have h1 := h.drewN n1
      have K1 : Keep [] w (w.drewN n1) := (Keep.refl [] w).drewN n1
      generalize w.drewN n1 = w1 at h1 K1 ⊢
      have c0 := h1.1.cell 0 _ rfl
      have c1 := h1.1.cell 1 _ rfl
      have c2 := h1.1.cell 2 _ rfl
      have c3 := h1.1.cell 3 _ rfl
      have c4 := h1.1.cell 4 _ rfl
      have f2 := h1.1.free 2
      have f3 := h1.1.free 3
      have f4 := h1.1.free 4
      go_wp2_with fail
      refine (HTW.out _).mono ?_; rintro e w2 ⟨rfl, rfl⟩
      go_wp2_with fail
      refine (refhs_lit w1 q v m.o 144 h1.2.1 (by omega)).mono ?_; rintro e w3 ⟨v3, rfl, r3, k3, b3⟩
      have hB := (h1.to k3 r3 b3).1
      have d2 := hB.cell 2 _ rfl
      have e2 := hB.free 2
      by_cases hz : (m.o.lit 144).1 = 0
      · have q2 : (((m.o.lit 144).1 : Int) == 0) = true := by simp; omega
        have HZ := Lib.hid hz; clear hz
        go_wp2_with fail
        go_ret
        rw [← HR.out, if_pos HZ.out]
        exact ⟨rfl, h1.told K1 k3 r3 b3 ((Keep.refl [x] w3).setCell (by simp) _) 0 (by simpa using hB.set 2 (.int .i64 0)) ⟨g1, g2, by show 0 ≤ 3; omega, g4, g5, (fun h => by cases h), by rw [HS.lit_win]; exact g7⟩⟩
      · have q2 : (((m.o.lit 144).1 : Int) == 0) = false := by simp; omega
        have HZ := Lib.hid hz; clear hz
        go_wp2_with fail
        go_ret
        rw [← HR.out, if_neg HZ.out]
        exact ⟨rfl, h1.told K1 k3 r3 b3 (Keep.refl _ _) 1 (by have e := HS1.out; rw [e] at hB; exact hB) ⟨g1, g2, by show 1 ≤ 3; omega, g4, g5, (fun h => by cases h), by rw [HS.lit_win]; exact g7⟩⟩
    · rw [if_neg hc] at hR
      have q1 : ((c.toNat : Int) == 0) = false := by simp; omega
      have HR := Lib.hid hR; have HS1 := Lib.hid s1
      have hc8 : c.toNat < 256 := c.toNat_lt
      clear hR hc s1
      obtain ⟨lw, hlw⟩ : ∃ lw, low13 m.f = lw := ⟨_, rfl⟩
      have hmod : c.toNat % low13 m.f < low13 m.f := Nat.mod_lt _ (by omega)
      obtain ⟨rm, hrm⟩ : ∃ rm, c.toNat % low13 m.f = rm := ⟨_, rfl⟩
      rw [hrm] at hmod
      rw [hlw] at hmod l1 l2 HTW
      have hrem : (c.toNat : Int).tmod (lw : Int) = (rm : Int) := by
        rw [← hrm, ← hlw, Int.tmod_eq_emod_of_nonneg (by omega)]; exact (Int.natCast_emod _ _).symm
      have hcw : IntKind.i64.wrap (c.toNat : Int) = c.toNat := by rw [IntKind.wrap_i64]; omega
      have hremw : IntKind.i64.wrap (rm : Int) = rm := by rw [IntKind.wrap_i64]; omega
      have hsub : IntKind.i64.wrap ((lw : Int) - 1) = (lw : Int) - 1 := by rw [IntKind.wrap_i64]; omega
      have hlw0 : lw ≠ 0 := by omega
      have hlw0' : ¬ (lw : Int) = 0 := by omega
      have HRM := Lib.hid hrm; have HLW := Lib.hid hlw
      clear hrm hlw
      go_enter Try.func26, Try.ntmps26
      go_wp2_with fail
      refine HF.out.mono ?_; rintro e w1 ⟨rfl, n1, rfl⟩
      have h1 := h.drewN n1
      have K1 : Keep [] w (w.drewN n1) := (Keep.refl [] w).drewN n1
      generalize w.drewN n1 = w1 at h1 K1 ⊢
      have c0 := h1.1.cell 0 _ rfl
      have c1 := h1.1.cell 1 _ rfl
      have c2 := h1.1.cell 2 _ rfl
      have c3 := h1.1.cell 3 _ rfl
      have c4 := h1.1.cell 4 _ rfl
      have f2 := h1.1.free 2
      have f3 := h1.1.free 3
      have f4 := h1.1.free 4
      go_wp2_with fail
      refine (HTW.out _).mono ?_; rintro e w2 ⟨rfl, rfl⟩
      go_upto_region 20 with fail
      go_cut [] (fun wx => Blk wx x #[.int .i64 m.f, .pointer (some ⟨q, 0, none⟩), .int .i64 m.st, .int .i64 c.toNat, .int .i64 rm] 64 ∧ Keep [x] w1 wx)
      case first =>
        have hS : Blk ((w1.setCell ⟨x, 3, none⟩ (.int .i64 c.toNat)).setCell ⟨x, 4, none⟩ (.int .i64 rm)).drew x #[.int .i64 m.f, .pointer (some ⟨q, 0, none⟩), .int .i64 m.st, .int .i64 c.toNat, .int .i64 rm] 64 := Blk.keep (by simpa using (h1.1.set 3 (.int .i64 c.toNat)).set 4 (.int .i64 rm)) (Keep.refl [] _).drew (by simp)
        have hS' : Blk ((w1.setCell ⟨x, 4, none⟩ (.int .i64 rm)).setCell ⟨x, 3, none⟩ (.int .i64 c.toNat)).drew x #[.int .i64 m.f, .pointer (some ⟨q, 0, none⟩), .int .i64 m.st, .int .i64 c.toNat, .int .i64 rm] 64 := Blk.keep (by simpa using (h1.1.set 4 (.int .i64 rm)).set 3 (.int .i64 c.toNat)) (Keep.refl [] _).drew (by simp)
        have kS : Keep [x] w1 ((w1.setCell ⟨x, 3, none⟩ (.int .i64 c.toNat)).setCell ⟨x, 4, none⟩ (.int .i64 rm)).drew := (((Keep.refl [x] w1).setCell (by simp) _).setCell (by simp) _).drew
        have kS' : Keep [x] w1 ((w1.setCell ⟨x, 4, none⟩ (.int .i64 rm)).setCell ⟨x, 3, none⟩ (.int .i64 c.toNat)).drew := (((Keep.refl [x] w1).setCell (by simp) _).setCell (by simp) _).drew
        go_region_with fail
        all_goals
          go_wp2_with fail
          go_meet
          first | exact ⟨hS, kS⟩ | exact ⟨hS', kS'⟩
      case rest =>
        obtain ⟨hB, kB⟩ := hcut
        generalize wc = w3 at *
        have hB2 := hB.set 2 (.int .i64 3)
        have d2 := hB.cell 2 _ rfl
        have d4 := hB2.cell 4 _ rfl
        have e2 := hB.free 2
        have e22 := hB2.free 2
        by_cases hz : rm = lw - 1
        · have q2 : ((rm : Int) == (lw : Int) - 1) = true := by simp; omega
          have hR2 := HR.out
          rw [HRM.out, HLW.out, if_pos hz] at hR2
          have HR2 := Lib.hid hR2
          clear hR2 hz c0 c1 c2 c3 c4 f2 f3 f4
          go_wp2_with fail
          go_ret
          rw [← HR2.out]
          exact ⟨rfl, h1.boxed K1 ((kB.setCell (by simp) _).setCell (by simp) _) 2 c.toNat rm (by simpa using hB2.set 2 (.int .i64 2)) ⟨g1, g2, by show 2 ≤ 3; omega, by show c.toNat ≤ 255; omega, by show rm ≤ 382; omega, (fun _ => by show rm ≤ 127; omega), g7⟩⟩
        · have q2 : ((rm : Int) == (lw : Int) - 1) = false := by simp; omega
          have hR2 := HR.out
          rw [HRM.out, HLW.out, if_neg hz] at hR2
          have HR2 := Lib.hid hR2
          clear hR2 hz c0 c1 c2 c3 c4 f2 f3 f4
          go_wp2_with fail
          go_ret
          rw [← HR2.out]
          exact ⟨rfl, h1.boxed K1 (kB.setCell (by simp) _) 3 c.toNat rm (by simpa using hB2) ⟨g1, g2, by show 3 ≤ 3; omega, by show c.toNat ≤ 255; omega, by show rm ≤ 382; omega, (fun h => by cases h), g7⟩⟩
  rw [if_neg s1] at hR
  have t1 : ((m.st : Int) == 1) = false := by simp; omega
  by_cases s2 : m.st = 2
  · rw [if_pos s2] at hR
    have t2 : ((m.st : Int) == 2) = true := by simp; omega
    have hsum : IntKind.i64.wrap ((m.N : Int) + (c.toNat : Int)) = (m.N : Int) + (c.toNat : Int) := by have := c.toNat_lt; rw [IntKind.wrap_i64]; omega
    have HR := Lib.hid hR
    have hN := g6 s2
    have hc8 := c.toNat_lt
    clear hR
    go_enter Try.func26, Try.ntmps26
    go_wp2_with fail
    refine HF.out.mono ?_; rintro e w1 ⟨rfl, n1, rfl⟩
    have h1 := h.drewN n1
    have K1 : Keep [] w (w.drewN n1) := (Keep.refl [] w).drewN n1
    generalize w.drewN n1 = w1 at h1 K1 ⊢
    have c0 := h1.1.cell 0 _ rfl
    have c2 := h1.1.cell 2 _ rfl
    have c4 := h1.1.cell 4 _ rfl
    have f4 := h1.1.free 4
    have b4 := h1.1.set 4 (.int .i64 ((m.N : Int) + (c.toNat : Int)))
    have f2 := b4.free 2
    have d2 := b4.cell 2 _ rfl
    have HS2 := Lib.hid s2
    go_wp2_with fail
    refine (HTW.out _).mono ?_; rintro e w2 ⟨rfl, rfl⟩
    go_wp2_with fail
    go_ret
    rw [← HR.out]
    exact ⟨rfl, h1.boxed K1 (((Keep.refl [x] w1).setCell (by simp) _).setCell (by simp) _) 3 m.V (m.N + c.toNat) (by simpa using (h1.1.set 4 (.int .i64 ((m.N : Int) + (c.toNat : Int)))).set 2 (.int .i64 3)) ⟨g1, g2, by show 3 ≤ 3; omega, g4, by show m.N + c.toNat ≤ 382; have : c.toNat < 256 := c.toNat_lt; omega, (fun h => by cases h), g7⟩⟩
  rw [if_neg s2] at hR
  have t2 : ((m.st : Int) == 2) = false := by simp; omega
  have hs3 : m.st = 3 := by omega
  have hc8 : c.toNat < 256 := c.toNat_lt
  obtain ⟨lw, hlw⟩ : ∃ lw, low13 m.f = lw := ⟨_, rfl⟩
  obtain ⟨dv, hdv⟩ : ∃ dv, m.V / low13 m.f = dv := ⟨_, rfl⟩
  have hdv2 : dv ≤ 255 := by rw [← hdv]; exact Nat.le_trans (Nat.div_le_self _ _) g4
  have hdvI : (m.V : Int).tdiv (lw : Int) = (dv : Int) := by
    rw [← hdv, ← hlw, Int.tdiv_eq_ediv_of_nonneg (by omega)]; exact (Int.natCast_ediv _ _).symm
  rw [hdv] at hR
  rw [hlw] at l1 l2 HTW
  obtain ⟨D, hD⟩ : ∃ D, 256 * dv + c.toNat + 1 = D := ⟨_, rfl⟩
  obtain ⟨L, hL⟩ : ∃ L, m.N + 3 = L := ⟨_, rfl⟩
  rw [hD, hL] at hR
  have hcw : IntKind.i64.wrap (c.toNat : Int) = c.toNat := by rw [IntKind.wrap_i64]; omega
  have w1' : IntKind.i64.wrap (dv : Int) = dv := by rw [IntKind.wrap_i64]; omega
  have w2' : IntKind.i64.wrap (256 * (dv : Int)) = 256 * dv := by rw [IntKind.wrap_i64]; omega
  have w3' : IntKind.i64.wrap (256 * (dv : Int) + (c.toNat : Int)) = 256 * dv + c.toNat := by rw [IntKind.wrap_i64]; omega
  have w4' : IntKind.i64.wrap (256 * (dv : Int) + (c.toNat : Int) + 1) = (D : Int) := by rw [IntKind.wrap_i64]; omega
  have w5' : IntKind.i64.wrap ((m.N : Int) + 3) = (L : Int) := by rw [IntKind.wrap_i64]; omega
  have hlw0 : lw ≠ 0 := by omega
  have hlw0' : ¬ (lw : Int) = 0 := by omega
  have hL2 : (L : Int) ≤ 400 := by omega
  have HR := Lib.hid hR; have HS3 := Lib.hid hs3
  clear hR hlw hdv hD hL hs3 s0 s1 s2
  go_enter Try.func26, Try.ntmps26
  go_wp2_with fail
  refine HF.out.mono ?_; rintro e w1 ⟨rfl, n1, rfl⟩
  have h1 := h.drewN n1
  have K1 : Keep [] w (w.drewN n1) := (Keep.refl [] w).drewN n1
  generalize w.drewN n1 = w1 at h1 K1 ⊢
  have c0 := h1.1.cell 0 _ rfl
  have c1 := h1.1.cell 1 _ rfl
  have c2 := h1.1.cell 2 _ rfl
  have c3 := h1.1.cell 3 _ rfl
  have c4 := h1.1.cell 4 _ rfl
  have f2 := h1.1.free 2
  have f3 := h1.1.free 3
  have f4 := h1.1.free 4
  have HCP := Lib.hid (fun w' (k : Keep [] w1 w') => refhs_copy w' q v m.o (D : Int) (L : Int) (h1.2.1.keep k (by simp) (by simp)) (by omega) (by split <;> omega))
  go_wp2_with fail
  refine (HTW.out _).mono ?_; rintro e w2 ⟨rfl, rfl⟩
  go_upto_region 5 with fail
  go_still_tail 20, (by kernel_rfl)
  have K2 : Keep [] w1 w1.drew := (Keep.refl [] w1).drew
  have h2 := h1.keep K2 (by simp) (by simp) (by simp)
  have K12 := K1.drew
  change wpList _ _ _ _ _ w1.drew
  have HCP2 := Lib.hid (HCP.out w1.drew K2)
  generalize w1.drew = w3 at h2 K12 HCP2 ⊢
  clear c0 c1 c2 c3 c4 f2 f3 f4
  go_wp2_with fail
  with_reducible refine HCP2.out.mono ?_; rintro e w4 ⟨v4, rfl, r4, k4, b4⟩
  have hB := (h2.to k4 r4 b4).1
  have d2 := hB.cell 2 _ rfl
  have e2 := hB.free 2
  obtain ⟨er, her⟩ : ∃ er, (m.o.copy (D : Int) (L : Int)).1 = er := ⟨_, rfl⟩
  have HER := Lib.hid her
  rw [her]
  by_cases hz : er = 0
  · have q2 : ((er : Int) != 0) = false := by simp; omega
    have hR2 := HR.out
    rw [her, if_pos hz] at hR2
    have HR2 := Lib.hid hR2; have HZ := Lib.hid hz
    clear hR2 hz her
    go_wp2_with fail
    go_ret
    rw [← HR2.out]
    exact ⟨by rw [HZ.out]; rfl, h2.told K12 k4 r4 b4 ((Keep.refl [x] w4).setCell (by simp) _) 0 (by simpa using hB.set 2 (.int .i64 0)) ⟨g1, g2, by show 0 ≤ 3; omega, g4, g5, (fun h => by cases h), by rw [HS.copy_win]; exact g7⟩⟩
  · have q2 : ((er : Int) != 0) = true := by simp; omega
    have hR2 := HR.out
    rw [her, if_neg hz] at hR2
    have HR2 := Lib.hid hR2
    clear hR2 hz her
    go_wp2_with fail
    go_ret
    rw [← HR2.out]
    exact ⟨rfl, h2.told K12 k4 r4 b4 (Keep.refl _ _) m.st hB ⟨g1, g2, g3, g4, g5, g6, by rw [HS.copy_win]; exact g7⟩⟩
end Go.Proofs.Yteahcpkaagjkkaa
namespace Go.Proofs.Yteahcpkaagjkkaa
set_option linter.unusedVariables false
set_option linter.unusedSimpArgs false
open Go.ChangeShapes Go.WideShapes Go.ChangeAt Go.RowKit

/-- a shape's cells -/
def Sh.cells (s : Sh) : Array Value := #[.int .i64 s.win, .int .i64 s.min, .int .i64 s.max, .int .i64 s.chain, .bool s.lazy]
def Sh.val (s : Sh) : Value := .agg s.cells
theorem dec_t {p : Prop} [Decidable p] (h : p) : decide p = true := by simpa using h
theorem dec_f {p : Prop} [Decidable p] (h : ¬ p) : decide p = false := by simpa using h

set_option maxRecDepth 100000 in
set_option maxHeartbeats 4000000 in
theorem refcheck9_c (w : World) (s : Sh) : Calls Try.prog 95 #[s.val] w fun e w' => e = .returned (.bool (decide s.ok)) ∧ Keep [] w w' := by
  have HD : Hid (s.ok ↔ (1 ≤ s.win ∧ s.win ≤ 65536 ∧ 2 ≤ s.min ∧ s.min ≤ 3 ∧ s.min ≤ s.max ∧ s.max ≤ 65538 ∧ 0 ≤ s.chain ∧ s.chain ≤ 4096)) := Iff.rfl
  obtain ⟨win, mn, mx, ch, lz⟩ := s
  simp only at HD
  have key : ∀ b : Bool, ((⟨win, mn, mx, ch, lz⟩ : Sh).ok ↔ b = true) → decide (⟨win, mn, mx, ch, lz⟩ : Sh).ok = b := by
    intro b hb; cases b <;> simp_all
  have HKY := Lib.hid key
  clear key
  show Calls Try.prog 95 #[.agg #[.int .i64 win, .int .i64 mn, .int .i64 mx, .int .i64 ch, .bool lz]] w _
  by_cases h1 : 1 ≤ win
  case neg =>
    have q : Hid (decide (⟨win, mn, mx, ch, lz⟩ : Sh).ok = false) := HKY.out _ (by have := HD.out; rw [this]; simp only [Bool.false_eq_true, iff_false]; omega)
    have d1 := dec_f h1
    clear h1
    go_enter Try.func95, Try.ntmps95
    go_wp2_with fail
    go_ret
    exact ⟨by rw [q.out]; rfl, by first | exact ((Keep.refl [] w).alloc _) | exact ((Keep.refl [] w).alloc _).drewN _⟩
  have d1 := dec_t h1
  by_cases h2 : win ≤ 65536
  case neg =>
    have q : Hid (decide (⟨win, mn, mx, ch, lz⟩ : Sh).ok = false) := HKY.out _ (by have := HD.out; rw [this]; simp only [Bool.false_eq_true, iff_false]; omega)
    have d2 := dec_f h2
    clear h1 h2
    go_enter Try.func95, Try.ntmps95
    go_wp2_with fail
    go_ret
    exact ⟨by rw [q.out]; rfl, by first | exact ((Keep.refl [] w).alloc _) | exact ((Keep.refl [] w).alloc _).drewN _⟩
  have d2 := dec_t h2
  by_cases h3 : 2 ≤ mn
  case neg =>
    have q : Hid (decide (⟨win, mn, mx, ch, lz⟩ : Sh).ok = false) := HKY.out _ (by have := HD.out; rw [this]; simp only [Bool.false_eq_true, iff_false]; omega)
    have d3 := dec_f h3
    clear h1 h2 h3
    go_enter Try.func95, Try.ntmps95
    go_wp2_with fail
    go_ret
    exact ⟨by rw [q.out]; rfl, by first | exact ((Keep.refl [] w).alloc _) | exact ((Keep.refl [] w).alloc _).drewN _⟩
  have d3 := dec_t h3
  by_cases h4 : mn ≤ 3
  case neg =>
    have q : Hid (decide (⟨win, mn, mx, ch, lz⟩ : Sh).ok = false) := HKY.out _ (by have := HD.out; rw [this]; simp only [Bool.false_eq_true, iff_false]; omega)
    have d4 := dec_f h4
    clear h1 h2 h3 h4
    go_enter Try.func95, Try.ntmps95
    go_wp2_with fail
    go_ret
    exact ⟨by rw [q.out]; rfl, by first | exact ((Keep.refl [] w).alloc _) | exact ((Keep.refl [] w).alloc _).drewN _⟩
  have d4 := dec_t h4
  by_cases h5 : mn ≤ mx
  case neg =>
    have q : Hid (decide (⟨win, mn, mx, ch, lz⟩ : Sh).ok = false) := HKY.out _ (by have := HD.out; rw [this]; simp only [Bool.false_eq_true, iff_false]; omega)
    have d5 := dec_f h5
    clear h1 h2 h3 h4 h5
    go_enter Try.func95, Try.ntmps95
    go_wp2_with fail
    go_ret
    exact ⟨by rw [q.out]; rfl, by first | exact ((Keep.refl [] w).alloc _) | exact ((Keep.refl [] w).alloc _).drewN _⟩
  have d5 := dec_t h5
  by_cases h6 : mx ≤ 65538
  case neg =>
    have q : Hid (decide (⟨win, mn, mx, ch, lz⟩ : Sh).ok = false) := HKY.out _ (by have := HD.out; rw [this]; simp only [Bool.false_eq_true, iff_false]; omega)
    have d6 := dec_f h6
    clear h1 h2 h3 h4 h5 h6
    go_enter Try.func95, Try.ntmps95
    go_wp2_with fail
    go_ret
    exact ⟨by rw [q.out]; rfl, by first | exact ((Keep.refl [] w).alloc _) | exact ((Keep.refl [] w).alloc _).drewN _⟩
  have d6 := dec_t h6
  by_cases h7 : 0 ≤ ch
  case neg =>
    have q : Hid (decide (⟨win, mn, mx, ch, lz⟩ : Sh).ok = false) := HKY.out _ (by have := HD.out; rw [this]; simp only [Bool.false_eq_true, iff_false]; omega)
    have d7 := dec_f h7
    clear h1 h2 h3 h4 h5 h6 h7
    go_enter Try.func95, Try.ntmps95
    go_wp2_with fail
    go_ret
    exact ⟨by rw [q.out]; rfl, by first | exact ((Keep.refl [] w).alloc _) | exact ((Keep.refl [] w).alloc _).drewN _⟩
  have d7 := dec_t h7
  by_cases h8 : ch ≤ 4096
  case neg =>
    have q : Hid (decide (⟨win, mn, mx, ch, lz⟩ : Sh).ok = false) := HKY.out _ (by have := HD.out; rw [this]; simp only [Bool.false_eq_true, iff_false]; omega)
    have d8 := dec_f h8
    clear h1 h2 h3 h4 h5 h6 h7 h8
    go_enter Try.func95, Try.ntmps95
    go_wp2_with fail
    go_ret
    exact ⟨by rw [q.out]; rfl, by first | exact ((Keep.refl [] w).alloc _) | exact ((Keep.refl [] w).alloc _).drewN _⟩
  have d8 := dec_t h8
  have q : Hid (decide (⟨win, mn, mx, ch, lz⟩ : Sh).ok = true) := HKY.out _ (by have := HD.out; rw [this]; simp only [iff_true]; omega)
  clear h1 h2 h3 h4 h5 h6 h7 h8
  go_enter Try.func95, Try.ntmps95
  go_wp2_with fail
  go_ret
  exact ⟨by rw [q.out]; rfl, by first | exact ((Keep.refl [] w).alloc _) | exact ((Keep.refl [] w).alloc _).drewN _⟩
/-- one more byte the same -/
theorem cntUp_step (P : Nat → Bool) (m n : Nat) : cntUp P (m + 1) n = if P n then cntUp P m (n + 1) else n := rfl
set_option maxRecDepth 100000 in
set_option maxHeartbeats 2000000 in
theorem refsame9_c (w : World) (v : Value) (b : List UInt8) (f i m : Nat) (h : Bs w v b) (hfi : f ≤ i) (hi : i ≤ b.length) (hb : b.length ≤ 100000) (hm : m ≤ 100000) : Calls Try.prog 111 #[v, .int .i64 f, .int .i64 i, .int .i64 m] w fun e w' => e = .returned (.int .i64 (sme b f i m : Nat)) ∧ ∃ n, w' = w.drewN n := by
  have HI := Lib.hid (fun k hk => h.spot k hk)
  obtain ⟨a, cap, rfl, hc1, hc2⟩ := h.shape
  clear h hc1 hc2
  go_enter Try.func111, Try.ntmps111
  go_wp2_with fail
  go_loopw [9] (fun n wr => ∃ k : Nat, k ≤ m ∧ i + k ≤ b.length ∧ n = .int .i64 k ∧ Hid (sme b f i m = cntUp (sm1 b f i) (m - k) k) ∧ ∃ n, wr = w.drewN n) (fun n _ => m - (intOf n).toNat)
  case atStart => exact ⟨0, by omega, by omega, rfl, rfl, 0, rfl⟩
  case round =>
    obtain ⟨k, hk, hkb, rfl, HC, n, rfl⟩ := hrel
    by_cases h1 : k < m
    case neg =>
      obtain rfl : k = m := by omega
      have HC2 : Hid (sme b f i k = k) := by have := HC.out; rw [Nat.sub_self] at this; exact this
      clear HC h1
      go_wp2_with fail
      go_quiet (fail)
      go_wp2_with fail
      go_ret
      exact ⟨by rw [HC2.out]; rfl, _, World.drewN_drewN _ _ _⟩
    have d1 : (k : Int) < (m : Int) := by omega
    by_cases h2 : i + k < b.length
    case neg =>
      have HC2 : Hid (sme b f i m = k) := by
        have := HC.out
        rw [show m - k = (m - k - 1) + 1 by omega, cntUp_step, if_neg (by unfold sm1; simp [h2])] at this
        exact this
      have d2 : decide ((i : Int) + k < (b.length : Int)) = false := dec_f (by omega)
      have d2' : decide (i + k < b.length) = false := dec_f h2
      clear HC h2 h1
      go_wp2_with fail
      go_quiet (fail)
      go_wp2_with fail
      go_ret
      exact ⟨by rw [HC2.out]; rfl, _, World.drewN_drewN _ _ _⟩
    have d2 : (i : Int) + k < (b.length : Int) := by omega
    obtain ⟨g, off, cap1, hv, e1⟩ := HI.out (i + k) h2
    simp only [Value.slice.injEq] at hv
    obtain ⟨rfl, h3, rfl⟩ := hv
    clear h3
    obtain ⟨g', off', cap2, hv, e2⟩ := HI.out (f + k) (by omega)
    simp only [Value.slice.injEq, Option.some.injEq, Addr.mk.injEq] at hv
    obtain ⟨⟨rfl, rfl, hh⟩, h3, rfl⟩ := hv
    clear h3 hh
    have d3 : (f : Int) + k < (b.length : Int) := by omega
    have HS := Lib.hid (show sm1 b f i k = (b[f + k] == b[i + k]) by
      unfold sm1
      rw [decide_eq_true h2, Bool.true_and, List.getD_eq_getElem?_getD, List.getD_eq_getElem?_getD, List.getElem?_eq_getElem h2, List.getElem?_eq_getElem (show f + k < b.length by omega)]; rfl)
    by_cases he : b[f + k] = b[i + k]
    · have hb1 : ((b[f + k].toNat : Int) == b[i + k].toNat) = true := by rw [he]; simp
      have HC2 : Hid (sme b f i m = cntUp (sm1 b f i) (m - (k + 1)) (k + 1)) := by
        have := HC.out
        rw [show m - k = (m - (k + 1)) + 1 by omega, cntUp_step, HS.out, he, if_pos (by simp)] at this
        exact this
      generalize b[f + k].toNat = x1 at e2 hb1
      generalize b[i + k].toNat = x2 at e1 hb1
      clear he HC HS
      go_wp2_with fail
      go_quiet (fail)
      go_wp2_with fail
      go_roundw
      case rel => exact ⟨k + 1, by omega, by omega, by go_num, HC2, _, rfl⟩
      case measure => simp [intOf]; omega
    · have hb1 : ((b[f + k].toNat : Int) == b[i + k].toNat) = false := by
        have : b[f + k].toNat ≠ b[i + k].toNat := fun e => he (UInt8.toNat_inj.1 e)
        simp; omega
      have HC2 : Hid (sme b f i m = k) := by
        have := HC.out
        rw [show m - k = (m - (k + 1)) + 1 by omega, cntUp_step, HS.out, if_neg (by simpa using he)] at this
        exact this
      generalize b[f + k].toNat = x1 at e2 hb1
      generalize b[i + k].toNat = x2 at e1 hb1
      clear he HC HS
      go_wp2_with fail
      go_quiet (fail)
      go_wp2_with fail
      go_ret
      exact ⟨by rw [HC2.out]; rfl, _, World.drewN_drewN _ _ _⟩
end Go.Proofs.Yteahcpkaagjkkaa
namespace Go.Proofs.Yteahcpkaagjkkaa
set_option linter.unusedVariables false
set_option linter.unusedSimpArgs false
open Go.ChangeShapes Go.WideShapes Go.ChangeAt Go.RowKit

set_option maxRecDepth 100000 in
set_option maxHeartbeats 4000000 in
theorem refat9_c (w : World) (v : Value) (b : List UInt8) (s : Sh) (i : Nat) (hs : s.ok) (h : Bs w v b) (hi : i ≤ b.length) (hb : b.length ≤ 100000) : Calls Try.prog 96 #[v, s.val, .int .i64 i] w fun e w' => e = .returned (.agg (atT b s i).cells.toArray) ∧ Keep [] w w' := by
  obtain ⟨win, mn, mx, ch, lz⟩ := s
  have hs' := hs
  unfold Sh.ok at hs'
  simp only at hs'
  obtain ⟨mn, rfl⟩ := Int.eq_ofNat_of_zero_le (show 0 ≤ mn by omega)
  obtain ⟨mx, rfl⟩ := Int.eq_ofNat_of_zero_le (show 0 ≤ mx by omega)
  have hmn : mn ≤ 3 := by omega
  have hmx : mx ≤ 65538 := by omega
  have hch : ch ≤ 4096 := by omega
  show Calls Try.prog 96 #[v, .agg #[.int .i64 win, .int .i64 mn, .int .i64 mx, .int .i64 ch, .bool lz], .int .i64 i] w _
  have HAT : Hid (∀ k L best, atF b ⟨win, mn, mx, ch, lz⟩ i (k + 1) L best = if (i : Int) - k ≤ win ∧ (L : Int) < ch then if sme b k i mn < mn then atF b ⟨win, mn, mx, ch, lz⟩ i k L best else atF b ⟨win, mn, mx, ch, lz⟩ i k (L + 1) (if best.len < (sme b k i mx : Int) then ⟨0, (i : Int) - k, sme b k i mx⟩ else best) else best) := fun k L best => rfl
  have HA0 : Hid (∀ L best, atF b ⟨win, mn, mx, ch, lz⟩ i 0 L best = best) := fun L best => rfl
  have HAS : Hid (atT b ⟨win, mn, mx, ch, lz⟩ i = atF b ⟨win, mn, mx, ch, lz⟩ i i 0 ⟨0, 0, 0⟩) := rfl
  clear hs hs'
  generalize (⟨win, mn, mx, ch, lz⟩ : Sh) = S at HAT HA0 HAS ⊢
  have HSM := Lib.hid (fun (ww : World) (kk : Keep [] w ww) (f m : Nat) (hf : f ≤ i) (hm : m ≤ 100000) => refsame9_c ww v b f i m (h.keep kk (by simp)) hf hi hb hm)
  have hil : i ≤ 100000 := by omega
  go_enter Try.func96, Try.ntmps96
  go_wp2_with fail
  go_loopw [8, 9] (fun lk fr wr => ∃ (k L : Nat) (z : Int) (best : Tk), k ≤ i ∧ L + k ≤ i ∧ lk = .int .i64 L ∧ fr = .int .i64 z ∧ Hid (z = (k : Int) - 1) ∧ Hid (atT b S i = atF b S i k L best) ∧ Hid (Keep [] w wr) ∧ Hid (Blk wr w.heap.size #[.int .i64 win, .int .i64 mn, .int .i64 mx, .int .i64 ch, .bool lz] 102) ∧ Hid (Blk wr (w.heap.size + 1) #[.int .u8 0, .int .i64 0, .int .i64 0] 105) ∧ Hid (Blk wr (w.heap.size + 1 + 1) best.cells.toArray 105)) (fun _ fr _ => (intOf fr + 1).toNat)
  case atStart =>
    refine ⟨i, 0, (i : Int) - 1, ⟨0, 0, 0⟩, by omega, by omega, rfl, rfl, rfl, HAS, (((Keep.refl [] w).alloc _).alloc _).alloc _, ((Blk.new _ _ _).alloc _).alloc _, ?_, ?_⟩
    · have := (Blk.new (w.alloc (.cells #[.int .i64 win, .int .i64 mn, .int .i64 mx, .int .i64 ch, .bool lz] 102)) #[.int .u8 0, .int .i64 0, .int .i64 0] 105).alloc (.cells #[.int .u8 0, .int .i64 0, .int .i64 0] 105)
      simpa [Hid] using this
    · have := (Blk.new ((w.alloc (.cells #[.int .i64 win, .int .i64 mn, .int .i64 mx, .int .i64 ch, .bool lz] 102)).alloc (.cells #[.int .u8 0, .int .i64 0, .int .i64 0] 105)) #[.int .u8 0, .int .i64 0, .int .i64 0] 105)
      simp only [World.size_alloc] at this
      exact this
  case round =>
    obtain ⟨k, L, z, ⟨lt, ds, ln⟩, hk, hL, rfl, rfl, HZ, HA, HK, HB1, HB2, HB3'⟩ := hrel
    have HB3 : Hid (Blk wr (w.heap.size + 1 + 1) #[.int .u8 lt.toNat, .int .i64 ds, .int .i64 ln] 105) := HB3'
    clear HB3'
    have s0 := HB1.out.cell 0 _ rfl
    have s1 := HB1.out.cell 1 _ rfl
    have s2 := HB1.out.cell 2 _ rfl
    have s3 := HB1.out.cell 3 _ rfl
    have b0 := HB3.out.cell 0 _ rfl
    have b1 := HB3.out.cell 1 _ rfl
    have b2 := HB3.out.cell 2 _ rfl
    have f0 := HB2.out.free 0
    have f1 := HB2.out.free 1
    have f2 := HB2.out.free 2
    have r0 := HB2.out.cell 0 _ rfl
    have r1 := HB2.out.cell 1 _ rfl
    have r2 := HB2.out.cell 2 _ rfl
    have HF : Hid (Blk (((wr.setCell ⟨w.heap.size + 1, 0, none⟩ (.int .u8 lt.toNat)).setCell ⟨w.heap.size + 1, 1, none⟩ (.int .i64 ds)).setCell ⟨w.heap.size + 1, 2, none⟩ (.int .i64 ln)) (w.heap.size + 1) #[.int .u8 lt.toNat, .int .i64 ds, .int .i64 ln] 105) := ((HB2.out.set 0 (.int .u8 lt.toNat)).set 1 (.int .i64 ds)).set 2 (.int .i64 ln)
    have HKF : Hid (Keep [] w (((wr.setCell ⟨w.heap.size + 1, 0, none⟩ (.int .u8 lt.toNat)).setCell ⟨w.heap.size + 1, 1, none⟩ (.int .i64 ds)).setCell ⟨w.heap.size + 1, 2, none⟩ (.int .i64 ln))) := ((HK.out.setCell (.inr (by simp)) _).setCell (.inr (by simp)) _).setCell (.inr (by simp)) _
    by_cases hk0 : k = 0
    · subst hk0
      have HR : Hid (atT b S i = ⟨lt, ds, ln⟩) := by have := HA.out; rw [HA0.out] at this; exact this
      have hz := HZ.out
      have d1 : ¬ z ≥ 0 := by omega
      clear HA HZ hz
      go_wp2_with fail
      refine bodyPost_ret (results_cell_row rfl _ _ _ _ _ (0, 0) _ rfl HF.out Try.underlying105 rfl (by kernel_rfl)) rfl ?_
      exact ⟨by rw [HR.out]; rfl, HKF.out⟩
    obtain ⟨k', rfl⟩ : ∃ k', k = k' + 1 := ⟨k - 1, by omega⟩
    obtain rfl : z = (k' : Int) := by have := HZ.out; omega
    clear HZ hk0
    have hstep := HA.out
    rw [HAT.out] at hstep
    by_cases h2 : (i : Int) - k' ≤ win
    case neg =>
      have HR : Hid (atT b S i = ⟨lt, ds, ln⟩) := by rw [if_neg (fun g => h2 g.1)] at hstep; exact hstep
      have d2 := dec_f h2
      clear HA h2 hstep
      go_wp2_with fail
      refine bodyPost_ret (results_cell_row rfl _ _ _ _ _ (0, 0) _ rfl HF.out Try.underlying105 rfl (by kernel_rfl)) rfl ?_
      exact ⟨by rw [HR.out]; rfl, HKF.out⟩
    have d2 := dec_t h2
    by_cases h3 : (L : Int) < ch
    case neg =>
      have HR : Hid (atT b S i = ⟨lt, ds, ln⟩) := by rw [if_neg (fun g => h3 g.2)] at hstep; exact hstep
      have d3 := dec_f h3
      clear HA h2 h3 hstep
      go_wp2_with fail
      refine bodyPost_ret (results_cell_row rfl _ _ _ _ _ (0, 0) _ rfl HF.out Try.underlying105 rfl (by kernel_rfl)) rfl ?_
      exact ⟨by rw [HR.out]; rfl, HKF.out⟩
    have d3 := dec_t h3
    rw [if_pos ⟨h2, h3⟩] at hstep
    have HST := Lib.hid hstep
    clear HA hstep h2 h3 HF HKF f0 f1 f2 r0 r1 r2
    have HS1 := Lib.hid (fun (ww : World) (kk : Keep [] wr ww) => kept_drewN (HSM.out ww (HK.out.trans kk (by simp)) k' mn (by omega) (by omega)))
    have y1 : ∀ p : Kept wr, p.x.cell? ⟨w.heap.size, 1, none⟩ = some (.int .i64 mn) := fun p => p.h.cell s1 (by simp)
    have hsl : sme b k' i mn ≤ 100000 := by have := (cntUp_le (sm1 b k' i) mn 0).2; unfold sme; omega
    have hsl2 : sme b k' i mx ≤ 100000 := by have := (cntUp_le (sm1 b k' i) mx 0).2; unfold sme; omega
    go_upto_region 6 with fail
    go_wp2_with fail
    refine wp_region_kept (by kernel_rfl) (by kernel_rfl) ?_
    repeat (quiet_step (first | (go_at_call 111; with_reducible exact kept_of (HS1.out _ (Kept.h _)))))
    refine wpQuiet_nil ?_
    intro _ hw'
    obtain ⟨p, hw''⟩ := hw'
    subst hw''
    clear y1 HS1 s0 s1 s2 s3 b0 b1 b2
    have HK2 : Hid (Keep [] w p.x) := HK.out.trans p.h (by simp)
    have HB1' : Hid (Blk p.x w.heap.size #[.int .i64 win, .int .i64 mn, .int .i64 mx, .int .i64 ch, .bool lz] 102) := HB1.out.keep p.h (by simp)
    have HB2' : Hid (Blk p.x (w.heap.size + 1) #[.int .u8 0, .int .i64 0, .int .i64 0] 105) := HB2.out.keep p.h (by simp)
    have HB3' : Hid (Blk p.x (w.heap.size + 1 + 1) #[.int .u8 lt.toNat, .int .i64 ds, .int .i64 ln] 105) := HB3.out.keep p.h (by simp)
    generalize p.x = w2 at HK2 HB1' HB2' HB3' ⊢
    clear HK HB1 HB2 HB3 p
    have s2 := HB1'.out.cell 2 (.int .i64 mx) rfl
    by_cases hm : sme b k' i mn < mn
    · have HA2 : Hid (atT b S i = atF b S i k' L ⟨lt, ds, ln⟩) := by have := HST.out; rw [if_pos hm] at this; exact this
      have d4 : (sme b k' i mn : Int) < (mn : Int) := by omega
      clear hm HST s2
      go_wp2_with fail
      go_roundw
      case rel => exact ⟨k', L, _, ⟨lt, ds, ln⟩, by omega, by omega, rfl, rfl, rfl, HA2, HK2, HB1', HB2', HB3'⟩
      case measure => simp [intOf]
    have d4 : ¬ (sme b k' i mn : Int) < (mn : Int) := by omega
    have HST2 : Hid (atT b S i = atF b S i k' (L + 1) (if ln < (sme b k' i mx : Int) then ⟨0, (i : Int) - k', sme b k' i mx⟩ else ⟨lt, ds, ln⟩)) := by have := HST.out; rw [if_neg hm] at this; exact this
    clear hm HST
    go_wp2_with fail
    refine (HSM.out _ HK2.out k' mx (by omega) (by omega)).mono ?_
    rintro e w3 ⟨rfl, n2, rfl⟩
    have K3 : Keep [] w2 (w2.drewN n2) := (Keep.refl [] w2).drewN n2
    generalize w2.drewN n2 = w3 at K3 ⊢
    have HK3 : Hid (Keep [] w w3) := HK2.out.trans K3 (by simp)
    have HC1 : Hid (Blk w3 w.heap.size #[.int .i64 win, .int .i64 mn, .int .i64 mx, .int .i64 ch, .bool lz] 102) := HB1'.out.keep K3 (by simp)
    have HC2 : Hid (Blk w3 (w.heap.size + 1) #[.int .u8 0, .int .i64 0, .int .i64 0] 105) := HB2'.out.keep K3 (by simp)
    have HC3 : Hid (Blk w3 (w.heap.size + 1 + 1) #[.int .u8 lt.toNat, .int .i64 ds, .int .i64 ln] 105) := HB3'.out.keep K3 (by simp)
    clear HB1' HB2' HB3' HK2 K3 s2
    have b0 := HC3.out.cell 0 (.int .u8 lt.toNat) rfl
    have b1 := HC3.out.cell 1 (.int .i64 ds) rfl
    have b2 := HC3.out.cell 2 (.int .i64 ln) rfl
    have f0 := HC3.out.free 0
    have f1 := HC3.out.free 1
    have f2 := HC3.out.free 2
    by_cases hg : ln < (sme b k' i mx : Int)
    · have HA2 : Hid (atT b S i = atF b S i k' (L + 1) ⟨0, (i : Int) - k', sme b k' i mx⟩) := by have := HST2.out; rw [if_pos hg] at this; exact this
      have HB4 : Hid (Blk (((w3.setCell ⟨w.heap.size + 1 + 1, 0, none⟩ (.int .u8 0)).setCell ⟨w.heap.size + 1 + 1, 1, none⟩ (.int .i64 ((i : Int) - k'))).setCell ⟨w.heap.size + 1 + 1, 2, none⟩ (.int .i64 (sme b k' i mx))) (w.heap.size + 1 + 1) (Tk.cells ⟨0, (i : Int) - k', sme b k' i mx⟩).toArray 105) := ((HC3.out.set 0 (.int .u8 0)).set 1 (.int .i64 ((i : Int) - k'))).set 2 (.int .i64 (sme b k' i mx))
      have HK4 : Hid (Keep [] w (((w3.setCell ⟨w.heap.size + 1 + 1, 0, none⟩ (.int .u8 0)).setCell ⟨w.heap.size + 1 + 1, 1, none⟩ (.int .i64 ((i : Int) - k'))).setCell ⟨w.heap.size + 1 + 1, 2, none⟩ (.int .i64 (sme b k' i mx)))) := ((HK3.out.setCell (.inr (by simp; omega)) _).setCell (.inr (by simp; omega)) _).setCell (.inr (by simp; omega)) _
      have KK : Keep [w.heap.size + 1 + 1] w3 (((w3.setCell ⟨w.heap.size + 1 + 1, 0, none⟩ (.int .u8 0)).setCell ⟨w.heap.size + 1 + 1, 1, none⟩ (.int .i64 ((i : Int) - k'))).setCell ⟨w.heap.size + 1 + 1, 2, none⟩ (.int .i64 (sme b k' i mx))) := (((Keep.refl _ w3).setCell (.inl (by simp)) _).setCell (.inl (by simp)) _).setCell (.inl (by simp)) _
      have HD1 := Lib.hid (HC1.out.keep KK (by simp; omega))
      have HD2 := Lib.hid (HC2.out.keep KK (by simp))
      clear KK HST2
      have hgt : (sme b k' i mx : Int) > ln := hg
      clear hg
      go_wp2_with fail
      go_roundw
      case rel => exact ⟨k', L + 1, _, ⟨0, (i : Int) - k', sme b k' i mx⟩, by omega, by omega, by go_num, rfl, rfl, HA2, HK4, HD1, HD2, HB4⟩
      case measure => simp [intOf]
    · have HA2 : Hid (atT b S i = atF b S i k' (L + 1) ⟨lt, ds, ln⟩) := by have := HST2.out; rw [if_neg hg] at this; exact this
      have hgt : ¬ (sme b k' i mx : Int) > ln := hg
      clear hg HST2
      go_wp2_with fail
      go_roundw
      case rel => exact ⟨k', L + 1, _, ⟨lt, ds, ln⟩, by omega, by omega, by go_num, rfl, rfl, HA2, HK3, HC1, HC2, HC3⟩
      case measure => simp [intOf]
end Go.Proofs.Yteahcpkaagjkkaa
namespace Go.Proofs.Yteahcpkaagjkkaa
set_option linter.unusedVariables false
set_option linter.unusedSimpArgs false
open Go.ChangeShapes Go.WideShapes Go.ChangeAt Go.RowKit

/-- at most n tokens, none longer than long -/
def fewT (ts : List Tk) (n : Nat) (long : Int) : List Tk := (ts.take n).map fun t => if long < t.len then { t with len := long } else t
theorem fewT_succ (ts : List Tk) (k : Nat) (long : Int) (hk : k < ts.length) : fewT ts (k + 1) long = fewT ts k long ++ [if long < (ts[k]).len then { ts[k] with len := long } else ts[k]] := by
  unfold fewT
  rw [List.take_succ_eq_append_getElem hk, List.map_append]; rfl
theorem fewT_len (ts : List Tk) (n : Nat) (long : Int) : (fewT ts n long).length ≤ n := by
  unfold fewT; simp; omega
end Go.Proofs.Yteahcpkaagjkkaa
namespace Go.Proofs.Yteahcpkaagjkkaa
set_option linter.unusedVariables false
set_option linter.unusedSimpArgs false
open Go.ChangeShapes Go.WideShapes Go.ChangeAt Go.RowKit

theorem wf0 : (Lit.int .i64 0).wf = true := by decide
theorem wf1 : (Lit.int .i64 1).wf = true := by decide
def lastT (ts : List Tk) : Tk := ts.getLast?.getD default
theorem lastT_get (ts : List Tk) (h : 0 < ts.length) : ts[ts.length - 1] = lastT ts := by
  unfold lastT
  rw [List.getLast?_eq_getElem?, List.getElem?_eq_getElem (by omega)]; rfl
def rnew (b : List UInt8) (k : Nat) : Prop := k = 0 ∨ b.getD k 0 ≠ b.getD (k - 1) 0
theorem rn_new (b : List UInt8) (k : Nat) (h : rnew b k) : rn b (k + 1) = rn b k ++ [⟨b.getD k 0, 0, 0⟩] := by rw [rn]; exact if_pos h
theorem rn_one (b : List UInt8) (k : Nat) (h : ¬ rnew b k) (h2 : (lastT (rn b k)).len = 0 ∨ (lastT (rn b k)).len = 258) : rn b (k + 1) = rn b k ++ [⟨0, 1, 1⟩] := by rw [rn]; exact (if_neg h).trans (if_pos h2)
theorem rn_more (b : List UInt8) (k : Nat) (h : ¬ rnew b k) (h2 : ¬ ((lastT (rn b k)).len = 0 ∨ (lastT (rn b k)).len = 258)) (h0 : 0 < (rn b k).length) : rn b (k + 1) = (rn b k).set ((rn b k).length - 1) { (rn b k)[(rn b k).length - 1] with len := (lastT (rn b k)).len + 1 } := by
  rw [lastT_get _ h0, rn]; exact (if_neg h).trans (if_neg h2)
theorem rn_pos (b : List UInt8) (k : Nat) (hk : k ≤ b.length) (h : 0 < k) : 0 < (rn b k).length := by
  rcases (rn_all b k hk).last with h1 | ⟨l, t, h1, _⟩
  · omega
  · rw [h1]; simp
theorem rn_lastlen (b : List UInt8) (k : Nat) (hk : k ≤ b.length) (h : 0 < k) : 0 ≤ (lastT (rn b k)).len ∧ (lastT (rn b k)).len ≤ 258 := by
  rcases (rn_all b k hk).last with h1 | ⟨l, t, h1, h2⟩
  · omega
  · have : lastT (rn b k) = t := by unfold lastT; rw [h1]; simp
    rw [this]; omega
end Go.Proofs.Yteahcpkaagjkkaa
namespace Go.Proofs.Yteahcpkaagjkkaa
set_option linter.unusedVariables false
set_option linter.unusedSimpArgs false
open Go.ChangeShapes Go.WideShapes Go.ChangeAt Go.RowKit

theorem reffind9_bad (w : World) (v : Value) (b : List UInt8) (s : Sh) (hs : ¬ s.ok) : Calls Try.prog 67 #[v, s.val] w fun e w' => e = .returned (.tuple #[.slice none 0 0, .int .i64 2]) ∧ Keep [] w w' := by
  have HC := Lib.hid (fun (ww : World) => refcheck9_c ww s)
  rw [dec_f hs] at HC
  obtain ⟨win, mn, mx, ch, lz⟩ := s
  show Calls Try.prog 67 #[v, .agg #[.int .i64 win, .int .i64 mn, .int .i64 mx, .int .i64 ch, .bool lz]] w _
  have HC1 : Hid (∀ ww : World, Calls Try.prog 95 #[.agg #[.int .i64 win, .int .i64 mn, .int .i64 mx, .int .i64 ch, .bool lz]] ww fun e w' => e = .returned (.bool false) ∧ Keep [] ww w') := HC
  clear HC hs
  go_enter Try.func67, Try.ntmps67
  go_wp2_with fail
  refine (HC1.out _).mono ?_
  rintro e w2 ⟨rfl, K2⟩
  have K3 : Hid (Keep [] w w2) := ((Keep.refl [] w).alloc _).trans K2 (by simp)
  clear K2
  go_wp2_with fail
  go_ret2
  exact ⟨rfl, K3.out⟩
theorem wfN (z : Int) (h0 : 0 ≤ z) (h : z ≤ 9223372036854775807) : (Lit.int .i64 z).wf = true := by
  simp [Lit.wf, IntKind.min, IntKind.max, IntKind.bits, IntKind.signed]; omega
/-- a token's length -/
theorem field_len (w : World) (x y z : Int) : (Instr.field 105 (.agg #[.int .u8 x, .int .i64 y, .int .i64 z]) 2).run Try.prog w = .ok (.int .i64 z) w := by
  simp [Instr.field, run_underlying Try.underlying105, asAgg, part, isAgg, run_underlying Try.underlying3]
/-- what At answers is small -/
theorem atT_small {b : List UInt8} {s : Sh} (hs : s.ok) {i : Nat} (hi : i ≤ b.length) : (atT b s i).lit = 0 ∧ 0 ≤ (atT b s i).dist ∧ (atT b s i).dist ≤ i ∧ 0 ≤ (atT b s i).len ∧ (i : Int) + (atT b s i).len ≤ b.length := by
  rcases atT_hit hs hi with h | h
  · rw [h]; refine ⟨rfl, ?_, ?_, ?_, ?_⟩ <;> simp only <;> omega
  · obtain ⟨d, n, h1, h2, h3, h4, h5, h6, h7, h8, h9⟩ := h.ex
    refine ⟨h.lit, ?_, ?_, ?_, ?_⟩ <;> omega
theorem fdF_succ (b : List UInt8) (s : Sh) (f i : Nat) (h : i < b.length) : fdF b s (f + 1) i = stepT b s i :: fdF b s f (i + sz1 (stepT b s i)) := by rw [fdF, if_pos h]
theorem fdF_end (b : List UInt8) (s : Sh) (f : Nat) : fdF b s f b.length = [] := by
  cases f with
  | zero => rfl
  | succ f => rw [fdF, if_neg (by omega)]
set_option maxRecDepth 100000 in
set_option maxHeartbeats 4000000 in
theorem reffind9_c (w : World) (v : Value) (b : List UInt8) (s : Sh) (hs : s.ok) (h : Bs w v b) (hb : b.length ≤ 100000) : Calls Try.prog 67 #[v, s.val] w fun e w' => ∃ v', e = .returned (.tuple #[v', .int .i64 0]) ∧ OwnT w' v' (found b s) ∧ Keep [] w w' ∧ ∀ x, v'.ownBlock = some x → w.heap.size ≤ x := by
  have HC := Lib.hid (fun (ww : World) => refcheck9_c ww s)
  rw [dec_t hs] at HC
  have HAT := Lib.hid (fun (ww : World) (kk : Keep [] w ww) (i : Nat) (hi : i ≤ b.length) => refat9_c ww v b s i hs (h.keep kk (by simp)) hi hb)
  have HSM := Lib.hid (fun (i : Nat) (hi : i ≤ b.length) => atT_small hs hi)
  have HI := Lib.hid (fun w' (k : Keep [] w w') i hi => (h.keep k (by simp)).spot i hi)
  have HST : Hid (∀ i, stepT b s i = if (atT b s i).len = 0 ∨ waits b s i then ⟨b.getD i 0, 0, 0⟩ else atT b s i) := fun i => rfl
  have HFS := Lib.hid (fdF_succ b s)
  have HFE := Lib.hid (fdF_end b s)
  have HF0 : Hid (found b s = fdF b s b.length 0) := rfl
  have HWT : Hid (∀ i, waits b s i ↔ (s.lazy = true ∧ (atT b s i).len < s.max ∧ 0 < (atT b s i).len ∧ i + 1 < b.length ∧ (atT b s i).len < (atT b s (i + 1)).len)) := fun i => Iff.rfl
  obtain ⟨a, cap, rfl, hc1, hc2⟩ := h.shape
  clear h hc1 hc2 hs
  obtain ⟨win, mn, mx, ch, lz⟩ := s
  simp only at HWT
  show Calls Try.prog 67 #[_, .agg #[.int .i64 win, .int .i64 mn, .int .i64 mx, .int .i64 ch, .bool lz]] w _
  have HC1 : Hid (∀ ww : World, Calls Try.prog 95 #[.agg #[.int .i64 win, .int .i64 mn, .int .i64 mx, .int .i64 ch, .bool lz]] ww fun e w' => e = .returned (.bool true) ∧ Keep [] ww w') := HC
  have HA : Hid (∀ (ww : World) (kk : Keep [] w ww) (i : Nat) (hi : i ≤ b.length), Calls Try.prog 96 #[.slice a b.length cap, .agg #[.int .i64 win, .int .i64 mn, .int .i64 mx, .int .i64 ch, .bool lz], .int .i64 i] ww fun e w' => e = .returned (.agg #[.int .u8 (atT b ⟨win, mn, mx, ch, lz⟩ i).lit.toNat, .int .i64 (atT b ⟨win, mn, mx, ch, lz⟩ i).dist, .int .i64 (atT b ⟨win, mn, mx, ch, lz⟩ i).len]) ∧ Keep [] ww w') := HAT
  clear HC HAT
  generalize (⟨win, mn, mx, ch, lz⟩ : Sh) = S at HA HSM HST HFS HFE HF0 HWT ⊢
  go_enter Try.func67, Try.ntmps67
  go_wp2_with fail
  refine (HC1.out _).mono ?_
  rintro e w2 ⟨rfl, K2⟩
  have K3 : Hid (Keep [] w w2) := ((Keep.refl [] w).alloc _).trans K2 (by simp)
  have B3 : Hid (Blk w2 w.heap.size #[.int .i64 win, .int .i64 mn, .int .i64 mx, .int .i64 ch, .bool lz] 102) := (Blk.new w _ _).keep K2 (by simp)
  clear K2 HC1
  go_wp2_with fail
  go_loopw [6, 7] (fun ov iv wr => ∃ (i f : Nat) (ts : List Tk) (a7 : Option Addr) (c7 : Nat), i ≤ b.length ∧ b.length ≤ i + f ∧ ts.length ≤ i ∧ iv = .int .i64 i ∧ ov = .slice a7 ts.length c7 ∧ Hid (found b S = ts ++ fdF b S f i) ∧ Hid (OwnT wr (.slice a7 ts.length c7) ts) ∧ Hid (Keep [] w wr) ∧ Hid (Blk wr w.heap.size #[.int .i64 win, .int .i64 mn, .int .i64 mx, .int .i64 ch, .bool lz] 102) ∧ Hid (∀ x, (Value.slice a7 ts.length c7).ownBlock = some x → w.heap.size < x)) (fun _ iv _ => b.length - (intOf iv).toNat)
  case atStart => exact ⟨0, b.length, [], none, 0, by omega, by omega, by simp, rfl, rfl, HF0, OwnT.nil _, K3, B3, fun x hx => by simp [Value.ownBlock] at hx⟩
  case round =>
    obtain ⟨i, f, ts, a7, c7, hi, hf, htl, rfl, rfl, HF, HO, HK, HB1, HB⟩ := hrel
    clear K3 B3
    by_cases hlt : i < b.length
    case neg =>
      obtain rfl : i = b.length := by omega
      have HR : Hid (found b S = ts) := by have := HF.out; rw [HFE.out, List.append_nil] at this; exact this
      clear hlt HF
      go_wp2_with fail
      go_ret2
      exact ⟨_, rfl, by rw [HR.out]; exact HO.out, HK.out, fun x hx => Nat.le_of_lt (HB.out x hx)⟩
    have hltz : (i : Int) < (b.length : Int) := by omega
    obtain ⟨f', rfl⟩ : ∃ f', f = f' + 1 := ⟨f - 1, by omega⟩
    have HF1 : Hid (found b S = ts ++ stepT b S i :: fdF b S f' (i + sz1 (stepT b S i))) := by have := HF.out; rw [HFS.out f' i hlt] at this; exact this
    have HS1 := Lib.hid (HSM.out i hi)
    have HW := Lib.hid (HWT.out i)
    have HS0 := Lib.hid (HST.out i)
    have s0 := HB1.out.cell 0 (.int .i64 win) rfl
    have s1 := HB1.out.cell 1 (.int .i64 mn) rfl
    have s2 := HB1.out.cell 2 (.int .i64 mx) rfl
    have s3 := HB1.out.cell 3 (.int .i64 ch) rfl
    have s4 := HB1.out.cell 4 (.bool lz) rfl
    clear HF
    go_wp2_with fail
    refine (HA.out _ HK.out i hi).mono ?_
    rintro e w3 ⟨rfl, K3⟩
    have HO2 : Hid (OwnT w3 (.slice a7 ts.length c7) ts) := HO.out.keep K3 (by simp)
    have HK2 : Hid (Keep [] w w3) := HK.out.trans K3 (by simp)
    have HB2 : Hid (Blk w3 w.heap.size #[.int .i64 win, .int .i64 mn, .int .i64 mx, .int .i64 ch, .bool lz] 102) := HB1.out.keep K3 (by simp)
    clear HO HK HB1 K3 s0 s1 s2 s3 s4
    generalize hT : atT b S i = t at HS1 HW HS0 ⊢
    obtain ⟨lt, ds, ln⟩ := t
    obtain ⟨q1, q2, q3, q4, q5⟩ := HS1.out
    simp only at q1 q2 q3 q4 q5 HW HS0
    clear HS1
    subst q1
    have HW1 := Lib.hid (show i + 1 ≤ b.length from hlt)
    have HA1 : Hid (∀ (ww : World) (kk : Keep [] (w3.alloc (.cells #[.int .u8 0, .int .i64 ds, .int .i64 ln] 105)) ww), Calls Try.prog 96 #[.slice a b.length cap, .agg #[.int .i64 win, .int .i64 mn, .int .i64 mx, .int .i64 ch, .bool lz], .int .i64 ((i : Int) + 1)] ww fun e w' => e = .returned (.agg #[.int .u8 (atT b S (i + 1)).lit.toNat, .int .i64 (atT b S (i + 1)).dist, .int .i64 (atT b S (i + 1)).len]) ∧ Keep [] ww w') := fun ww kk => HA.out ww ((HK2.out.alloc _).trans kk (by simp)) (i + 1) hlt
    have K5 : Hid (Keep [] w (w3.alloc (.cells #[.int .u8 0, .int .i64 ds, .int .i64 ln] 105))) := HK2.out.alloc _
    have B5 : Hid (Blk (w3.alloc (.cells #[.int .u8 0, .int .i64 ds, .int .i64 ln] 105)) w.heap.size #[.int .i64 win, .int .i64 mn, .int .i64 mx, .int .i64 ch, .bool lz] 102) := HB2.out.alloc _
    have T5 : Hid (Blk (w3.alloc (.cells #[.int .u8 0, .int .i64 ds, .int .i64 ln] 105)) w3.heap.size #[.int .u8 0, .int .i64 ds, .int .i64 ln] 105) := Blk.new _ _ _
    have HO5 : Hid (OwnT (w3.alloc (.cells #[.int .u8 0, .int .i64 ds, .int .i64 ln] 105)) (.slice a7 ts.length c7) ts) := HO2.out.keep ((Keep.refl [] w3).alloc _) (by simp)
    have HG : Hid (∀ x, (Value.slice a7 ts.length c7).ownBlock = some x → x < w3.heap.size) := fun x hx => HO2.out.lt x hx
    have HGW : Hid (w.heap.size < w3.heap.size) := HB2.out.lt
    clear HO2 HK2 HB2
    generalize (atT b S (i + 1)).lit.toNat = lt' at HA1
    generalize (atT b S (i + 1)).dist = ds' at HA1
    generalize (atT b S (i + 1)).len = ln' at HA1 HW
    go_upto_region 7 with fail
    generalize w3.alloc (.cells #[.int .u8 0, .int .i64 ds, .int .i64 ln] 105) = w5 at HA1 K5 B5 T5 HO5 ⊢
    generalize w3.heap.size = g at T5 HG HGW ⊢
    have y0 : ∀ p : Kept w5, p.x.cell? ⟨w.heap.size, 0, none⟩ = some (.int .i64 win) := fun p => p.h.cell (B5.out.cell 0 _ rfl) (by simp)
    have y1 : ∀ p : Kept w5, p.x.cell? ⟨w.heap.size, 1, none⟩ = some (.int .i64 mn) := fun p => p.h.cell (B5.out.cell 1 _ rfl) (by simp)
    have y2 : ∀ p : Kept w5, p.x.cell? ⟨w.heap.size, 2, none⟩ = some (.int .i64 mx) := fun p => p.h.cell (B5.out.cell 2 _ rfl) (by simp)
    have y3 : ∀ p : Kept w5, p.x.cell? ⟨w.heap.size, 3, none⟩ = some (.int .i64 ch) := fun p => p.h.cell (B5.out.cell 3 _ rfl) (by simp)
    have y4 : ∀ p : Kept w5, p.x.cell? ⟨w.heap.size, 4, none⟩ = some (.bool lz) := fun p => p.h.cell (B5.out.cell 4 _ rfl) (by simp)
    have x2 : ∀ p : Kept w5, p.x.cell? ⟨g, 2, none⟩ = some (.int .i64 ln) := fun p => p.h.cell (T5.out.cell 2 _ rfl) (by simp)
    have z2 := B5.out.cell 2 (.int .i64 mx) rfl
    have z4 := B5.out.cell 4 (.bool lz) rfl
    have zz := T5.out.cell 2 (.int .i64 ln) rfl
    have hw1 : IntKind.i64.wrap ((i : Int) + 1) = (i : Int) + 1 := by rw [IntKind.wrap_i64]; omega
    have hfd := fun ww : World => field_len ww (lt' : Int) ds' ln'
    go_cut [9] (fun wv wx => ∃ bv, wv = .bool bv ∧ Hid (bv = true ↔ waits b S i) ∧ Hid (Keep [] w5 wx))
    case first =>
      clear HF1 HO5 HG HGW HB T5 B5 K5
      cases lz with
      | false =>
        have NW : Hid (¬ (false = true ∧ ln < mx ∧ 0 < ln ∧ i + 1 < b.length ∧ ln < ln')) := fun g => (by cases g.1)
        clear y0 y1 y2 y3 y4 x2 hfd
        go_wp2_with fail
        go_quiet (fail)
        go_wp2_with fail
        go_meet
        exact ⟨false, rfl, (show _ ↔ _ from ⟨fun e => (by cases e), fun g => absurd (HW.out.1 g) NW.out⟩), (Keep.refl [] w5).drewN _⟩
      | true =>
        by_cases h1 : ln < mx
        case neg =>
          have NW : Hid (¬ (true = true ∧ ln < mx ∧ 0 < ln ∧ i + 1 < b.length ∧ ln < ln')) := fun g => h1 g.2.1
          have d1 := dec_f h1
          clear h1
          clear y0 y1 y2 y3 y4 x2 hfd
          go_wp2_with fail
          go_quiet (fail)
          go_wp2_with fail
          go_meet
          exact ⟨false, rfl, (show _ ↔ _ from ⟨fun e => (by cases e), fun g => absurd (HW.out.1 g) NW.out⟩), (Keep.refl [] w5).drewN _⟩
        have d1 := dec_t h1
        by_cases h2 : 0 < ln
        case neg =>
          have NW : Hid (¬ (true = true ∧ ln < mx ∧ 0 < ln ∧ i + 1 < b.length ∧ ln < ln')) := fun g => h2 g.2.2.1
          have d2 := dec_f h2
          clear h1 h2
          clear y0 y1 y2 y3 y4 x2 hfd
          go_wp2_with fail
          go_quiet (fail)
          go_wp2_with fail
          go_meet
          exact ⟨false, rfl, (show _ ↔ _ from ⟨fun e => (by cases e), fun g => absurd (HW.out.1 g) NW.out⟩), (Keep.refl [] w5).drewN _⟩
        have d2 := dec_t h2
        by_cases h3 : i + 1 < b.length
        case neg =>
          have NW : Hid (¬ (true = true ∧ ln < mx ∧ 0 < ln ∧ i + 1 < b.length ∧ ln < ln')) := fun g => h3 g.2.2.2.1
          have d3 := dec_f h3
          have d3' := dec_f (show ¬ (i : Int) + 1 < (b.length : Int) by omega)
          clear h1 h2 h3
          clear y0 y1 y2 y3 y4 x2 hfd
          go_wp2_with fail
          go_quiet (fail)
          go_wp2_with fail
          go_meet
          exact ⟨false, rfl, (show _ ↔ _ from ⟨fun e => (by cases e), fun g => absurd (HW.out.1 g) NW.out⟩), (Keep.refl [] w5).drewN _⟩
        have d3 := dec_t h3
        have d3' := dec_t (show (i : Int) + 1 < (b.length : Int) by omega)
        by_cases h4 : ln < ln'
        case neg =>
          have NW : Hid (¬ (true = true ∧ ln < mx ∧ 0 < ln ∧ i + 1 < b.length ∧ ln < ln')) := fun g => h4 g.2.2.2.2
          have d4 := dec_f h4
          clear h1 h2 h3 h4
          clear z2 z4 zz
          go_wp2_with fail
          refine wp_region_kept (by kernel_rfl) (by kernel_rfl) ?_
          repeat (quiet_step (first | (go_at_call 96; with_reducible exact kept_of (HA1.out _ (Kept.h _)))))
          refine wpQuiet_nil ?_
          intro _ hw'
          obtain ⟨p, hw''⟩ := hw'
          subst hw''
          go_wp2_with fail
          go_meet
          exact ⟨false, rfl, (show _ ↔ _ from ⟨fun e => (by cases e), fun g => absurd (HW.out.1 g) NW.out⟩), p.h⟩
        clear z2 z4 zz
        have YW : Hid (waits b S i) := HW.out.2 ⟨rfl, h1, h2, h3, h4⟩
        have d4 := dec_t h4
        clear h1 h2 h3 h4
        go_wp2_with fail
        refine wp_region_kept (by kernel_rfl) (by kernel_rfl) ?_
        repeat (quiet_step (first | (go_at_call 96; with_reducible exact kept_of (HA1.out _ (Kept.h _)))))
        refine wpQuiet_nil ?_
        intro _ hw'
        obtain ⟨p, hw''⟩ := hw'
        subst hw''
        go_wp2_with fail
        go_meet
        exact ⟨true, rfl, (show _ ↔ _ from ⟨fun _ => YW.out, fun _ => rfl⟩), p.h⟩
    case rest =>
      obtain ⟨bv, rfl, HBV, KC⟩ := hcut
      have KW : Hid (Keep [] w wc) := K5.out.trans KC.out (by simp)
      have BC : Hid (Blk wc w.heap.size #[.int .i64 win, .int .i64 mn, .int .i64 mx, .int .i64 ch, .bool lz] 102) := B5.out.keep KC.out (by simp)
      have TC : Hid (Blk wc g #[.int .u8 0, .int .i64 ds, .int .i64 ln] 105) := T5.out.keep KC.out (by simp)
      have OC : Hid (OwnT wc (.slice a7 ts.length c7) ts) := HO5.out.keep KC.out (by simp)
      clear K5 B5 T5 HO5 KC y0 y1 y2 y3 y4 x2 z2 z4 zz hw1 hfd HA1 HW HA
      obtain ⟨n, rfl⟩ := Int.eq_ofNat_of_zero_le q4
      have e0 := TC.out.cell 0 (.int .u8 0) rfl
      have e1 := TC.out.cell 1 (.int .i64 ds) rfl
      have e2 := TC.out.cell 2 (.int .i64 n) rfl
      by_cases hl : (n : Int) = 0 ∨ waits b S i
      · have HR : Hid (stepT b S i = ⟨b.getD i 0, 0, 0⟩) := by have := HS0.out; rw [if_pos hl] at this; exact this
        have HF2 : Hid (found b S = (ts ++ [⟨b.getD i 0, 0, 0⟩]) ++ fdF b S f' (i + 1)) := by
          have := HF1.out
          rw [HR.out] at this
          unfold Hid
          rw [this, List.append_assoc]; rfl
        obtain ⟨gb, ob, cb, hv, e3⟩ := HI.out wc KW.out i hlt
        simp only [Value.slice.injEq] at hv
        obtain ⟨rfl, h3, rfl⟩ := hv
        clear h3
        have g1 : b.getD i 0 = b[i]'hlt := by rw [List.getD_eq_getElem?_getD, List.getElem?_eq_getElem hlt]; rfl
        rw [← g1] at e3
        generalize b.getD i 0 = x at e3 HF2
        have HSS := Lib.hid (Blk.new wc (Tk.cells ⟨x, 0, 0⟩).toArray 105)
        clear g1 HR HF1 HS0 e0 e1
        by_cases h0 : (n : Int) = 0
        · have d0 : ((n : Int) == 0) = true := by simpa using h0
          clear h0 hl
          go_wp2_with (at_builtin; (refine wpList_appendT (.tmp 59) (.tmp 65) rfl rfl (.slice a7 ts.length c7) ts rfl (OC.out.keep ((Keep.refl [] wc).alloc _) (by simp)) wc.heap.size (⟨x, 0, 0⟩ : Tk) rfl HSS.out ⟨wf0, wf0⟩ (by omega) ?_); (intro v8 w8 o8 k8 b8 z8); (obtain ⟨g8, c8, hv8⟩ := o8.blk z8); (subst hv8))
          have HO8 : Hid (OwnT w8 (.slice (some ⟨g8, 0, none⟩) (ts ++ [(⟨x, 0, 0⟩ : Tk)]).length c8) (ts ++ [(⟨x, 0, 0⟩ : Tk)])) := o8
          have HK8 : Hid (Keep [] w w8) := (KW.out.alloc _).trans k8 (fun y hy => .inr (Nat.le_of_lt (HB.out y (by simpa using hy))))
          have HB9 : Hid (Blk w8 w.heap.size #[.int .i64 win, .int .i64 mn, .int .i64 mx, .int .i64 ch, .bool lz] 102) := (BC.out.alloc _).keep k8 (fun hx => by have := HB.out w.heap.size (by simpa using hx); omega)
          have HB8 : Hid (∀ y, (Value.slice (some ⟨g8, 0, none⟩) (ts ++ [(⟨x, 0, 0⟩ : Tk)]).length c8).ownBlock = some y → w.heap.size < y) := fun y hy => by
            rcases b8 y hy with h | h
            · exact HB.out y h
            · have := KW.out.size; rw [h]; simp; omega
          have hl8 : (ts ++ [(⟨x, 0, 0⟩ : Tk)]).length = ts.length + 1 := by simp
          have HL8 := Lib.hid hl8
          clear o8 k8 b8 z8 OC KW HB BC TC HSS HG hl8
          go_wp2_with fail
          go_roundw
          case rel => exact ⟨i + 1, f', ts ++ [(⟨x, 0, 0⟩ : Tk)], _, c8, by omega, by omega, by rw [HL8.out]; omega, by go_num, by first | rfl | rw [HL8.out], HF2, HO8, HK8, HB9, HB8⟩
          case measure => simp [intOf]; omega
        · have d0 : ((n : Int) == 0) = false := by simpa using h0
          obtain rfl : bv = true := HBV.out.2 (hl.resolve_left h0)
          clear h0 hl
          go_wp2_with (at_builtin; (refine wpList_appendT (.tmp 59) (.tmp 65) rfl rfl (.slice a7 ts.length c7) ts rfl (OC.out.keep ((Keep.refl [] wc).alloc _) (by simp)) wc.heap.size (⟨x, 0, 0⟩ : Tk) rfl HSS.out ⟨wf0, wf0⟩ (by omega) ?_); (intro v8 w8 o8 k8 b8 z8); (obtain ⟨g8, c8, hv8⟩ := o8.blk z8); (subst hv8))
          have HO8 : Hid (OwnT w8 (.slice (some ⟨g8, 0, none⟩) (ts ++ [(⟨x, 0, 0⟩ : Tk)]).length c8) (ts ++ [(⟨x, 0, 0⟩ : Tk)])) := o8
          have HK8 : Hid (Keep [] w w8) := (KW.out.alloc _).trans k8 (fun y hy => .inr (Nat.le_of_lt (HB.out y (by simpa using hy))))
          have HB9 : Hid (Blk w8 w.heap.size #[.int .i64 win, .int .i64 mn, .int .i64 mx, .int .i64 ch, .bool lz] 102) := (BC.out.alloc _).keep k8 (fun hx => by have := HB.out w.heap.size (by simpa using hx); omega)
          have HB8 : Hid (∀ y, (Value.slice (some ⟨g8, 0, none⟩) (ts ++ [(⟨x, 0, 0⟩ : Tk)]).length c8).ownBlock = some y → w.heap.size < y) := fun y hy => by
            rcases b8 y hy with h | h
            · exact HB.out y h
            · have := KW.out.size; rw [h]; simp; omega
          have hl8 : (ts ++ [(⟨x, 0, 0⟩ : Tk)]).length = ts.length + 1 := by simp
          have HL8 := Lib.hid hl8
          clear o8 k8 b8 z8 OC KW HB BC TC HSS HG hl8
          go_wp2_with fail
          go_roundw
          case rel => exact ⟨i + 1, f', ts ++ [(⟨x, 0, 0⟩ : Tk)], _, c8, by omega, by omega, by rw [HL8.out]; omega, by go_num, by first | rfl | rw [HL8.out], HF2, HO8, HK8, HB9, HB8⟩
          case measure => simp [intOf]; omega
      · have HR : Hid (stepT b S i = ⟨0, ds, n⟩) := by have := HS0.out; rw [if_neg hl] at this; exact this
        have h0 : ¬ (n : Int) = 0 := fun e => hl (.inl e)
        have HF2 : Hid (found b S = (ts ++ [⟨0, ds, n⟩]) ++ fdF b S f' (i + n)) := by
          have := HF1.out
          rw [HR.out] at this
          have hz : sz1 (⟨0, ds, n⟩ : Tk) = n := by unfold sz1; rw [if_neg h0]; simp
          rw [hz] at this
          unfold Hid
          rw [this, List.append_assoc]; rfl
        have d0 : ((n : Int) == 0) = false := by simpa using h0
        have hn0 : 0 < n := by omega
        obtain rfl : bv = false := by
          cases bv with
          | false => rfl
          | true => exact absurd (.inr (HBV.out.1 rfl)) hl
        have hwd : (Lit.int .i64 ds).wf = true := wfN _ q2 (by omega)
        have hwn : (Lit.int .i64 (n : Int)).wf = true := wfN _ (by omega) (by omega)
        have HSS := Lib.hid (Blk.new wc #[.int .u8 0, .int .i64 ds, .int .i64 n] 105)
        clear hl h0 HR HF1 HS0
        go_wp2_with (at_builtin; (refine wpList_appendT (.tmp 69) (.tmp 71) rfl rfl (.slice a7 ts.length c7) ts rfl (OC.out.keep ((Keep.refl [] wc).alloc _) (by simp)) wc.heap.size (⟨0, ds, n⟩ : Tk) rfl HSS.out ⟨hwd, hwn⟩ (by omega) ?_); (intro v8 w8 o8 k8 b8 z8); (obtain ⟨g8, c8, hv8⟩ := o8.blk z8); (subst hv8); (have e8 := ((TC.out.alloc _).keep k8 (fun hx => by have := HG.out g (by simpa using hx); omega)).cell 2 (.int .i64 n) rfl))
        have HO8 : Hid (OwnT w8 (.slice (some ⟨g8, 0, none⟩) (ts ++ [(⟨0, ds, n⟩ : Tk)]).length c8) (ts ++ [(⟨0, ds, n⟩ : Tk)])) := o8
        have HK8 : Hid (Keep [] w w8) := (KW.out.alloc _).trans k8 (fun y hy => .inr (Nat.le_of_lt (HB.out y (by simpa using hy))))
        have HB9 : Hid (Blk w8 w.heap.size #[.int .i64 win, .int .i64 mn, .int .i64 mx, .int .i64 ch, .bool lz] 102) := (BC.out.alloc _).keep k8 (fun hx => by have := HB.out w.heap.size (by simpa using hx); omega)
        have HB8 : Hid (∀ y, (Value.slice (some ⟨g8, 0, none⟩) (ts ++ [(⟨0, ds, n⟩ : Tk)]).length c8).ownBlock = some y → w.heap.size < y) := fun y hy => by
          rcases b8 y hy with h | h
          · exact HB.out y h
          · have := KW.out.size; rw [h]; simp; omega
        have hl8 : (ts ++ [(⟨0, ds, n⟩ : Tk)]).length = ts.length + 1 := by simp
        have HL8 := Lib.hid hl8
        clear o8 k8 b8 z8 OC KW HB BC TC HSS HG hl8
        go_wp2_with fail
        go_roundw
        case rel => exact ⟨i + n, f', ts ++ [(⟨0, ds, n⟩ : Tk)], _, c8, by omega, by omega, by rw [HL8.out]; omega, by go_num, by first | rfl | rw [HL8.out], HF2, HO8, HK8, HB9, HB8⟩
        case measure => simp [intOf]; omega
end Go.Proofs.Yteahcpkaagjkkaa
namespace Go.Proofs.Yteahcpkaagjkkaa
set_option linter.unusedVariables false
set_option linter.unusedSimpArgs false
set_option maxRecDepth 100000

/-- what is counted goes just as far as P holds -/
theorem cntUp_eq {P : Nat → Bool} {m a : Nat} (ha : a ≤ m) (hall : ∀ j, j < a → P j = true) (hstop : a = m ∨ P a = false) : cntUp P m 0 = a := by
  have h1 := cntUp_ge P m 0 a (Nat.zero_le _) (by omega) (fun j _ h => hall j h)
  have h2 := (cntUp_le P m 0).2
  rcases hstop with h | h
  · omega
  · refine Nat.le_antisymm (Nat.le_of_not_lt fun hlt => ?_) h1
    have := cntUp_all P m 0 a (Nat.zero_le _) hlt
    rw [h] at this; cases this
theorem sme_all {b : List UInt8} {f i m j : Nat} (h : j < sme b f i m) : i + j < b.length ∧ b.getD (f + j) 0 = b.getD (i + j) 0 := by
  have := cntUp_all (sm1 b f i) m 0 j (Nat.zero_le _) h
  unfold sm1 at this
  simpa using this
theorem sme_le (b : List UInt8) (f i m : Nat) : sme b f i m ≤ m := by
  have := (cntUp_le (sm1 b f i) m 0).2
  unfold sme; omega
/-- m bytes are the same from two places on -/
def eqm (b : List UInt8) (f i m : Nat) : Prop := i + m ≤ b.length ∧ ∀ j, j < m → b.getD (f + j) 0 = b.getD (i + j) 0
theorem sme_iff {b : List UInt8} {f i m : Nat} (hm : 0 < m) : ¬ sme b f i m < m ↔ eqm b f i m := by
  constructor
  · intro h
    have e : sme b f i m = m := by have := sme_le b f i m; omega
    refine ⟨?_, fun j hj => (sme_all (m := m) (by rw [e]; exact hj)).2⟩
    have := (sme_all (b := b) (f := f) (i := i) (m := m) (j := m - 1) (by omega)).1
    omega
  · intro ⟨h1, h2⟩
    have : sme b f i m = m := cntUp_eq (Nat.le_refl _) (fun j hj => by
      unfold sm1
      rw [decide_eq_true (show i + j < b.length by omega), h2 j hj]; simp) (.inl rfl)
    omega
/-- the nearest place below k from which on the same m bytes stand as from i on -/
def prv (b : List UInt8) (m i : Nat) : Nat → Option Nat
  | 0 => none
  | k + 1 => if sme b k i m < m then prv b m i k else some k
theorem prv_some {b : List UInt8} {m i k p : Nat} (hm : 0 < m) (h : prv b m i k = some p) : p < k ∧ eqm b p i m := by
  induction k with
  | zero => cases h
  | succ k ih =>
    rw [prv] at h
    split at h
    · have := ih h; exact ⟨by omega, this.2⟩
    · next h1 =>
      obtain rfl : k = p := Option.some.inj h
      exact ⟨by omega, (sme_iff hm).1 h1⟩
/-- behind a place with the same bytes the same places come -/
theorem prv_chain {b : List UInt8} {m i p : Nat} (hm : 0 < m) (hpi : p ≤ i) (h : eqm b p i m) (k : Nat) (hk : k ≤ p) : prv b m p k = prv b m i k := by
  induction k with
  | zero => rfl
  | succ k ih =>
    have e : (sme b k p m < m) ↔ (sme b k i m < m) := by
      have h1 := sme_iff (b := b) (f := k) (i := p) hm
      have h2 := sme_iff (b := b) (f := k) (i := i) hm
      have h3 : eqm b k p m ↔ eqm b k i m := by
        constructor
        · intro ⟨a1, a2⟩; exact ⟨h.1, fun j hj => (a2 j hj).trans (h.2 j hj)⟩
        · intro ⟨a1, a2⟩; exact ⟨by omega, fun j hj => (a2 j hj).trans (h.2 j hj).symm⟩
      constructor
      · intro g; exact Decidable.not_not.1 fun g' => (h1.2 (h3.2 (h2.1 g'))) g
      · intro g; exact Decidable.not_not.1 fun g' => (h2.2 (h3.1 (h1.1 g'))) g
    rw [prv, prv, ih (by omega)]
    by_cases g : sme b k i m < m
    · rw [if_pos g, if_pos (e.2 g)]
    · rw [if_neg g, if_neg (fun g' => g (e.1 g'))]
/-- how far back the nearest place with the same m bytes is -/
def bck (b : List UInt8) (m i : Nat) : Nat := match prv b m i i with | some p => i - p | none => 0
theorem bck_some {b : List UInt8} {m i p : Nat} (h : prv b m i i = some p) : bck b m i = i - p := by unfold bck; rw [h]
theorem bck_none {b : List UInt8} {m i : Nat} (h : prv b m i i = none) : bck b m i = 0 := by unfold bck; rw [h]
theorem prv_short {b : List UInt8} {m i : Nat} (hm : 0 < m) (h : b.length < i + m) (k : Nat) : prv b m i k = none := by
  induction k with
  | zero => rfl
  | succ k ih =>
    rw [prv, if_pos, ih]
    exact Decidable.not_not.1 fun g => by have := ((sme_iff hm).1 g).1; omega
theorem bck_short {b : List UInt8} {m i : Nat} (hm : 0 < m) (h : b.length < i + m) : bck b m i = 0 := bck_none (prv_short hm h i)
/-- what is found, when one place more is looked at -/
def upd (b : List UInt8) (s : Sh) (i p : Nat) (best : Tk) : Tk := if best.len < (sme b p i s.max.toNat : Int) then ⟨0, (i : Int) - p, sme b p i s.max.toNat⟩ else best
theorem atF_prv (b : List UInt8) (s : Sh) (i k L : Nat) (best : Tk) : atF b s i k L best = match prv b s.min.toNat i k with
    | none => best
    | some p => if (i : Int) - p ≤ s.win ∧ (L : Int) < s.chain then atF b s i p (L + 1) (upd b s i p best) else best := by
  induction k with
  | zero => rfl
  | succ k ih =>
    rw [atF, prv]
    by_cases h1 : (i : Int) - k ≤ s.win ∧ (L : Int) < s.chain
    · rw [if_pos h1]
      by_cases h2 : sme b k i s.min.toNat < s.min.toNat
      · rw [if_pos h2, if_pos h2, ih]
      · rw [if_neg h2, if_neg h2]
        show _ = if (i : Int) - k ≤ s.win ∧ (L : Int) < s.chain then _ else best
        rw [if_pos h1]; rfl
    · rw [if_neg h1]
      by_cases h2 : sme b k i s.min.toNat < s.min.toNat
      · rw [if_pos h2]
        cases h : prv b s.min.toNat i k with
        | none => rfl
        | some p =>
          have hp : p < k := by
            by_cases hm : 0 < s.min.toNat
            · exact (prv_some hm h).1
            · omega
          show best = if _ then _ else best
          rw [if_neg (fun g => h1 ⟨by omega, g.2⟩)]
      · rw [if_neg h2]
        show best = if _ then _ else best
        rw [if_neg h1]
/-- no more than all that is left of the text -/
theorem sme_most (b : List UInt8) (p i m : Nat) (hi : i ≤ b.length) : sme b p i m ≤ min m (b.length - i) := by
  have h := sme_le b p i m
  by_cases h0 : sme b p i m = 0
  · omega
  · have := (sme_all (b := b) (f := p) (i := i) (m := m) (j := sme b p i m - 1) (by omega)).1
    omega
/-- when the best one is as long as can be, none behind it counts -/
theorem atF_full {b : List UInt8} {s : Sh} {i : Nat} (hi : i ≤ b.length) (k L : Nat) (best : Tk) (h : ((min s.max.toNat (b.length - i) : Nat) : Int) ≤ best.len) : atF b s i k L best = best := by
  induction k generalizing L with
  | zero => rfl
  | succ k ih =>
    have := sme_most b k i s.max.toNat hi
    rw [atF]
    split
    · split
      · exact ih _
      · rw [if_neg (by omega)]; exact ih _
    · rfl
/-- too few bytes are left -/
theorem atT_few {b : List UInt8} {s : Sh} (hs : s.ok) {i : Nat} (hi : i ≤ b.length) (h : min s.max.toNat (b.length - i) < s.min.toNat) : atT b s i = ⟨0, 0, 0⟩ := by
  obtain ⟨h1, h2, h3, h4, h5, h6, h7, h8⟩ := hs
  unfold atT
  rw [atF_prv, prv_short (by omega) (by omega)]
/-- a byte that differs: no longer than that -/
theorem sme_differ {b : List UInt8} {p i m a : Nat} (h : b.getD (p + a) 0 ≠ b.getD (i + a) 0) : sme b p i m ≤ a :=
  Nat.le_of_not_lt fun g => h (sme_all g).2
/-- counted from the bytes on that are known to be the same -/
theorem sme_from {b : List UInt8} {p i m : Nat} {n : Nat} (hi : i ≤ b.length) (hn : n ≤ min m (b.length - i)) (hall : ∀ j, j < n → b.getD (p + j) 0 = b.getD (i + j) 0)
    (hstop : n = min m (b.length - i) ∨ b.getD (p + n) 0 ≠ b.getD (i + n) 0) : sme b p i m = n := by
  refine cntUp_eq (by omega) (fun j hj => ?_) ?_
  · unfold sm1
    rw [decide_eq_true (show i + j < b.length by omega), hall j hj]; simp
  · by_cases h1 : n = m
    · exact .inl h1
    · refine .inr ?_
      unfold sm1
      rcases hstop with h | h
      · rw [decide_eq_false (by omega)]; rfl
      · rw [beq_eq_false_iff_ne.2 h, Bool.and_false]
end Go.Proofs.Yteahcpkaagjkkaa
namespace Go.Proofs.Yteahcpkaagjkkaa
set_option linter.unusedVariables false
set_option linter.unusedSimpArgs false
set_option maxRecDepth 100000
open Go.ChangeShapes Go.WideShapes Go.ChangeAt Go.RowKit

theorem laidOut9 : laidOutB Try.prog = true := by kernel_rfl
theorem row67 : (164 : TypeId) < Try.prog.types.size := of_decide_eq_true (by kernel_rfl)
theorem deep67 : Try.prog.keyTypeAt (Try.prog.types.size + 1) 164 = true := by kernel_rfl
theorem cells67 : Try.prog.cellsOf 164 = 3 := by kernel_rfl
theorem cells5 : Try.prog.cellsOf 5 = 1 := by kernel_rfl
theorem wide67 : (match Try.prog.underlying 164 with | some (.array _ _) | some (.struct _) => true | _ => false) = true := by rw [Try.underlying164]
theorem law67 : WideMaps.KeyLaw Try.prog 164 := deep_law_laid laidOut9 (m := 2) (by omega) row67 (by kernel_rfl) wide67
theorem keyed67 : Maps.Keyed Try.prog 164 := Maps.Keyed.of_law law67
/-- a key's cells -/
def key3 (k : List UInt8) : Value := .agg (ints8 k).toArray
theorem bytes1 (x : UInt8) : (Lit.int .u8 (x.toNat : Int)).keyBytes = [x] := by
  have h : (x.toNat : Int) % 2 ^ 8 = x.toNat := by have := x.toNat_lt; omega
  unfold Lit.keyBytes
  show bytesBE 1 ((x.toNat : Int) % 2 ^ 8).toNat = [x]
  rw [h]
  simp [bytesBE, bytesLE]
theorem keyOf67 (k : List UInt8) (hk : k.length = 3) : keyOf Try.prog 164 (key3 k) = some (.string k) := by
  obtain ⟨a, b, c, rfl⟩ : ∃ a b c, k = [a, b, c] := by
    match k, hk with
    | [a, b, c], _ => exact ⟨a, b, c, rfl⟩
  have hkt : Try.prog.keyType 164 = true := deep67
  have hf : (key3 [a, b, c]).formed Try.prog 164 = true := by simp [key3, ints8, Value.formed, Try.underlying164, cells67]
  have hrow : (164 : Nat) < Try.prog.types.size := row67
  obtain ⟨n, hn⟩ : ∃ n, Try.prog.types.size + 1 = n + 2 := ⟨Try.prog.types.size - 1, by omega⟩
  have one : ∀ x : UInt8, Try.prog.keyLits (n + 1) 5 [.int .u8 (x.toNat : Int)] = some [.int .u8 (x.toNat : Int)] := fun x => by
    have : (Lit.int .u8 (x.toNat : Int)).wf = true := by have := x.toNat_lt; simp [Lit.wf, IntKind.min, IntKind.max, IntKind.signed, IntKind.bits]; omega
    simp [Program.keyLits, Try.underlying5, this]
  have hl : Try.prog.keyLits (Try.prog.types.size + 1) 164 (key3 [a, b, c]).cells.toList = some [.int .u8 (a.toNat : Int), .int .u8 (b.toNat : Int), .int .u8 (c.toNat : Int)] := by
    rw [hn]
    simp only [key3, ints8, Value.cells, List.map_cons, List.map_nil]
    have hu := Try.underlying164
    unfold Program.keyLits
    rw [hu]
    simp only [cells67, cells5]
    simp [List.range_succ, one]
  unfold keyOf
  rw [Try.underlying164]
  simp only [hkt, hf, hl, Bool.and_self, if_true, Option.map_some]
  simp [keyBytes, bytes1]
/-- block g is a map that tells where a key was last -/
def LastM (w : World) (g n : Nat) (L : List UInt8 → Option Nat) : Prop :=
  ∃ D : DataW Unit, w.ownsMap Try.prog 164 (plainElem Try.prog 21) g n D ∧ Maps.IsMap D ∧ ∀ k : List UInt8, k.length = 3 → match L k with
    | none => Maps.has D (.string k) = false
    | some p => Maps.has D (.string k) = true ∧ ∀ z, D.atKey (.string k) z = .lit (.int .i32 p)
theorem LastM.made (w : World) : LastM (w.alloc (.map #[] 0)) w.heap.size 0 (fun _ => none) :=
  ⟨.map [], World.ownsMap_made w _ _ _, Maps.isMap_empty, fun _ _ => rfl⟩
theorem LastM.lt {w : World} {g n : Nat} {L : List UInt8 → Option Nat} (h : LastM w g n L) : g < w.heap.size := by
  obtain ⟨D, h1, _⟩ := h; exact h1.lt
theorem LastM.keep {w w' : World} {g n : Nat} {L : List UInt8 → Option Nat} {S : List Nat} (h : LastM w g n L) (k : Keep S w w') (hg : g ∉ S) : LastM w' g n L := by
  have hlt := h.lt
  obtain ⟨D, ⟨es, clock, hb, F, hs, hD⟩, h2, h3⟩ := h
  exact ⟨D, ⟨es, clock, (k.block g hlt hg).trans hb, F, hs, hD⟩, h2, h3⟩
theorem zero32 (w : World) : (zeroValue 21).run Try.prog w = .ok (.int .i32 0) w := by kernel_rfl
/-- v, ok := m[k] -/
theorem LastM.look {w : World} {g n : Nat} {L : List UInt8 → Option Nat} (h : LastM w g n L) (k : List UInt8) (hk : k.length = 3) :
    (Instr.lookup 162 (.map (some g)) (key3 k) true).run Try.prog w = .ok (.tuple (match L k with | none => #[.int .i32 0, .bool false] | some p => #[.int .i32 p, .bool true])) w := by
  obtain ⟨D, ⟨es, clock, hb, F, hs, hD⟩, h2, h3⟩ := h
  have h4 := h3 k hk
  rcases Maps.fit_look true keyed67 Try.underlying162 (zero32 w) hb F (keyOf67 k hk) with ⟨r1, r2, r3⟩ | ⟨e0, y, r0, r1, r2, r3, r4, r5⟩
  · rw [← hD] at r3
    have hn := Maps.has_false_of_atKey r3
    cases hL : L k with
    | none => exact r1
    | some p => rw [hL] at h4; have := h4.1; rw [hn] at this; cases this
  · rw [← hD] at r4
    have hy := Maps.has_true_of_atKey r4
    cases hL : L k with
    | none => rw [hL] at h4; simp only at h4; rw [hy] at h4; cases h4
    | some p =>
      rw [hL] at h4
      obtain ⟨a, ha, hz, _⟩ := plainElem_int_inv Try.underlying21 r3
      have e1 := (h4.2 .nil).symm.trans (r4 .nil)
      rw [hz] at e1
      have e2 : (p : Int) = a := by simpa using e1
      rw [r2, ha, ← e2]; rfl
/-- m[k] = v -/
theorem LastM.put {w : World} {g n : Nat} {L : List UInt8 → Option Nat} (h : LastM w g n L) (hn : n < 2147483647) (k : List UInt8) (hk : k.length = 3) (p : Nat) (hp : p < 2147483648) (W : World → Prop)
    (hW : ∀ w', LastM w' g (n + 1) (fun k' => if k' = k then some p else L k') → Keep [g] w w' → W w') :
    ∃ w', (Instr.mapUpdate 162 (.map (some g)) (key3 k) (.int .i32 (p : Int))).run Try.prog w = .ok () w' ∧ W w' := by
  obtain ⟨D, h1, h2, h3⟩ := h
  have hwf : (Lit.int .i32 (p : Int)).wf = true := by simp [Lit.wf, IntKind.min, IntKind.max, IntKind.signed, IntKind.bits]; omega
  obtain ⟨w', hr, g1, g2⟩ := h1.update keyed67 Try.underlying162 (by unfold maxLen; omega) (keyOf67 k hk) (plainElem_int Try.underlying21 hwf)
  refine ⟨w', hr, hW w' ⟨_, g1, h2.put _ _, fun k' hk' => ?_⟩ ((Keep.refl _ _).grown g2 (fun _ e => .inl (by simp at e ⊢; exact e.symm)))⟩
  by_cases e : k' = k
  · subst e
    simp only [if_true]
    exact ⟨Maps.has_put_same h2 (show WideAt.IsKeyLit (.string k') from trivial) _, fun z => Maps.atKey_put_same h2 (show WideAt.IsKeyLit (.string k') from trivial) _ z⟩
  · simp only [if_neg e]
    have h4 := h3 k' hk'
    have hne : (Lit.string k') ≠ (.string k) := fun q => e (by simpa using q)
    cases hL : L k' with
    | none => rw [hL] at h4; simp only at h4 ⊢; rw [Maps.has_put_other hne]; exact h4
    | some q =>
      rw [hL] at h4
      exact ⟨by rw [Maps.has_put_other hne]; exact h4.1, fun z => by rw [Maps.atKey_put_other hne]; exact h4.2 z⟩
end Go.Proofs.Yteahcpkaagjkkaa
namespace Go.Proofs.Yteahcpkaagjkkaa
set_option linter.unusedVariables false
set_option linter.unusedSimpArgs false
set_option maxRecDepth 100000
open Go.ChangeShapes Go.WideShapes Go.ChangeAt Go.RowKit

def wi (n l m : Int) : Bool := decide (l ≤ n) && decide (n ≤ m)
set_option maxRecDepth 100000 in
theorem fwithin_c (w : World) (n l m : Int) : Calls Try.prog 105 #[.int .i64 n, .int .i64 l, .int .i64 m] w fun e w' => e = .returned (.bool (wi n l m)) ∧ w' = w := by
  by_cases h1 : l ≤ n
  case neg =>
    have HR : Hid (wi n l m = false) := by unfold wi; rw [decide_eq_false h1]; rfl
    go_enter Try.func105, Try.ntmps105
    go_wp2_with fail
    go_ret
    exact ⟨by rw [HR.out]; rfl, rfl⟩
  have HR : Hid (wi n l m = decide (n ≤ m)) := by unfold wi; rw [decide_eq_true h1]; rfl
  by_cases h2 : n ≤ m
  · have HR2 : Hid (wi n l m = true) := by rw [HR.out, decide_eq_true h2]; rfl
    clear HR
    go_enter Try.func105, Try.ntmps105
    go_wp2_with fail
    go_ret
    exact ⟨by rw [HR2.out]; rfl, rfl⟩
  · have HR2 : Hid (wi n l m = false) := by rw [HR.out, decide_eq_false h2]; rfl
    clear HR
    go_enter Try.func105, Try.ntmps105
    go_wp2_with fail
    go_ret
    exact ⟨by rw [HR2.out]; rfl, rfl⟩
set_option maxRecDepth 100000 in
set_option maxHeartbeats 4000000 in
theorem fin_check (w : World) (s : Sh) : Calls Try.prog 80 #[s.val] w fun e w' => e = .returned (.int .i64 (if s.ok then 0 else 2)) ∧ Keep [] w w' := by
  have HD : Hid (s.ok ↔ (wi s.win 1 65536 = true ∧ wi s.min 2 3 = true ∧ wi s.max s.min 65538 = true ∧ wi s.chain 0 4096 = true)) := by
    unfold Sh.ok wi
    simp only [Bool.and_eq_true, decide_eq_true_eq]
    constructor
    · rintro ⟨a, b, c, d, e, f, g, h⟩; exact ⟨⟨a, b⟩, ⟨c, d⟩, ⟨e, f⟩, g, h⟩
    · rintro ⟨⟨a, b⟩, ⟨c, d⟩, ⟨e, f⟩, g, h⟩; exact ⟨a, b, c, d, e, f, g, h⟩
  obtain ⟨win, mn, mx, ch, lz⟩ := s
  simp only at HD
  have H1 := Lib.hid (fun ww => fwithin_c ww win 1 65536)
  have H2 := Lib.hid (fun ww => fwithin_c ww mn 2 3)
  have H3 := Lib.hid (fun ww => fwithin_c ww mx mn 65538)
  have H4 := Lib.hid (fun ww => fwithin_c ww ch 0 4096)
  obtain ⟨R, hR⟩ : ∃ R : Int, (if (⟨win, mn, mx, ch, lz⟩ : Sh).ok then (0 : Int) else 2) = R := ⟨_, rfl⟩
  have HR : Hid (R = if wi win 1 65536 = true ∧ wi mn 2 3 = true ∧ wi mx mn 65538 = true ∧ wi ch 0 4096 = true then 0 else 2) := by
    rw [← hR]; simp only [HD.out]; exact trivial
  rw [hR]
  show Calls Try.prog 80 #[.agg #[.int .i64 win, .int .i64 mn, .int .i64 mx, .int .i64 ch, .bool lz]] w _
  clear HD hR
  generalize wi win 1 65536 = t1 at H1 HR
  generalize wi mn 2 3 = t2 at H2 HR
  generalize wi mx mn 65538 = t3 at H3 HR
  generalize wi ch 0 4096 = t4 at H4 HR
  cases t1 with
  | false =>
    have HR2 : Hid (R = 2) := by have := HR.out; rw [if_neg (by simp)] at this; exact this
    clear HR
    go_enter Try.func80, Try.ntmps80
    go_wp2_with fail
    refine (H1.out _).mono ?_
    rintro e w' ⟨rfl, rfl⟩
    go_wp2_with fail
    go_ret
    exact ⟨by rw [HR2.out]; rfl, (Keep.refl [] w).alloc _⟩
  | true =>
  cases t2 with
  | false =>
    have HR2 : Hid (R = 2) := by have := HR.out; rw [if_neg (by simp)] at this; exact this
    clear HR
    go_enter Try.func80, Try.ntmps80
    go_wp2_with fail
    refine (H1.out _).mono ?_
    rintro e w' ⟨rfl, rfl⟩
    go_wp2_with fail
    refine (H2.out _).mono ?_
    rintro e w' ⟨rfl, rfl⟩
    go_wp2_with fail
    go_ret
    exact ⟨by rw [HR2.out]; rfl, (Keep.refl [] w).alloc _⟩
  | true =>
  cases t3 with
  | false =>
    have HR2 : Hid (R = 2) := by have := HR.out; rw [if_neg (by simp)] at this; exact this
    clear HR
    go_enter Try.func80, Try.ntmps80
    go_wp2_with fail
    refine (H1.out _).mono ?_
    rintro e w' ⟨rfl, rfl⟩
    go_wp2_with fail
    refine (H2.out _).mono ?_
    rintro e w' ⟨rfl, rfl⟩
    go_wp2_with fail
    refine (H3.out _).mono ?_
    rintro e w' ⟨rfl, rfl⟩
    go_wp2_with fail
    go_ret
    exact ⟨by rw [HR2.out]; rfl, (Keep.refl [] w).alloc _⟩
  | true =>
  cases t4 with
  | false =>
    have HR2 : Hid (R = 2) := by have := HR.out; rw [if_neg (by simp)] at this; exact this
    clear HR
    go_enter Try.func80, Try.ntmps80
    go_wp2_with fail
    refine (H1.out _).mono ?_
    rintro e w' ⟨rfl, rfl⟩
    go_wp2_with fail
    refine (H2.out _).mono ?_
    rintro e w' ⟨rfl, rfl⟩
    go_wp2_with fail
    refine (H3.out _).mono ?_
    rintro e w' ⟨rfl, rfl⟩
    go_wp2_with fail
    refine (H4.out _).mono ?_
    rintro e w' ⟨rfl, rfl⟩
    go_wp2_with fail
    go_ret
    exact ⟨by rw [HR2.out]; rfl, (Keep.refl [] w).alloc _⟩
  | true =>
    have HR2 : Hid (R = 0) := by have := HR.out; rw [if_pos (by simp)] at this; exact this
    clear HR
    go_enter Try.func80, Try.ntmps80
    go_wp2_with fail
    refine (H1.out _).mono ?_
    rintro e w' ⟨rfl, rfl⟩
    go_wp2_with fail
    refine (H2.out _).mono ?_
    rintro e w' ⟨rfl, rfl⟩
    go_wp2_with fail
    refine (H3.out _).mono ?_
    rintro e w' ⟨rfl, rfl⟩
    go_wp2_with fail
    refine (H4.out _).mono ?_
    rintro e w' ⟨rfl, rfl⟩
    go_wp2_with fail
    go_ret
    exact ⟨by rw [HR2.out]; rfl, (Keep.refl [] w).alloc _⟩
end Go.Proofs.Yteahcpkaagjkkaa
