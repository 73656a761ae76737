/- Rows of tokens (api.Token): read, owned, appended to, opened. No condition beyond each theorem's own premises. -/
import Derived.Test.YtmafgamacijdaaaAppend
import Derived.Test.YtmafgamacijdaaaOpen
import Derived.Test.YtmafgamacijdaaaRefKit
import Derived.Laws.OwnMore
namespace Go.Proofs.Ytmafgamacijdaaa
set_option linter.unusedVariables false
set_option linter.unusedSimpArgs false
open Go.ChangeShapes Go.WideShapes Go.ChangeAt Go.RowKit

/-- a token: a byte, a distance, a length -/
structure Tk where
  lit : UInt8
  dist : Int
  len : Int
deriving DecidableEq
instance : Inhabited Tk := ⟨⟨0, 0, 0⟩⟩
def Tk.cells (t : Tk) : List Value := [.int .u8 t.lit.toNat, .int .i64 t.dist, .int .i64 t.len]
def Tk.wf (t : Tk) : Prop := (Lit.int .i64 t.dist).wf = true ∧ (Lit.int .i64 t.len).wf = true
instance (t : Tk) : Decidable t.wf := by unfold Tk.wf; infer_instance
def tcells (ts : List Tk) : List Value := ts.flatMap Tk.cells
theorem tcells_append (a b : List Tk) : tcells (a ++ b) = tcells a ++ tcells b := by simp [tcells]
theorem tcells_len (ts : List Tk) : (tcells ts).length = ts.length * 3 := by
  induction ts with
  | nil => rfl
  | cons t ts ih =>
    have : tcells (t :: ts) = t.cells ++ tcells ts := rfl
    rw [this, List.length_append, ih, List.length_cons]
    show 3 + _ = _
    omega
theorem tcells_get (ts : List Tk) (i : Nat) (h : i < ts.length) : (tcells ts)[i * 3]? = some (.int .u8 (ts[i]).lit.toNat) ∧ (tcells ts)[i * 3 + 1]? = some (.int .i64 (ts[i]).dist) ∧ (tcells ts)[i * 3 + 2]? = some (.int .i64 (ts[i]).len) := by
  induction ts generalizing i with
  | nil => simp at h
  | cons t ts ih =>
    have e : tcells (t :: ts) = t.cells ++ tcells ts := rfl
    have hl : t.cells.length = 3 := rfl
    cases i with
    | zero => rw [e]; exact ⟨rfl, rfl, rfl⟩
    | succ i =>
      have := ih i (by simpa using h)
      rw [e, List.getElem?_append_right (by omega), List.getElem?_append_right (by omega), List.getElem?_append_right (by omega), hl]
      rw [show (i + 1) * 3 - 3 = i * 3 by omega, show (i + 1) * 3 + 1 - 3 = i * 3 + 1 by omega, show (i + 1) * 3 + 2 - 3 = i * 3 + 2 by omega]
      simpa using this
/-- v is a slice of the tokens ts -/
def Ts (w : World) (v : Value) (ts : List Tk) : Prop :=
  ∃ a cap, v = .slice a ts.length cap ∧ ts.length ≤ cap ∧ cap ≤ maxLen ∧ (a = none → cap = 0) ∧ (∀ x, a = some x → ∀ j, j < ts.length * 3 → w.cell? (x.add j) = (tcells ts)[j]?) ∧ ∀ t ∈ ts, t.wf
theorem Ts.keep {w w' : World} {v : Value} {ts : List Tk} {S : List Nat} (h : Ts w v ts) (k : Keep S w w') (hb : ∀ b, v.ownBlock = some b → b ∉ S) : Ts w' v ts := by
  obtain ⟨a, cap, rfl, h1, h2, h3, h4, h5⟩ := h
  refine ⟨a, cap, rfl, h1, h2, h3, fun x hx j hj => ?_, h5⟩
  have hs := h4 x hx j hj
  obtain ⟨u, hu⟩ : ∃ u, (tcells ts)[j]? = some u := ⟨_, List.getElem?_eq_getElem (by rw [tcells_len]; exact hj)⟩
  rw [hu] at hs ⊢
  refine k.cell hs ?_
  subst hx
  have : (x.add j).block = x.block := by unfold Addr.add; split <;> rfl
  rw [this]; exact hb _ rfl
theorem Ts.drewN {w : World} {v : Value} {ts : List Tk} (h : Ts w v ts) (n : Nat) : Ts (w.drewN n) v ts := h.keep ((Keep.refl [] w).drewN _) (by simp)
theorem Ts.sh {w : World} {v : Value} {ts : List Tk} (h : Ts w v ts) : ∃ a cap, v = .slice a ts.length cap ∧ ts.length ≤ 9223372036854775807 := by
  obtain ⟨a, cap, rfl, h1, h2, _⟩ := h
  unfold maxLen at h2
  exact ⟨a, cap, rfl, by omega⟩
theorem Ts.at {w : World} {v : Value} {ts : List Tk} (h : Ts w v ts) (i : Nat) (hi : i < ts.length) : ∃ b off cap, v = .slice (some ⟨b, off, none⟩) ts.length cap ∧ w.cell? ⟨b, off + i * 3, none⟩ = some (.int .u8 (ts[i]).lit.toNat) ∧ w.cell? ⟨b, off + i * 3 + 1, none⟩ = some (.int .i64 (ts[i]).dist) ∧ w.cell? ⟨b, off + i * 3 + 2, none⟩ = some (.int .i64 (ts[i]).len) := by
  obtain ⟨a, cap, rfl, h1, h2, h3, h4, h5⟩ := h
  cases a with
  | none => have := h3 rfl; omega
  | some x =>
    obtain ⟨b, off, spot⟩ := x
    obtain ⟨g1, g2, g3⟩ := tcells_get ts i hi
    have c1 := h4 _ rfl (i * 3) (by omega)
    have c2 := h4 _ rfl (i * 3 + 1) (by omega)
    have c3 := h4 _ rfl (i * 3 + 2) (by omega)
    rw [g1] at c1; rw [g2] at c2; rw [g3] at c3
    have hspot : spot = none := by
      have c0 := h4 _ rfl 0 (by omega)
      have g0 := (tcells_get ts 0 (by omega)).1
      rw [Nat.zero_mul] at g0
      rw [g0] at c0
      simpa [Addr.add] using World.cell?_spot c0
    subst hspot
    have e : ∀ m, (⟨b, off, none⟩ : Addr).add m = ⟨b, off + m, none⟩ := fun m => by cases m <;> simp [Addr.add]
    rw [e] at c1 c2 c3
    exact ⟨b, off, cap, rfl, c1, by rw [Nat.add_assoc]; exact c2, by rw [Nat.add_assoc]; exact c3⟩
theorem Ts.wf {w : World} {v : Value} {ts : List Tk} (h : Ts w v ts) : ∀ t ∈ ts, t.wf := by
  obtain ⟨_, _, _, _, _, _, _, h5⟩ := h; exact h5
/-- v is a slice of tokens of the call's own -/
def OwnT (w : World) (v : Value) (ts : List Tk) : Prop := w.ownsRow 0 69 3 v ts.length (tcells ts) ∧ ∀ t ∈ ts, t.wf
theorem OwnT.nil (w : World) : OwnT w (.slice none 0 0) [] := ⟨World.ownsRow_nil w 0 _ 3, by simp⟩
theorem OwnT.keep {w w' : World} {v : Value} {ts : List Tk} {S : List Nat} (h : OwnT w v ts) (k : Keep S w w') (hb : ∀ b, v.ownBlock = some b → b ∉ S) : OwnT w' v ts := by
  refine ⟨⟨h.1.1, ?_⟩, h.2⟩
  rcases h.1.2 with h2 | ⟨g, cap, cur, rfl, hb0, hh, r⟩
  · exact .inl h2
  · exact .inr ⟨g, cap, cur, rfl, hb0, (k.block g (lt_of_block hh) (hb g rfl)).trans hh, r⟩
theorem OwnT.lt {w : World} {v : Value} {ts : List Tk} (h : OwnT w v ts) : ∀ b, v.ownBlock = some b → b < w.heap.size := fun b hb => (World.ownsRow.lt h.1 b hb).2
theorem OwnT.ts {w : World} {v : Value} {ts : List Tk} (h : OwnT w v ts) : Ts w v ts := by
  obtain ⟨h, hz⟩ := h
  rcases h.2 with ⟨rfl, hn⟩ | ⟨g, cap, cur, rfl, _, hh, hc, hm, hs, ht⟩
  · obtain rfl : ts = [] := List.eq_nil_of_length_eq_zero hn
    exact ⟨none, 0, rfl, by simp, by simp, fun _ => rfl, (fun x hx => nomatch hx), by simp⟩
  · refine ⟨some ⟨g, 0, none⟩, cap, rfl, hc, hm, (fun h => nomatch h), fun x hx j hj => ?_, hz⟩
    obtain rfl : (⟨g, 0, none⟩ : Addr) = x := by simpa using hx
    have e : (⟨g, 0, none⟩ : Addr).add j = ⟨g, j, none⟩ := by cases j <;> simp [Addr.add]
    rw [e, cell_of_row w g j cur _ (0, 0) hh, ← ht, List.getElem?_take, if_pos (by omega)]
    simp
theorem OwnT.blk {w : World} {v : Value} {ts : List Tk} (h : OwnT w v ts) (hn : v ≠ .slice none 0 0) : ∃ g c, v = .slice (some ⟨g, 0, none⟩) ts.length c := by
  rcases h.1.2 with ⟨h', _⟩ | ⟨g', cap', cur, h', _⟩
  · exact absurd h' hn
  · exact ⟨g', cap', h'⟩
theorem OwnT.free {w : World} {g n cap : Nat} {ts : List Tk} (h : OwnT w (.slice (some ⟨g, 0, none⟩) n cap) ts) (j : Nat) : w.frozen? ⟨g, j, none⟩ = false := by
  have hn : n = ts.length := by
    obtain ⟨_, _, e, _⟩ := h.ts
    simp only [Value.slice.injEq] at e; exact e.2.1
  subst hn
  exact h.1.frozenAt j
theorem tcells_set (ts : List Tk) (i : Nat) (h : i < ts.length) (n : Int) : tcells (ts.set i { ts[i] with len := n }) = (tcells ts).set (i * 3 + 2) (.int .i64 n) := by
  induction ts generalizing i with
  | nil => simp at h
  | cons t ts ih =>
    cases i with
    | zero => rfl
    | succ i =>
      have e1 : tcells (t :: ts) = t.cells ++ tcells ts := rfl
      have hl : t.cells.length = 3 := rfl
      rw [e1, List.set_append_right _ _ (by omega), hl, show (i + 1) * 3 + 2 - 3 = i * 3 + 2 by omega, ← ih i (by simpa using h)]
      rfl
/-- another length for a token -/
theorem OwnT.setLen {w : World} {g n cap : Nat} {ts : List Tk} (h : OwnT w (.slice (some ⟨g, 0, none⟩) n cap) ts) (i : Nat) (hi : i < ts.length) (x : Int) (hx : (Lit.int .i64 x).wf = true) : OwnT (w.setCell ⟨g, i * 3 + 2, none⟩ (.int .i64 x)) (.slice (some ⟨g, 0, none⟩) n cap) (ts.set i { ts[i] with len := x }) := by
  have hn : n = ts.length := by
    obtain ⟨_, _, e, _⟩ := h.ts
    simp only [Value.slice.injEq] at e; exact e.2.1
  subst hn
  refine ⟨?_, fun t ht => ?_⟩
  · rw [List.length_set, tcells_set ts i hi x]
    exact (h.1.stored (i * 3 + 2) (.int .i64 x)).1
  · rcases List.mem_or_eq_of_mem_set ht with h1 | h1
    · exact h.2 t h1
    · subst h1; exact ⟨(h.2 _ (List.getElem_mem hi)).1, hx⟩
theorem infoT : (Try.prog.info? 69).map (fun i => (i.zero.map (·.cells.size), i.size, i.bytes)) = some (some 3, 3, 24) := by kernel_rfl
/-- append of tokens -/
theorem wpList_appendT {w : World} {ops : Array Oper} {rest : List Oper} {o : Oper} {a : Act} {Q : Exit → Act → World → Prop} (s x : Operand) (hgd : o.guard = none)
    (ho : o.op = .call { callee := .builtin .append, args := #[s, x], argTypes := #[62, 62] })
    (v : Value) (ts : List Tk) (hs : a.eval s = v) (hown : OwnT w v ts) (g : Nat) (t : Tk) (hx : a.eval x = .slice (some ⟨g, 0, none⟩) 1 1) (hsrc : Blk w g t.cells.toArray 69) (hwf : t.wf) (hlen : ts.length ≤ 1000000)
    (h : ∀ v' w', OwnT w' v' (ts ++ [t]) → Keep v.ownBlock.toList w w' → (∀ b, v'.ownBlock = some b → v.ownBlock = some b ∨ b = w.heap.size) → v' ≠ .slice none 0 0 → wpList Try.prog ops Q rest (a.put o.dst v') w') : wpList Try.prog ops Q (o :: rest) a w := by
  obtain ⟨i0, hi, hzz⟩ := Option.map_eq_some_iff.1 infoT
  simp only [Prod.mk.injEq] at hzz
  obtain ⟨hz, hz1, hz2⟩ := hzz
  obtain ⟨z, hz, hzc⟩ := Option.map_eq_some_iff.1 hz
  have hS : Src w 3 (.slice (some ⟨g, 0, none⟩) 1 1) 1 t.cells := by
    refine ⟨rfl, by simp [Tk.cells, Value.oneCell'], .inr ⟨⟨g, 0, none⟩, 1, rfl, fun j u hu => ?_⟩⟩
    have e : ∀ m, ((⟨g, 0, none⟩ : Addr).add m) = ⟨g, m, none⟩ := fun m => by cases m <;> simp [Addr.add]
    rw [e]
    exact hsrc.cell j u (by simpa using hu)
  refine wpList_append_any hgd s x 62 ho 69 i0 z 3 24 Try.underlying62 hi hz hz1 hz2 hzc (by decide) v ts.length (tcells ts) hs hown.1 _ 1 t.cells hx hS (by unfold maxLen; omega) (by omega) ?_
  intro v' w' h1 h2 h3 h4
  have hO : OwnT w' v' (ts ++ [t]) := by
    refine ⟨by rw [List.length_append, tcells_append, show tcells [t] = t.cells from by simp [tcells]]; exact h1, fun y hy => ?_⟩
    rcases List.mem_append.1 hy with h5 | h5
    · exact hown.2 y h5
    · obtain rfl : y = t := by simpa using h5
      exact hwf
  refine h v' w' hO h2 h3 (fun e => ?_)
  obtain ⟨a', cap, e2, _⟩ := hO.ts.sh
  rw [e2] at e
  simp only [Value.slice.injEq] at e
  have := e.2.1
  simp at this
section
variable {H : Type} {enc : TypeId × Value → H} {W : World} {base base0 : Nat} {spare : Nat → Bool} {held : Bool} {v : Value} {d : DataW H} {p : List MemPlace}
theorem open_tks (hv : Value.okWide Try.prog W .any base0 62 v) (h : DataW.Trod enc Try.prog W base spare held 62 v d p) : ∃ ts, Ts W v ts := by
  obtain ⟨n, C, ⟨a, cap, rfl, h1, h2, h3, h4⟩, hf⟩ := open_sts Try.underlying62 Try.underlying69 (by kernel_rfl) (by kernel_rfl) hv h
  have key : ∀ i, ∃ t : Tk, i < n → t.wf ∧ C i 0 = .int .u8 t.lit.toNat ∧ C i 1 = .int .i64 t.dist ∧ C i 2 = .int .i64 t.len := fun i => by
    by_cases hi : i < n
    · obtain ⟨_, _, f0⟩ := hf i hi 0 _ rfl
      obtain ⟨_, _, f1⟩ := hf i hi 1 _ rfl
      obtain ⟨_, _, f2⟩ := hf i hi 2 _ rfl
      obtain ⟨z0, e0, w0⟩ := int_of_trod Try.underlying5 f0
      obtain ⟨z1, e1, w1⟩ := int_of_trod Try.underlying3 f1
      obtain ⟨z2, e2, w2⟩ := int_of_trod Try.underlying3 f2
      exact ⟨⟨UInt8.ofNat z0.toNat, z1, z2⟩, fun _ => ⟨⟨w1, w2⟩, by rw [e0, u8_of_wf w0], e1, e2⟩⟩
    · exact ⟨default, fun h => absurd h hi⟩
  obtain ⟨f, hF⟩ : ∃ f : Nat → Tk, ∀ i, i < n → (f i).wf ∧ C i 0 = .int .u8 (f i).lit.toNat ∧ C i 1 = .int .i64 (f i).dist ∧ C i 2 = .int .i64 (f i).len := ⟨fun i => Classical.choose (key i), fun i => Classical.choose_spec (key i)⟩
  refine ⟨(List.range n).map f, a, cap, by simp, by simpa using h1, h2, h3, fun x hx j hj => ?_, fun t ht => ?_⟩
  · have hj' : j < n * 3 := by simpa using hj
    obtain ⟨i, m, hi, hm, rfl⟩ : ∃ i m, i < n ∧ m < 3 ∧ j = i * 3 + m := ⟨j / 3, j % 3, by omega, by omega, by omega⟩
    have hil : i < ((List.range n).map f).length := by simpa using hi
    obtain ⟨g1, g2, g3⟩ := tcells_get _ i hil
    obtain ⟨_, s1, s2, s3⟩ := hF i hi
    simp only [List.getElem_map, List.getElem_range] at g1 g2 g3
    have hc := h4 x hx i hi m hm
    change W.cell? (x.add (i * 3 + m)) = _ at hc
    rw [hc]
    obtain rfl | rfl | rfl : m = 0 ∨ m = 1 ∨ m = 2 := by omega
    · rw [Nat.add_zero, g1, s1]
    · rw [g2, s2]
    · rw [g3, s3]
  · simp only [List.mem_map, List.mem_range] at ht
    obtain ⟨i, hi, rfl⟩ := ht
    exact (hF i hi).1
end
end Go.Proofs.Ytmafgamacijdaaa
