/- Texts put together: Ints OwnC Tok TokMath RefLim RefLim2 RefLim3 RefLim4 OwnI Srt1 FinMath FinMath2 Sf2 SfLay IsFrom RefUnp FinBk FinMap RefFin FinChk RefFin2 RefTok RefTok2 RefFin3 TokRun -/
import Derived.Test.YthmojejiaeninaaGreatPart5
import Derived.Test.YthmojejiaeninaaGreatPart2
import Derived.Laws.OwnMore
import Derived.Test.YthmojejiaeninaaGreatPart4
import Derived.BigRegion
import Derived.Test.YthmojejiaeninaaGreatPart3
import Derived.Laws.MakeOwn
import Derived.Test.YthmojejiaeninaaGreatPart13
import Derived.Deep.Slices
import Derived.Test.YthmojejiaeninaaGreatPart1
import Derived.Maps.Views
import Derived.Maps.OwnOps
import Derived.DeepKeys4
import Derived.BigQuiet
import Derived.Laws.StructEq
namespace Go.Proofs.YthmojejiaeninaaGreat
set_option linter.unusedVariables false
set_option linter.unusedSimpArgs false
open Go.ChangeShapes Go.WideShapes Go.ChangeAt Go.RowKit

/-- a list's numbers as they are -/
def zn (zs : List Int) (i : Nat) : Int := zs.getD i 0
theorem zn_get (zs : List Int) (i : Nat) (h : i < zs.length) : zn zs i = zs[i] := by simp [zn, h]
theorem Is.sh {k : IntKind} {w : World} {v : Value} {zs : List Int} (h : Is k w v zs) : ∃ a cap, v = .slice a zs.length cap ∧ zs.length ≤ 9223372036854775807 := by
  obtain ⟨a, cap, rfl, h1, h2, _⟩ := h
  unfold maxLen at h2
  exact ⟨a, cap, rfl, by omega⟩
def ints64 (l : List Int) : List Value := l.map fun c => .int .i64 c
/-- v is a slice of numbers of the call's own, onto which it may append -/
def OwnI (w : World) (v : Value) (l : List Int) : Prop := w.ownsRow 0 3 1 v l.length (ints64 l) ∧ ∀ z ∈ l, (Lit.int .i64 z).wf = true
theorem OwnI.is {w : World} {v : Value} {l : List Int} (h : OwnI w v l) : Is .i64 w v l := by
  obtain ⟨h, hz⟩ := h
  rcases h.2 with ⟨rfl, hn⟩ | ⟨g, cap, cur, rfl, _, hh, hc, hm, hs, ht⟩
  · obtain rfl : l = [] := List.eq_nil_of_length_eq_zero hn
    exact ⟨none, 0, rfl, by simp, by simp, fun _ => rfl, (fun x hx => nomatch hx), by simp⟩
  · refine ⟨some ⟨g, 0, none⟩, cap, rfl, hc, hm, (fun h => nomatch h), fun x hx i hi => ?_, hz⟩
    obtain rfl : (⟨g, 0, none⟩ : Addr) = x := by simpa using hx
    have e : (⟨g, 0, none⟩ : Addr).add i = ⟨g, i, none⟩ := by unfold Addr.add; split <;> simp_all
    rw [e, cell_of_row w g i cur _ (0, 0) hh]
    have : (ints64 l)[i]? = some (.int .i64 l[i]) := by simp [ints64, hi]
    rw [← ht, List.getElem?_take] at this
    split at this
    · simpa using this
    · cases this
theorem OwnI.keep {w w' : World} {v : Value} {l : List Int} {S : List Nat} (h : OwnI w v l) (k : Keep S w w') (hb : ∀ b, v.ownBlock = some b → b ∉ S) : OwnI w' v l := by
  refine ⟨⟨h.1.1, ?_⟩, h.2⟩
  rcases h.1.2 with h2 | ⟨g, cap, cur, rfl, hb0, hh, r⟩
  · exact .inl h2
  · exact .inr ⟨g, cap, cur, rfl, hb0, (k.block g (lt_of_block hh) (hb g rfl)).trans hh, r⟩
theorem OwnI.lt {w : World} {v : Value} {l : List Int} (h : OwnI w v l) : ∀ b, v.ownBlock = some b → b < w.heap.size := fun b hb => (World.ownsRow.lt h.1 b hb).2
theorem OwnI.nil (w : World) : OwnI w (.slice none 0 0) [] := ⟨World.ownsRow_nil w 0 _ 1, by simp⟩
theorem info64 : (Tryz.prog.info? 3).map (fun i => (i.zero, i.size, i.bytes)) = some (some (.int .i64 0), 1, 8) := by kernel_rfl
theorem Is.src {w : World} {v : Value} {l : List Int} (h : Is .i64 w v l) : Src w 1 v l.length (ints64 l) := by
  obtain ⟨a, cap, rfl, h1, h2, h3, h4, _⟩ := h
  refine ⟨by simp [ints64], by simp [ints64, Value.oneCell'], ?_⟩
  cases a with
  | none =>
    obtain rfl := h3 rfl
    left; have : l.length = 0 := by omega
    simp [this]
  | some x =>
    refine .inr ⟨x, cap, rfl, fun j u hu => ?_⟩
    have hj : j < l.length := by
      have := (List.getElem?_eq_some_iff.1 hu).1; simpa [ints64] using this
    rw [h4 x rfl j hj]
    simpa [ints64, hj] using hu
theorem ints64_append (a b : List Int) : ints64 (a ++ b) = ints64 a ++ ints64 b := by simp [ints64]
/-- append of numbers -/
theorem wpList_appendI {w : World} {ops : Array Oper} {rest : List Oper} {o : Oper} {a : Act} {Q : Exit → Act → World → Prop} (s x : Operand) (hgd : o.guard = none)
    (ho : o.op = .call { callee := .builtin .append, args := #[s, x], argTypes := #[32, 32] })
    (v : Value) (l : List Int) (hs : a.eval s = v) (hown : OwnI w v l) (xv : Value) (l2 : List Int) (hx : a.eval x = xv) (hsrc : Is .i64 w xv l2) (hlen : l.length + l2.length ≤ 17592186044416)
    (h : ∀ v' w', OwnI w' v' (l ++ l2) → Keep v.ownBlock.toList w w' → (∀ b, v'.ownBlock = some b → v.ownBlock = some b ∨ b = w.heap.size) → (v ≠ .slice none 0 0 → v' ≠ .slice none 0 0) → wpList Tryz.prog ops Q rest (a.put o.dst v') w') : wpList Tryz.prog ops Q (o :: rest) a w := by
  obtain ⟨i0, hi, hz0, hz1, hz2⟩ := info_parts info64
  refine wpList_append_any hgd s x 32 ho 3 i0 (.int .i64 0) 1 8 Tryz.underlying32 hi hz0 hz1 hz2 rfl (by decide) v l.length (ints64 l) hs hown.1 xv l2.length (ints64 l2) hx hsrc.src (by unfold maxLen; omega) (by omega) ?_
  intro v' w' h1 h2 h3 h4
  refine h v' w' ⟨by rw [List.length_append, ints64_append]; exact h1, fun z hz => ?_⟩ h2 h3 h4
  rcases List.mem_append.1 hz with h5 | h5
  · exact hown.2 z h5
  · obtain ⟨_, _, _, _, _, _, _, h6⟩ := hsrc
    exact h6 z h5
end Go.Proofs.YthmojejiaeninaaGreat
namespace Go.Proofs.YthmojejiaeninaaGreat
set_option linter.unusedVariables false
set_option linter.unusedSimpArgs false
open Go.ChangeShapes Go.WideShapes Go.ChangeAt Go.RowKit

def cells2 (c l : Nat → Nat) (k : Nat) : List Value := (List.range k).flatMap fun i => [.int .u32 (c i), .int .i64 (l i)]
theorem cells2_succ (c l : Nat → Nat) (k : Nat) : cells2 c l (k + 1) = cells2 c l k ++ [.int .u32 (c k), .int .i64 (l k)] := by simp [cells2, List.range_succ]
theorem cells2_len (c l : Nat → Nat) (k : Nat) : (cells2 c l k).length = k * 2 := by
  induction k with
  | zero => rfl
  | succ k ih => rw [cells2_succ, List.length_append, ih]; simp; omega
theorem cells2_get (c l : Nat → Nat) (k i : Nat) (h : i < k) : (cells2 c l k)[i * 2]? = some (.int .u32 (c i)) ∧ (cells2 c l k)[i * 2 + 1]? = some (.int .i64 (l i)) := by
  induction k with
  | zero => omega
  | succ k ih =>
    rw [cells2_succ]
    by_cases e : i = k
    · subst e
      have := cells2_len c l i
      constructor
      · rw [List.getElem?_append_right (by omega), this]; simp
      · rw [List.getElem?_append_right (by omega), this, show i * 2 + 1 - i * 2 = 1 by omega]; simp
    · have := cells2_len c l k
      rw [List.getElem?_append_left (by omega), List.getElem?_append_left (by omega)]
      exact ih (by omega)
/-- v is a row of k words of the call's own -/
def OwnC (w : World) (v : Value) (c l : Nat → Nat) (k : Nat) : Prop := w.ownsRow 0 82 2 v k (cells2 c l k)
theorem OwnC.nil (w : World) (c l : Nat → Nat) : OwnC w (.slice none 0 0) c l 0 := World.ownsRow_nil w 0 _ 2
theorem OwnC.keep {w w' : World} {v : Value} {c l : Nat → Nat} {n : Nat} {S : List Nat} (h : OwnC w v c l n) (k : Keep S w w') (hb : ∀ b, v.ownBlock = some b → b ∉ S) : OwnC w' v c l n := by
  refine ⟨h.1, ?_⟩
  rcases h.2 with h2 | ⟨g, cap, cur, rfl, hb0, hh, r⟩
  · exact .inl h2
  · exact .inr ⟨g, cap, cur, rfl, hb0, (k.block g (lt_of_block hh) (hb g rfl)).trans hh, r⟩
theorem OwnC.lt {w : World} {v : Value} {c l : Nat → Nat} {n : Nat} (h : OwnC w v c l n) : ∀ b, v.ownBlock = some b → b < w.heap.size := fun b hb => (World.ownsRow.lt h b hb).2
theorem OwnC.sts {w : World} {v : Value} {c l : Nat → Nat} {n : Nat} (h : OwnC w v c l n) : Sts w v n 2 (fun i j => if j = 0 then .int .u32 (c i) else .int .i64 (l i)) := by
  rcases h.2 with ⟨rfl, hn⟩ | ⟨g, cap, cur, rfl, _, hh, hc, hm, hs, ht⟩
  · subst hn
    exact ⟨none, 0, rfl, by simp, by simp, fun _ => rfl, fun x hx => nomatch hx⟩
  · refine ⟨some ⟨g, 0, none⟩, cap, rfl, hc, hm, (fun h => nomatch h), fun x hx i hi j hj => ?_⟩
    obtain rfl : (⟨g, 0, none⟩ : Addr) = x := by simpa using hx
    have e : ∀ m, ((⟨g, 0, none⟩ : Addr).add m) = ⟨g, m, none⟩ := fun m => by cases m <;> simp [Addr.add]
    rw [e, cell_of_row w g _ cur _ (0, 0) hh]
    have h2 := cells2_get c l n i hi
    rw [← ht, List.getElem?_take, List.getElem?_take, if_pos (by omega), if_pos (by omega)] at h2
    obtain rfl | rfl : j = 0 ∨ j = 1 := by omega
    · simpa using h2.1
    · simpa using h2.2
theorem infoC : (Tryz.prog.info? 82).map (fun i => (i.zero.map (·.cells.size), i.size, i.bytes)) = some (some 2, 2, 16) := by kernel_rfl
/-- append of one word, as a step of a region that draws -/
theorem step_appendC {w : World} {ops : Array Oper} {o : Oper} {a : Act} {K : Act → World → Prop} {Q : Exit → Act → World → Prop} {E : Prop} (s x : Operand) (hgd : o.guard = none)
    (ho : o.op = .call { callee := .builtin .append, args := #[s, x], argTypes := #[55, 55] })
    (v : Value) (c l : Nat → Nat) (n : Nat) (hs : a.eval s = v) (hown : OwnC w v c l n) (g : Nat) (hx : a.eval x = .slice (some ⟨g, 0, none⟩) 1 1) (hsrc : Blk w g #[.int .u32 (c n), .int .i64 (l n)] 82) (hlen : n ≤ 100000)
    (h : ∀ v' w', OwnC w' v' c l (n + 1) → Keep v.ownBlock.toList w w' → (∀ b, v'.ownBlock = some b → v.ownBlock = some b ∨ b = w.heap.size) → K (a.put o.dst v') w') :
    if Region.wanted o (yielded ops a.tmps) = true then Oper.wp Tryz.prog o a w K Q else E := by
  have hw : Region.wanted o (yielded ops a.tmps) = true := by simp [Region.wanted, hgd]
  rw [if_pos hw]
  obtain ⟨i0, hi, hzz⟩ := Option.map_eq_some_iff.1 infoC
  simp only [Prod.mk.injEq] at hzz
  obtain ⟨hz, hz1, hz2⟩ := hzz
  obtain ⟨z, hz, hzc⟩ := Option.map_eq_some_iff.1 hz
  have hS : Src w 2 (.slice (some ⟨g, 0, none⟩) 1 1) 1 [.int .u32 (c n), .int .i64 (l n)] := by
    refine ⟨rfl, by simp [Value.oneCell'], .inr ⟨⟨g, 0, none⟩, 1, rfl, fun j u hu => ?_⟩⟩
    have e : ∀ m, ((⟨g, 0, none⟩ : Addr).add m) = ⟨g, m, none⟩ := fun m => by cases m <;> simp [Addr.add]
    rw [e]
    exact hsrc.cell j u (by simpa using hu)
  obtain ⟨v', w', hr, h2, h3, h4, h5⟩ := run_append_any (P := Tryz.prog) w 55 o.type 82 i0 z 2 16 Tryz.underlying55 hi hz hz1 hz2 hzc (by decide) v n (cells2 c l n) hown (.slice (some ⟨g, 0, none⟩) 1 1) 1 [.int .u32 (c n), .int .i64 (l n)] hS (by unfold maxLen; omega) (by omega)
  unfold Oper.wp execOp
  simp only [ho, resolve, invoke, builtin, Sem.run_bind, Sem.run_pure, Result.andThen_ok, List.map_toArray, List.map_cons, List.map_nil, hs, hx, hr]
  exact h v' w' (by unfold OwnC; rw [cells2_succ]; exact h2) ((Keep.refl _ _).grown h3 (fun k hk => .inl (by simp [hk]))) h4
end Go.Proofs.YthmojejiaeninaaGreat
namespace Go.Proofs.YthmojejiaeninaaGreat
set_option linter.unusedVariables false
set_option linter.unusedSimpArgs false
set_option maxRecDepth 100000
open Go.ChangeShapes Go.WideShapes Go.ChangeAt Go.RowKit

/-- a token: a byte, a distance, a length -/
structure Tk where
  lit : UInt8
  dist : Int
  len : Int
deriving DecidableEq
instance : Inhabited Tk := ⟨⟨0, 0, 0⟩⟩
def Tk.cells (t : Tk) : List Value := [.int .u8 t.lit.toNat, .int .i64 t.dist, .int .i64 t.len]
def Tk.wf (t : Tk) : Prop := (Lit.int .i64 t.dist).wf = true ∧ (Lit.int .i64 t.len).wf = true
instance (t : Tk) : Decidable t.wf := by unfold Tk.wf; infer_instance
def tcells (ts : List Tk) : List Value := ts.flatMap Tk.cells
theorem tcells_append (a b : List Tk) : tcells (a ++ b) = tcells a ++ tcells b := by simp [tcells]
theorem tcells_len (ts : List Tk) : (tcells ts).length = ts.length * 3 := by
  induction ts with
  | nil => rfl
  | cons t ts ih =>
    have : tcells (t :: ts) = t.cells ++ tcells ts := rfl
    rw [this, List.length_append, ih, List.length_cons]
    show 3 + _ = _
    omega
theorem tcells_get (ts : List Tk) (i : Nat) (h : i < ts.length) : (tcells ts)[i * 3]? = some (.int .u8 (ts[i]).lit.toNat) ∧ (tcells ts)[i * 3 + 1]? = some (.int .i64 (ts[i]).dist) ∧ (tcells ts)[i * 3 + 2]? = some (.int .i64 (ts[i]).len) := by
  induction ts generalizing i with
  | nil => simp at h
  | cons t ts ih =>
    have e : tcells (t :: ts) = t.cells ++ tcells ts := rfl
    have hl : t.cells.length = 3 := rfl
    cases i with
    | zero => rw [e]; exact ⟨rfl, rfl, rfl⟩
    | succ i =>
      have := ih i (by simpa using h)
      rw [e, List.getElem?_append_right (by omega), List.getElem?_append_right (by omega), List.getElem?_append_right (by omega), hl]
      rw [show (i + 1) * 3 - 3 = i * 3 by omega, show (i + 1) * 3 + 1 - 3 = i * 3 + 1 by omega, show (i + 1) * 3 + 2 - 3 = i * 3 + 2 by omega]
      simpa using this
/-- v is a slice of the tokens ts -/
def Ts (w : World) (v : Value) (ts : List Tk) : Prop :=
  ∃ a cap, v = .slice a ts.length cap ∧ ts.length ≤ cap ∧ cap ≤ maxLen ∧ (a = none → cap = 0) ∧ (∀ x, a = some x → ∀ j, j < ts.length * 3 → w.cell? (x.add j) = (tcells ts)[j]?) ∧ ∀ t ∈ ts, t.wf
theorem Ts.keep {w w' : World} {v : Value} {ts : List Tk} {S : List Nat} (h : Ts w v ts) (k : Keep S w w') (hb : ∀ b, v.ownBlock = some b → b ∉ S) : Ts w' v ts := by
  obtain ⟨a, cap, rfl, h1, h2, h3, h4, h5⟩ := h
  refine ⟨a, cap, rfl, h1, h2, h3, fun x hx j hj => ?_, h5⟩
  have hs := h4 x hx j hj
  obtain ⟨u, hu⟩ : ∃ u, (tcells ts)[j]? = some u := ⟨_, List.getElem?_eq_getElem (by rw [tcells_len]; exact hj)⟩
  rw [hu] at hs ⊢
  refine k.cell hs ?_
  subst hx
  have : (x.add j).block = x.block := by unfold Addr.add; split <;> rfl
  rw [this]; exact hb _ rfl
theorem Ts.drewN {w : World} {v : Value} {ts : List Tk} (h : Ts w v ts) (n : Nat) : Ts (w.drewN n) v ts := h.keep ((Keep.refl [] w).drewN _) (by simp)
theorem Ts.sh {w : World} {v : Value} {ts : List Tk} (h : Ts w v ts) : ∃ a cap, v = .slice a ts.length cap ∧ ts.length ≤ 9223372036854775807 := by
  obtain ⟨a, cap, rfl, h1, h2, _⟩ := h
  unfold maxLen at h2
  exact ⟨a, cap, rfl, by omega⟩
theorem Ts.at {w : World} {v : Value} {ts : List Tk} (h : Ts w v ts) (i : Nat) (hi : i < ts.length) : ∃ b off cap, v = .slice (some ⟨b, off, none⟩) ts.length cap ∧ w.cell? ⟨b, off + i * 3, none⟩ = some (.int .u8 (ts[i]).lit.toNat) ∧ w.cell? ⟨b, off + i * 3 + 1, none⟩ = some (.int .i64 (ts[i]).dist) ∧ w.cell? ⟨b, off + i * 3 + 2, none⟩ = some (.int .i64 (ts[i]).len) := by
  obtain ⟨a, cap, rfl, h1, h2, h3, h4, h5⟩ := h
  cases a with
  | none => have := h3 rfl; omega
  | some x =>
    obtain ⟨b, off, spot⟩ := x
    obtain ⟨g1, g2, g3⟩ := tcells_get ts i hi
    have c1 := h4 _ rfl (i * 3) (by omega)
    have c2 := h4 _ rfl (i * 3 + 1) (by omega)
    have c3 := h4 _ rfl (i * 3 + 2) (by omega)
    rw [g1] at c1; rw [g2] at c2; rw [g3] at c3
    have hspot : spot = none := by
      have c0 := h4 _ rfl 0 (by omega)
      have g0 := (tcells_get ts 0 (by omega)).1
      rw [Nat.zero_mul] at g0
      rw [g0] at c0
      simpa [Addr.add] using World.cell?_spot c0
    subst hspot
    have e : ∀ m, (⟨b, off, none⟩ : Addr).add m = ⟨b, off + m, none⟩ := fun m => by cases m <;> simp [Addr.add]
    rw [e] at c1 c2 c3
    exact ⟨b, off, cap, rfl, c1, by rw [Nat.add_assoc]; exact c2, by rw [Nat.add_assoc]; exact c3⟩
theorem Ts.wf {w : World} {v : Value} {ts : List Tk} (h : Ts w v ts) : ∀ t ∈ ts, t.wf := by
  obtain ⟨_, _, _, _, _, _, _, h5⟩ := h; exact h5
/-- v is a slice of tokens of the call's own -/
def OwnT (w : World) (v : Value) (ts : List Tk) : Prop := w.ownsRow 0 42 3 v ts.length (tcells ts) ∧ ∀ t ∈ ts, t.wf
theorem OwnT.nil (w : World) : OwnT w (.slice none 0 0) [] := ⟨World.ownsRow_nil w 0 _ 3, by simp⟩
theorem OwnT.keep {w w' : World} {v : Value} {ts : List Tk} {S : List Nat} (h : OwnT w v ts) (k : Keep S w w') (hb : ∀ b, v.ownBlock = some b → b ∉ S) : OwnT w' v ts := by
  refine ⟨⟨h.1.1, ?_⟩, h.2⟩
  rcases h.1.2 with h2 | ⟨g, cap, cur, rfl, hb0, hh, r⟩
  · exact .inl h2
  · exact .inr ⟨g, cap, cur, rfl, hb0, (k.block g (lt_of_block hh) (hb g rfl)).trans hh, r⟩
theorem OwnT.lt {w : World} {v : Value} {ts : List Tk} (h : OwnT w v ts) : ∀ b, v.ownBlock = some b → b < w.heap.size := fun b hb => (World.ownsRow.lt h.1 b hb).2
theorem OwnT.ts {w : World} {v : Value} {ts : List Tk} (h : OwnT w v ts) : Ts w v ts := by
  obtain ⟨h, hz⟩ := h
  rcases h.2 with ⟨rfl, hn⟩ | ⟨g, cap, cur, rfl, _, hh, hc, hm, hs, ht⟩
  · obtain rfl : ts = [] := List.eq_nil_of_length_eq_zero hn
    exact ⟨none, 0, rfl, by simp, by simp, fun _ => rfl, (fun x hx => nomatch hx), by simp⟩
  · refine ⟨some ⟨g, 0, none⟩, cap, rfl, hc, hm, (fun h => nomatch h), fun x hx j hj => ?_, hz⟩
    obtain rfl : (⟨g, 0, none⟩ : Addr) = x := by simpa using hx
    have e : (⟨g, 0, none⟩ : Addr).add j = ⟨g, j, none⟩ := by cases j <;> simp [Addr.add]
    rw [e, cell_of_row w g j cur _ (0, 0) hh, ← ht, List.getElem?_take, if_pos (by omega)]
    simp
theorem OwnT.blk {w : World} {v : Value} {ts : List Tk} (h : OwnT w v ts) (hn : v ≠ .slice none 0 0) : ∃ g c, v = .slice (some ⟨g, 0, none⟩) ts.length c := by
  rcases h.1.2 with ⟨h', _⟩ | ⟨g', cap', cur, h', _⟩
  · exact absurd h' hn
  · exact ⟨g', cap', h'⟩
theorem OwnT.free {w : World} {g n cap : Nat} {ts : List Tk} (h : OwnT w (.slice (some ⟨g, 0, none⟩) n cap) ts) (j : Nat) : w.frozen? ⟨g, j, none⟩ = false := by
  have hn : n = ts.length := by
    obtain ⟨_, _, e, _⟩ := h.ts
    simp only [Value.slice.injEq] at e; exact e.2.1
  subst hn
  exact h.1.frozenAt j
theorem tcells_set (ts : List Tk) (i : Nat) (h : i < ts.length) (n : Int) : tcells (ts.set i { ts[i] with len := n }) = (tcells ts).set (i * 3 + 2) (.int .i64 n) := by
  induction ts generalizing i with
  | nil => simp at h
  | cons t ts ih =>
    cases i with
    | zero => rfl
    | succ i =>
      have e1 : tcells (t :: ts) = t.cells ++ tcells ts := rfl
      have hl : t.cells.length = 3 := rfl
      rw [e1, List.set_append_right _ _ (by omega), hl, show (i + 1) * 3 + 2 - 3 = i * 3 + 2 by omega, ← ih i (by simpa using h)]
      rfl
/-- another length for a token -/
theorem OwnT.setLen {w : World} {g n cap : Nat} {ts : List Tk} (h : OwnT w (.slice (some ⟨g, 0, none⟩) n cap) ts) (i : Nat) (hi : i < ts.length) (x : Int) (hx : (Lit.int .i64 x).wf = true) : OwnT (w.setCell ⟨g, i * 3 + 2, none⟩ (.int .i64 x)) (.slice (some ⟨g, 0, none⟩) n cap) (ts.set i { ts[i] with len := x }) := by
  have hn : n = ts.length := by
    obtain ⟨_, _, e, _⟩ := h.ts
    simp only [Value.slice.injEq] at e; exact e.2.1
  subst hn
  refine ⟨?_, fun t ht => ?_⟩
  · rw [List.length_set, tcells_set ts i hi x]
    exact (h.1.stored (i * 3 + 2) (.int .i64 x)).1
  · rcases List.mem_or_eq_of_mem_set ht with h1 | h1
    · exact h.2 t h1
    · subst h1; exact ⟨(h.2 _ (List.getElem_mem hi)).1, hx⟩
theorem infoT : (Tryz.prog.info? 42).map (fun i => (i.zero.map (·.cells.size), i.size, i.bytes)) = some (some 3, 3, 24) := by kernel_rfl
/-- append of tokens -/
theorem wpList_appendT {w : World} {ops : Array Oper} {rest : List Oper} {o : Oper} {a : Act} {Q : Exit → Act → World → Prop} (s x : Operand) (hgd : o.guard = none)
    (ho : o.op = .call { callee := .builtin .append, args := #[s, x], argTypes := #[26, 26] })
    (v : Value) (ts : List Tk) (hs : a.eval s = v) (hown : OwnT w v ts) (g : Nat) (t : Tk) (hx : a.eval x = .slice (some ⟨g, 0, none⟩) 1 1) (hsrc : Blk w g t.cells.toArray 42) (hwf : t.wf) (hlen : ts.length ≤ 1000000)
    (h : ∀ v' w', OwnT w' v' (ts ++ [t]) → Keep v.ownBlock.toList w w' → (∀ b, v'.ownBlock = some b → v.ownBlock = some b ∨ b = w.heap.size) → v' ≠ .slice none 0 0 → wpList Tryz.prog ops Q rest (a.put o.dst v') w') : wpList Tryz.prog ops Q (o :: rest) a w := by
  obtain ⟨i0, hi, hzz⟩ := Option.map_eq_some_iff.1 infoT
  simp only [Prod.mk.injEq] at hzz
  obtain ⟨hz, hz1, hz2⟩ := hzz
  obtain ⟨z, hz, hzc⟩ := Option.map_eq_some_iff.1 hz
  have hS : Src w 3 (.slice (some ⟨g, 0, none⟩) 1 1) 1 t.cells := by
    refine ⟨rfl, by simp [Tk.cells, Value.oneCell'], .inr ⟨⟨g, 0, none⟩, 1, rfl, fun j u hu => ?_⟩⟩
    have e : ∀ m, ((⟨g, 0, none⟩ : Addr).add m) = ⟨g, m, none⟩ := fun m => by cases m <;> simp [Addr.add]
    rw [e]
    exact hsrc.cell j u (by simpa using hu)
  refine wpList_append_any hgd s x 26 ho 42 i0 z 3 24 Tryz.underlying26 hi hz hz1 hz2 hzc (by decide) v ts.length (tcells ts) hs hown.1 _ 1 t.cells hx hS (by unfold maxLen; omega) (by omega) ?_
  intro v' w' h1 h2 h3 h4
  have hO : OwnT w' v' (ts ++ [t]) := by
    refine ⟨by rw [List.length_append, tcells_append, show tcells [t] = t.cells from by simp [tcells]]; exact h1, fun y hy => ?_⟩
    rcases List.mem_append.1 hy with h5 | h5
    · exact hown.2 y h5
    · obtain rfl : y = t := by simpa using h5
      exact hwf
  refine h v' w' hO h2 h3 (fun e => ?_)
  obtain ⟨a', cap, e2, _⟩ := hO.ts.sh
  rw [e2] at e
  simp only [Value.slice.injEq] at e
  have := e.2.1
  simp at this
section
variable {H : Type} {enc : TypeId × Value → H} {W : World} {base base0 : Nat} {spare : Nat → Bool} {held : Bool} {v : Value} {d : DataW H} {p : List MemPlace}
theorem open_tks (hv : Value.okWide Tryz.prog W .any base0 26 v) (h : DataW.Trod enc Tryz.prog W base spare held 26 v d p) : ∃ ts, Ts W v ts := by
  obtain ⟨n, C, ⟨a, cap, rfl, h1, h2, h3, h4⟩, hf⟩ := open_sts Tryz.underlying26 Tryz.underlying42 (by kernel_rfl) (by kernel_rfl) hv h
  have key : ∀ i, ∃ t : Tk, i < n → t.wf ∧ C i 0 = .int .u8 t.lit.toNat ∧ C i 1 = .int .i64 t.dist ∧ C i 2 = .int .i64 t.len := fun i => by
    by_cases hi : i < n
    · obtain ⟨_, _, f0⟩ := hf i hi 0 _ rfl
      obtain ⟨_, _, f1⟩ := hf i hi 1 _ rfl
      obtain ⟨_, _, f2⟩ := hf i hi 2 _ rfl
      obtain ⟨z0, e0, w0⟩ := int_of_trod Tryz.underlying5 f0
      obtain ⟨z1, e1, w1⟩ := int_of_trod Tryz.underlying3 f1
      obtain ⟨z2, e2, w2⟩ := int_of_trod Tryz.underlying3 f2
      exact ⟨⟨UInt8.ofNat z0.toNat, z1, z2⟩, fun _ => ⟨⟨w1, w2⟩, by rw [e0, u8_of_wf w0], e1, e2⟩⟩
    · exact ⟨default, fun h => absurd h hi⟩
  obtain ⟨f, hF⟩ : ∃ f : Nat → Tk, ∀ i, i < n → (f i).wf ∧ C i 0 = .int .u8 (f i).lit.toNat ∧ C i 1 = .int .i64 (f i).dist ∧ C i 2 = .int .i64 (f i).len := ⟨fun i => Classical.choose (key i), fun i => Classical.choose_spec (key i)⟩
  refine ⟨(List.range n).map f, a, cap, by simp, by simpa using h1, h2, h3, fun x hx j hj => ?_, fun t ht => ?_⟩
  · have hj' : j < n * 3 := by simpa using hj
    obtain ⟨i, m, hi, hm, rfl⟩ : ∃ i m, i < n ∧ m < 3 ∧ j = i * 3 + m := ⟨j / 3, j % 3, by omega, by omega, by omega⟩
    have hil : i < ((List.range n).map f).length := by simpa using hi
    obtain ⟨g1, g2, g3⟩ := tcells_get _ i hil
    obtain ⟨_, s1, s2, s3⟩ := hF i hi
    simp only [List.getElem_map, List.getElem_range] at g1 g2 g3
    have hc := h4 x hx i hi m hm
    change W.cell? (x.add (i * 3 + m)) = _ at hc
    rw [hc]
    obtain rfl | rfl | rfl : m = 0 ∨ m = 1 ∨ m = 2 := by omega
    · rw [Nat.add_zero, g1, s1]
    · rw [g2, s2]
    · rw [g3, s3]
  · simp only [List.mem_map, List.mem_range] at ht
    obtain ⟨i, hi, rfl⟩ := ht
    exact (hF i hi).1
end
end Go.Proofs.YthmojejiaeninaaGreat
namespace Go.Proofs.YthmojejiaeninaaGreat
set_option linter.unusedVariables false
set_option linter.unusedSimpArgs false

/-- one token told -/
def HS.tk (s : HS) (t : Tk) : Nat × HS := if t.len = 0 then s.lit t.lit else s.copy t.dist t.len
/-- tokens told, one by one, up to the first error -/
def tellT : HS → List Tk → Nat × HS
  | s, [] => (0, s)
  | s, t :: ts => if (s.tk t).1 = 0 then tellT (s.tk t).2 ts else s.tk t
theorem tellT_append (s : HS) (a b : List Tk) : tellT s (a ++ b) = if (tellT s a).1 = 0 then tellT (tellT s a).2 b else tellT s a := by
  induction a generalizing s with
  | nil => simp [tellT]
  | cons t a ih =>
    rw [List.cons_append, tellT, tellT]
    by_cases h : (s.tk t).1 = 0
    · rw [if_pos h, if_pos h, ih]
    · rw [if_neg h, if_neg h, if_neg h]
/-- which windows may not be -/
def winBad (win most : Int) : Prop := win < 1 ∨ 65536 < win ∨ most < 0
instance (win most : Int) : Decidable (winBad win most) := by unfold winBad; infer_instance
/-- the error, and the bytes -/
def expT (ts : List Tk) (win most : Int) (nou : Bool) : Nat × List UInt8 :=
  if winBad win most then (2, []) else if (tellT ⟨win.toNat, most.toNat, nou, []⟩ ts).1 = 0 then (0, (tellT ⟨win.toNat, most.toNat, nou, []⟩ ts).2.b) else ((tellT ⟨win.toNat, most.toNat, nou, []⟩ ts).1, [])
def sz1 (t : Tk) : Nat := if t.len = 0 then 1 else t.len.toNat
def sumT (ts : List Tk) : Nat := (ts.map sz1).sum
def sizeT (ts : List Tk) : Nat := min 4611686018427387904 (sumT ts)
theorem sumT_append (a b : List Tk) : sumT (a ++ b) = sumT a + sumT b := by simp [sumT]
theorem HS.tk_ok {s : HS} {t : Tk} (h : (s.tk t).1 = 0) : (s.tk t).2.b.length = s.b.length + sz1 t ∧ (s.tk t).2.win = s.win ∧ (s.tk t).2.most = s.most ∧ (s.tk t).2.nou = s.nou := by
  unfold HS.tk sz1 at *
  by_cases h0 : t.len = 0
  · rw [if_pos h0] at h ⊢
    rw [if_pos h0]
    unfold HS.lit at *
    by_cases h1 : s.most ≤ s.b.length
    · rw [if_pos h1] at h; simp at h
    · rw [if_neg h1]; simp
  · rw [if_neg h0] at h ⊢
    rw [if_neg h0]
    unfold HS.copy at *
    by_cases h1 : t.dist < 1 ∨ t.len < 0
    · rw [if_pos h1] at h; simp at h
    rw [if_neg h1] at h ⊢
    by_cases h2 : (s.win : Int) < t.dist ∨ ((s.b.length : Int) < t.dist ∧ s.nou = false)
    · rw [if_pos h2] at h; simp at h
    rw [if_neg h2] at h ⊢
    by_cases h3 : (s.most : Int) - s.b.length < t.len
    · rw [if_pos h3] at h; simp at h
    rw [if_neg h3]
    exact ⟨cpy_len _ _ _, rfl, rfl, rfl⟩
theorem tellT_size {s : HS} {ts : List Tk} (h : (tellT s ts).1 = 0) : (tellT s ts).2.b.length = s.b.length + sumT ts := by
  induction ts generalizing s with
  | nil => simp [tellT, sumT]
  | cons t ts ih =>
    rw [tellT] at h ⊢
    by_cases h1 : (s.tk t).1 = 0
    · rw [if_pos h1] at h ⊢
      rw [ih h, (HS.tk_ok h1).1]
      simp [sumT]; omega
    · rw [if_neg h1] at h; exact absurd h h1
/-- with less room: the same, or it is no room -/
theorem HS.tk_less {s : HS} {t : Tk} (h : (s.tk t).1 = 0) (m : Nat) (hm : s.b.length ≤ m) :
    (s.b.length + sz1 t ≤ m → ({ s with most := m } : HS).tk t = (0, { (s.tk t).2 with most := m })) ∧ (m < s.b.length + sz1 t → (({ s with most := m } : HS).tk t).1 = 9) := by
  unfold HS.tk sz1 at *
  by_cases h0 : t.len = 0
  · rw [if_pos h0] at h ⊢
    rw [if_pos h0, if_pos h0]
    unfold HS.lit at *
    by_cases h1 : s.most ≤ s.b.length
    · rw [if_pos h1] at h; simp at h
    · rw [if_neg h1]
      refine ⟨fun h2 => ?_, fun h2 => ?_⟩
      · rw [if_neg (by dsimp only; omega)]
      · rw [if_pos (by dsimp only; omega)]
  · rw [if_neg h0] at h ⊢
    rw [if_neg h0, if_neg h0]
    unfold HS.copy at *
    by_cases h1 : t.dist < 1 ∨ t.len < 0
    · rw [if_pos h1] at h; simp at h
    rw [if_neg h1] at h ⊢
    by_cases h2 : (s.win : Int) < t.dist ∨ ((s.b.length : Int) < t.dist ∧ s.nou = false)
    · rw [if_pos h2] at h; simp at h
    rw [if_neg h2] at h ⊢
    by_cases h3 : (s.most : Int) - s.b.length < t.len
    · rw [if_pos h3] at h; simp at h
    rw [if_neg h3]
    refine ⟨fun h4 => ?_, fun h4 => ?_⟩
    · rw [if_neg h1, if_neg h2, if_neg (by dsimp only; omega)]
    · first | rw [if_neg h1, if_neg h2, if_pos (by dsimp only; omega)] | rw [if_pos (by dsimp only; omega)]
theorem tellT_less {s : HS} {ts : List Tk} (h : (tellT s ts).1 = 0) (m : Nat) (hm : s.b.length ≤ m) (hlt : m < s.b.length + sumT ts) : (tellT { s with most := m } ts).1 = 9 := by
  induction ts generalizing s with
  | nil => simp [sumT] at hlt; omega
  | cons t ts ih =>
    rw [tellT] at h ⊢
    by_cases h1 : (s.tk t).1 = 0
    · rw [if_pos h1] at h
      obtain ⟨g1, g2⟩ := HS.tk_less h1 m hm
      have hs : sumT (t :: ts) = sz1 t + sumT ts := by simp [sumT]
      by_cases h2 : s.b.length + sz1 t ≤ m
      · rw [g1 h2, if_pos rfl]
        have hk := (HS.tk_ok h1).1
        exact ih h (by omega) (by omega)
      · have h9 := g2 (by omega)
        rw [if_neg (by omega)]; exact h9
    · rw [if_neg h1] at h; exact absurd h h1
/-- the tokens that the first k bytes' runs are -/
def rn (b : List UInt8) : Nat → List Tk
  | 0 => []
  | k + 1 => if k = 0 ∨ b.getD k 0 ≠ b.getD (k - 1) 0 then rn b k ++ [⟨b.getD k 0, 0, 0⟩]
    else if ((rn b k).getLast?.getD default).len = 0 ∨ ((rn b k).getLast?.getD default).len = 258 then rn b k ++ [⟨0, 1, 1⟩]
    else (rn b k).set ((rn b k).length - 1) { (rn b k).getLast?.getD default with len := ((rn b k).getLast?.getD default).len + 1 }
def runs (b : List UInt8) : List Tk := rn b b.length
theorem set_last (l : List Tk) (t x : Tk) : (l ++ [t]).set ((l ++ [t]).length - 1) x = l ++ [x] := by
  rw [List.length_append, List.set_append_right _ _ (by simp)]; simp
theorem take_snoc (b : List UInt8) (k : Nat) (hk : k < b.length) : b.take (k + 1) = b.take k ++ [b.getD k 0] := by
  rw [List.take_succ_eq_append_getElem hk]; simp [hk]
/-- what is known of the runs of the first k bytes -/
structure Rn (b : List UInt8) (k : Nat) : Prop where
  tell : ∀ n, k ≤ n → tellT ⟨1, n, false, []⟩ (rn b k) = (0, ⟨1, n, false, b.take k⟩)
  sum : sumT (rn b k) = k
  len : (rn b k).length ≤ k
  last : k = 0 ∨ ∃ l t, rn b k = l ++ [t] ∧ (t.len = 0 ∨ (t.dist = 1 ∧ 1 ≤ t.len ∧ t.len ≤ 258))
theorem rn_all (b : List UInt8) (k : Nat) (hk : k ≤ b.length) : Rn b k := by
  induction k with
  | zero => exact ⟨fun n _ => by simp [rn, tellT], rfl, Nat.le_refl _, .inl rfl⟩
  | succ k ih =>
    have h := ih (by omega)
    have hts := take_snoc b k (by omega)
    have hlk : (b.take k).length = k := by rw [List.length_take]; omega
    by_cases h1 : k = 0 ∨ b.getD k 0 ≠ b.getD (k - 1) 0
    · have e : rn b (k + 1) = rn b k ++ [⟨b.getD k 0, 0, 0⟩] := by rw [rn, if_pos h1]
      refine ⟨fun n hn => ?_, ?_, ?_, .inr ⟨rn b k, _, e, .inl rfl⟩⟩
      · rw [e, tellT_append, h.tell n (by omega)]
        simp only [if_true]
        rw [tellT]
        have : (⟨1, n, false, b.take k⟩ : HS).tk ⟨b.getD k 0, 0, 0⟩ = (0, ⟨1, n, false, b.take (k + 1)⟩) := by
          unfold HS.tk HS.lit
          rw [if_pos rfl, if_neg (by simp only [hlk]; omega), hts]
        rw [this]; simp [tellT]
      · rw [e, sumT_append, h.sum]; rfl
      · rw [e, List.length_append]; have := h.len; simp; omega
    · have hk0 : k ≠ 0 := fun e => h1 (.inl e)
      have hbe : b.getD k 0 = b.getD (k - 1) 0 := Decidable.byContradiction fun e => h1 (.inr e)
      obtain ⟨l, t, hlt, ht⟩ : ∃ l t, rn b k = l ++ [t] ∧ (t.len = 0 ∨ (t.dist = 1 ∧ 1 ≤ t.len ∧ t.len ≤ 258)) := by
        rcases h.last with h2 | h2
        · exact absurd h2 hk0
        · exact h2
      have hlast : (rn b k).getLast?.getD default = t := by rw [hlt]; simp
      have hback : back1 (b.take k) 1 = b.getD k 0 := by
        unfold back1
        rw [if_pos (by omega), hlk, hbe]
        simp only [List.getD_eq_getElem?_getD]
        rw [List.getElem?_take_of_lt (by omega)]
      by_cases h2 : t.len = 0 ∨ t.len = 258
      · have e : rn b (k + 1) = rn b k ++ [⟨0, 1, 1⟩] := by rw [rn, if_neg h1, hlast, if_pos h2]
        refine ⟨fun n hn => ?_, ?_, ?_, .inr ⟨rn b k, _, e, .inr ⟨rfl, by decide, by decide⟩⟩⟩
        · rw [e, tellT_append, h.tell n (by omega)]
          simp only [if_true]
          rw [tellT]
          have : (⟨1, n, false, b.take k⟩ : HS).tk ⟨0, 1, 1⟩ = (0, ⟨1, n, false, b.take (k + 1)⟩) := by
            unfold HS.tk HS.copy
            rw [if_neg (by decide), if_neg (by decide), if_neg (by simp only [hlk]; omega), if_neg (by simp only [hlk]; omega)]
            show (0, (⟨1, n, false, cpy (b.take k) 1 1⟩ : HS)) = _
            rw [cpy, cpy, hback, hts]
          rw [this]; simp [tellT]
        · rw [e, sumT_append, h.sum]; rfl
        · rw [e, List.length_append]; have := h.len; simp; omega
      · have ht2 : t.dist = 1 ∧ 1 ≤ t.len ∧ t.len ≤ 258 := by
          rcases ht with h3 | h3
          · exact absurd (.inl h3) h2
          · exact h3
        have e : rn b (k + 1) = l ++ [{ t with len := t.len + 1 }] := by rw [rn, if_neg h1, hlast, if_neg h2, hlt, set_last]
        refine ⟨fun n hn => ?_, ?_, ?_, .inr ⟨l, _, e, .inr ⟨ht2.1, by show 1 ≤ t.len + 1; omega, by show t.len + 1 ≤ 258; omega⟩⟩⟩
        · have hT := h.tell n (by omega)
          rw [hlt, tellT_append] at hT
          rw [e, tellT_append]
          by_cases h4 : (tellT ⟨1, n, false, []⟩ l).1 = 0
          · rw [if_pos h4] at hT ⊢
            have hz := tellT_size h4
            generalize (tellT ⟨1, n, false, []⟩ l).2 = s1 at hT hz ⊢
            rw [tellT] at hT ⊢
            by_cases h5 : (s1.tk t).1 = 0
            · rw [if_pos h5] at hT
              simp only [tellT, Prod.mk.injEq, true_and] at hT
              have hk5 := HS.tk_ok h5
              rw [hT] at hk5
              obtain ⟨q1, q2, q3, q4⟩ := hk5
              have hs1 : sz1 t = t.len.toNat := by unfold sz1; rw [if_neg (by omega)]
              simp only [hlk] at q1
              have hcp : cpy s1.b 1 t.len.toNat = b.take k := by
                have h6 := hT
                unfold HS.tk HS.copy at h6
                rw [if_neg (by omega), ht2.1] at h6
                unfold HS.tk HS.copy at h5
                rw [if_neg (by omega), ht2.1] at h5
                by_cases g1 : (1 : Int) < 1 ∨ t.len < 0
                · omega
                rw [if_neg g1] at h5 h6
                by_cases g2 : (s1.win : Int) < 1 ∨ ((s1.b.length : Int) < 1 ∧ s1.nou = false)
                · rw [if_pos g2] at h5; simp at h5
                rw [if_neg g2] at h5 h6
                by_cases g3 : (s1.most : Int) - s1.b.length < t.len
                · rw [if_pos g3] at h5; simp at h5
                rw [if_neg g3] at h6
                exact congrArg HS.b h6
              have hnd : ¬ ((s1.b.length : Int) < 1 ∧ s1.nou = false) := by
                intro g
                unfold HS.tk HS.copy at h5
                rw [if_neg (by omega), ht2.1, if_neg (by omega), if_pos (.inr g)] at h5
                simp at h5
              have hfin : s1.tk { t with len := t.len + 1 } = (0, ⟨1, n, false, b.take (k + 1)⟩) := by
                unfold HS.tk HS.copy
                show (if t.len + 1 = 0 then _ else if t.dist < 1 ∨ t.len + 1 < 0 then _ else if (s1.win : Int) < t.dist ∨ _ then _ else if (s1.most : Int) - s1.b.length < t.len + 1 then _ else (0, { s1 with b := cpy s1.b t.dist.toNat (t.len + 1).toNat })) = _
                rw [if_neg (by omega), ht2.1, if_neg (by omega), if_neg (by
                  intro g
                  rcases g with g | g
                  · rw [← q2] at g; simp at g
                  · exact hnd g), if_neg (by rw [← q3]; simp only; omega)]
                rw [show (t.len + 1).toNat = t.len.toNat + 1 by omega, show (1 : Int).toNat = 1 from rfl, cpy, hcp, hback, ← hts]
                cases s1
                simp only at q2 q3 q4
                subst q2 q3 q4
                rfl
              rw [hfin]; simp [tellT]
            · rw [if_neg h5] at hT
              rw [hT] at h5; simp at h5
          · rw [if_neg h4] at hT
            rw [hT] at h4; simp at h4
        · have h5 := h.sum
          rw [hlt, sumT_append] at h5
          rw [e, sumT_append]
          have e1 : sumT [t] = t.len.toNat := by simp [sumT, sz1]; omega
          have e2 : sumT [{ t with len := t.len + 1 }] = (t.len + 1).toNat := by simp [sumT, sz1]; omega
          rw [e1] at h5; rw [e2]; omega
        · have h5 := h.len
          rw [hlt] at h5
          rw [e]; simp at h5 ⊢; omega
theorem runs_exp (b : List UInt8) (hb : b.length ≤ 65536000) : expT (runs b) 1 b.length false = (0, b) := by
  have h := (rn_all b b.length (Nat.le_refl _)).tell b.length (Nat.le_refl _)
  unfold expT runs
  rw [if_neg (by unfold winBad; omega)]
  show (if (tellT ⟨1, b.length, false, []⟩ (rn b b.length)).1 = 0 then _ else _) = _
  rw [if_pos (by rw [h])]
  show (0, (tellT ⟨1, b.length, false, []⟩ (rn b b.length)).2.b) = _
  rw [h, List.take_length]
theorem runs_size (b : List UInt8) (hb : b.length ≤ 65536000) : sizeT (runs b) = b.length := by
  unfold sizeT runs
  rw [(rn_all b b.length (Nat.le_refl _)).sum]; omega
end Go.Proofs.YthmojejiaeninaaGreat
namespace Go.Proofs.YthmojejiaeninaaGreat
set_option linter.unusedVariables false
set_option linter.unusedSimpArgs false
open Go.ChangeShapes Go.WideShapes Go.ChangeAt Go.RowKit

theorem Is.drewN' {k : IntKind} {w : World} {v : Value} {zs : List Int} (h : Is k w v zs) (n : Nat) : Is k (w.drewN n) v zs := h.keep ((Keep.refl [] w).drewN _) (by simp)
/-- a list's numbers, by place -/
def fn (zs : List Int) (i : Nat) : Nat := (zs.getD i 0).toNat
theorem fn_get (zs : List Int) (i : Nat) (h : i < zs.length) : fn zs i = zs[i].toNat := by simp [fn, h]
def okF (zs : List Int) : Bool := zs.all fun z => decide (0 ≤ z) && decide (z ≤ 1099511627776)
theorem okF_iff (zs : List Int) : okF zs = true ↔ ∀ z ∈ zs, 0 ≤ z ∧ z ≤ 1099511627776 := by simp [okF]
theorem okF_get {zs : List Int} (h : okF zs = true) (i : Nat) (hi : i < zs.length) : zs[i] = ((fn zs i : Nat) : Int) ∧ fn zs i ≤ 1099511627776 := by
  have h1 := (okF_iff zs).1 h zs[i] (List.getElem_mem hi)
  rw [fn_get zs i hi]; omega
def mayF (zs : List Int) (most : Int) : Bool := decide (1 ≤ most) && (decide (most ≤ 16) && (decide (zs.length ≤ 4096) && (okF zs && decide (usedN zs.length (fn zs) ≤ 2 ^ most.toNat))))
theorem mayF_iff (zs : List Int) (most : Int) : mayF zs most = true ↔ 1 ≤ most ∧ most ≤ 16 ∧ zs.length ≤ 4096 ∧ okF zs = true ∧ usedN zs.length (fn zs) ≤ 2 ^ most.toNat := by simp [mayF]
theorem used_le (zs : List Int) (k : Nat) : ct (fun i => decide (fn zs i ≠ 0)) k ≤ k := ct_le _ _
theorem used_step (zs : List Int) (k : Nat) (h : k < zs.length) : ct (fun i => decide (fn zs i ≠ 0)) (k + 1) = ct (fun i => decide (fn zs i ≠ 0)) k + if 0 < zs[k] then 1 else 0 := by
  rw [ct_succ, fn_get zs k h]
  by_cases h0 : 0 < zs[k]
  · rw [if_pos h0, if_pos (by simp; omega)]
  · rw [if_neg h0, if_neg (by simp; omega)]
theorem bad_F {zs : List Int} (i : Nat) (hi : i < zs.length) (h : zs[i] < 0 ∨ 1099511627776 < zs[i]) : okF zs = false := by
  rw [Bool.eq_false_iff]
  intro hm
  have := (okF_iff zs).1 hm zs[i] (List.getElem_mem hi)
  omega
def isum (zs ls : List Int) : Nat → Int
  | 0 => 0
  | k + 1 => isum zs ls k + zn zs k * zn ls k
theorem wrap_add2 (a p : Int) : IntKind.i64.wrap (IntKind.i64.wrap a + IntKind.i64.wrap p) = IntKind.i64.wrap (a + p) := by
  simp only [IntKind.wrap_i64]; omega
end Go.Proofs.YthmojejiaeninaaGreat
namespace Go.Proofs.YthmojejiaeninaaGreat
set_option linter.unusedVariables false
set_option linter.unusedSimpArgs false
open Go.ChangeShapes Go.WideShapes Go.ChangeAt Go.RowKit

/-- every symbol that comes has a length from 1 to most -/
def LenOK (zs ls : List Int) (most : Int) (k : Nat) : Prop := ∀ i, i < k → fn zs i ≠ 0 → i < ls.length ∧ 1 ≤ zn ls i ∧ zn ls i ≤ most
def pw (zs ls : List Int) (k : Nat) : Nat := sm (fun i => if fn zs i = 0 then 0 else 2 ^ (16 - fn ls i)) k
theorem pw_all (zs ls : List Int) : pw zs ls zs.length = wsum zs.length (fn zs) (fn ls) 16 := rfl
theorem half_stepL (k z : Nat) (h : k < z) (hz : z ≤ 16) : 2 ^ (16 - k) / 2 = 2 ^ (16 - (k + 1)) := by
  rw [show 16 - k = (16 - (k + 1)) + 1 by omega, Nat.pow_succ]; simp
/-- a number put into a falling row -/
def insD (x : Int) : List Int → List Int
  | [] => [x]
  | y :: ys => if y < x then x :: y :: ys else y :: insD x ys
def fall (zs : List Int) : Nat → List Int
  | 0 => []
  | k + 1 => if zn zs k = 0 then fall zs k else insD (zn zs k) (fall zs k)
theorem insD_length (x : Int) (l : List Int) : (insD x l).length = l.length + 1 := by
  induction l with
  | nil => rfl
  | cons y l ih => rw [insD]; split <;> simp [ih]
theorem fall_length (zs : List Int) (k : Nat) : (fall zs k).length ≤ k := by
  induction k with
  | zero => exact Nat.le_refl _
  | succ k ih => rw [fall]; split
                 · omega
                 · rw [insD_length]; omega
end Go.Proofs.YthmojejiaeninaaGreat
namespace Go.Proofs.YthmojejiaeninaaGreat
set_option linter.unusedVariables false
set_option linter.unusedSimpArgs false
open Go.ChangeShapes Go.WideShapes Go.ChangeAt Go.RowKit

theorem Is.lit1 (w : World) (x : Int) (hx : (Lit.int .i64 x).wf = true) : Is .i64 (w.alloc (.cells #[.int .i64 x] 3)) (.slice (some ⟨w.heap.size, 0, none⟩) 1 1) [x] := by
  refine ⟨some ⟨w.heap.size, 0, none⟩, 1, rfl, by simp, by simp [maxLen], (fun h => nomatch h), fun y hy i hi => ?_, by simpa using hx⟩
  obtain rfl : (⟨w.heap.size, 0, none⟩ : Addr) = y := by simpa using hy
  obtain rfl : i = 0 := by simpa using hi
  exact (Blk.new w #[.int .i64 x] 3).cell 0 _ rfl
theorem ap_step {w0 w w7 : World} {nv nv7 ov : Value} {fl : List Int} (o : Obj) (O : Is .i64 w ov fl) (hd : ∀ b, nv.ownBlock = some b → w0.heap.size ≤ b ∧ ov.ownBlock ≠ some b) (holt : ∀ b, ov.ownBlock = some b → b < w.heap.size) (K : Keep [] w0 w)
    (k7 : Keep nv.ownBlock.toList (w.alloc o) w7) (hp7 : ∀ b, nv7.ownBlock = some b → nv.ownBlock = some b ∨ b = (w.alloc o).heap.size) :
    Is .i64 w7 ov fl ∧ Keep [] w0 w7 ∧ (∀ b, nv7.ownBlock = some b → w0.heap.size ≤ b ∧ ov.ownBlock ≠ some b) ∧ ∀ b, ov.ownBlock = some b → b < w7.heap.size := by
  have hk : Keep nv.ownBlock.toList w w7 := (((Keep.refl [] w).alloc o).nil (S := nv.ownBlock.toList)).trans k7 (fun b hb => .inl hb)
  refine ⟨O.keep hk (fun b hb h => (hd b (by simpa using h)).2 hb), K.trans hk (fun b hb => .inr (hd b (by simpa using hb)).1), fun b hb => ?_, fun b hb => Nat.lt_of_lt_of_le (holt b hb) hk.size⟩
  rcases hp7 b hb with h | h
  · exact hd b h
  · subst h
    refine ⟨?_, fun h' => ?_⟩
    · have := K.size; simp; omega
    · have := holt _ h'; simp at this; omega
theorem insD_mid (x y : Int) (nx l rest : List Int) (h : nx ++ insD x (y :: rest) = l) : (y < x → (nx ++ [x] ++ [y]) ++ rest = l) ∧ (¬ y < x → (nx ++ [y]) ++ insD x rest = l) := by
  rw [insD] at h
  constructor
  · intro hx; rw [if_pos hx] at h; rw [← h]; simp
  · intro hx; rw [if_neg hx] at h; rw [← h]; simp
end Go.Proofs.YthmojejiaeninaaGreat
namespace Go.Proofs.YthmojejiaeninaaGreat
set_option linter.unusedVariables false
set_option linter.unusedSimpArgs false
open Go.ChangeShapes Go.WideShapes Go.ChangeAt Go.RowKit

theorem sum_bound (g : Nat → Nat) (B n : Nat) (h : ∀ i, i < n → g i ≤ B) : sm g n ≤ B * n := by
  have := sm_le g (fun _ => B) n h
  rwa [sm_const] at this
end Go.Proofs.YthmojejiaeninaaGreat
namespace Go.Proofs.YthmojejiaeninaaGreat
set_option linter.unusedVariables false
set_option linter.unusedSimpArgs false
open Go.ChangeShapes Go.WideShapes Go.ChangeAt Go.RowKit

theorem ints64_get (l : List Int) (j : Nat) (h : j < l.length) : (ints64 l)[j]? = some (.int .i64 (zn l j)) := by simp [ints64, zn, h]
section
variable {w : World} {g n cap : Nat} {l : List Int}
theorem OwnI.sl (h : OwnI w (.slice (some ⟨g, 0, none⟩) n cap) l) : n = l.length ∧ l.length ≤ cap ∧ cap ≤ 9223372036854775807 ∧ g < w.heap.size := by
  have hn : n = l.length := by
    rcases h.1.2 with ⟨h', _⟩ | ⟨g', cap', cur, h', _⟩
    · simp at h'
    · simp only [Value.slice.injEq] at h'; exact h'.2.1
  obtain ⟨a, c, hv, h1, h2, _⟩ := h.is
  simp only [Value.slice.injEq] at hv
  obtain ⟨_, _, rfl⟩ := hv
  unfold maxLen at h2
  exact ⟨hn, h1, by omega, h.lt g rfl⟩
theorem OwnI.cell (h : OwnI w (.slice (some ⟨g, 0, none⟩) n cap) l) (j : Nat) (hj : j < l.length) : w.cell? ⟨g, j, none⟩ = some (.int .i64 (zn l j)) := by
  have hn := h.sl.1
  subst hn
  rw [h.1.cellAt j (by omega), ints64_get l j hj]
theorem OwnI.free (h : OwnI w (.slice (some ⟨g, 0, none⟩) n cap) l) (j : Nat) : w.frozen? ⟨g, j, none⟩ = false := by
  have hn := h.sl.1
  subst hn
  exact h.1.frozenAt j
theorem OwnI.store (h : OwnI w (.slice (some ⟨g, 0, none⟩) n cap) l) (j : Nat) (x : Int) (hx : (Lit.int .i64 x).wf = true) : OwnI (w.setCell ⟨g, j, none⟩ (.int .i64 x)) (.slice (some ⟨g, 0, none⟩) n cap) (l.set j x) := by
  have hn := h.sl.1
  subst hn
  refine ⟨?_, fun z hz => ?_⟩
  · have := (h.1.stored j (.int .i64 x)).1
    rw [List.length_set]
    have e : ints64 (l.set j x) = (ints64 l).set j (.int .i64 x) := by simp [ints64, List.map_set]
    rw [e]; exact this
  · rcases List.mem_or_eq_of_mem_set hz with h1 | h1
    · exact h.2 z h1
    · rw [h1]; exact hx
theorem OwnI.drewN (h : OwnI w (.slice (some ⟨g, 0, none⟩) n cap) l) (m : Nat) : OwnI (w.drewN m) (.slice (some ⟨g, 0, none⟩) n cap) l := h
theorem zn_wf (h : OwnI w (.slice (some ⟨g, 0, none⟩) n cap) l) (j : Nat) : (Lit.int .i64 (zn l j)).wf = true := by
  unfold zn
  by_cases hj : j < l.length
  · rw [List.getD_eq_getElem?_getD, List.getElem?_eq_getElem hj]; exact h.2 _ (List.getElem_mem hj)
  · rw [List.getD_eq_getElem?_getD, List.getElem?_eq_none (by omega)]; decide
/-- a row of n zeros -/
theorem OwnI.made (w : World) (n : Nat) (hn : n ≤ 9223372036854775807) : OwnI (w.alloc (.cells (madeCells #[.int .i64 0] n) 3)) (.slice (some ⟨w.heap.size, 0, none⟩) n n) (List.replicate n 0) := by
  have h := World.ownsRow_lit (base := 0) (e := 3) (size := 1) w (madeCells #[.int .i64 0] n) n (Nat.zero_le _) (by unfold maxLen; omega) (by simp [size_madeCells])
  rw [toList_madeCells_one] at h
  refine ⟨by simpa [ints64] using h, fun z hz => ?_⟩
  rw [(List.mem_replicate.1 hz).2]; decide
theorem OwnI.made0 (w : World) (c : Nat) (hc : c ≤ 9223372036854775807) : OwnI (w.alloc (.cells (madeCells #[.int .i64 0] c) 3)) (.slice (some ⟨w.heap.size, 0, none⟩) 0 c) [] :=
  ⟨World.ownsRow_made w _ c (Nat.zero_le _) (by unfold maxLen; omega) (by simp [size_madeCells]), by simp⟩
theorem run_make_intsC (w : World) (n c : Nat) (hn : n ≤ c) (hc : c ≤ 35184372088832) : (Instr.makeSlice 32 (.int .i64 (n : Int)) (.int .i64 (c : Int))).run Tryz.prog w = .ok (.slice (some ⟨w.heap.size, 0, none⟩) n c) (w.alloc (.cells (madeCells #[.int .i64 0] c) 3)) := by
  obtain ⟨i, hi, hz0, hz1, hz2⟩ := info_parts info64
  have := run_make (P := Tryz.prog) (w := w) 32 3 i (.int .i64 0) Tryz.underlying32 hi hz0 .i64 .i64 n c (by omega) (by omega) (by rw [hz2]; omega) (by omega)
  rw [this, hz1]
  simp [Value.cells]
end
theorem zn_set (l : List Int) (j : Nat) (x : Int) (k : Nat) (hj : j < l.length) : zn (l.set j x) k = if k = j then x else zn l k := by
  unfold zn
  rw [List.getD_eq_getElem?_getD, List.getD_eq_getElem?_getD, List.getElem?_set]
  by_cases h : j = k
  · subst h; simp [hj]
  · rw [if_neg h, if_neg (fun e => h e.symm)]
/-- two numbers exchanged -/
def xch (l : List Int) (i j : Nat) : List Int := (l.set i (zn l j)).set j (zn l i)
theorem xch_len (l : List Int) (i j : Nat) : (xch l i j).length = l.length := by simp [xch]
theorem xch_at (l : List Int) (i j k : Nat) (hi : i < l.length) (hj : j < l.length) : zn (xch l i j) k = if k = j then zn l i else if k = i then zn l j else zn l k := by
  unfold xch
  rw [zn_set _ _ _ _ (by simpa using hj)]
  by_cases h : k = j
  · simp [h]
  · rw [if_neg h, if_neg h, zn_set _ _ _ _ hi]
theorem xch_perm (l : List Int) (i j : Nat) (hi : i < l.length) (hj : j < l.length) : (xch l i j).Perm l := by
  have h := (Array.swap_perm (xs := l.toArray) (i := i) (j := j) (by simpa using hi) (by simpa using hj)).toList
  have e : (l.toArray.swap i j (by simpa using hi) (by simpa using hj)).toList = xch l i j := by
    simp [Array.swap_def, xch, zn, hi, hj]
  rwa [e] at h
/-- from w0 on the row of block g alone has turned; it holds the numbers of z0 in some order, now zs -/
structure SS (w0 : World) (g n cap : Nat) (z0 : List Int) (w : World) (zs : List Int) : Prop where
  own : OwnI w (.slice (some ⟨g, 0, none⟩) n cap) zs
  keep : Keep [g] w0 w
  perm : zs.Perm z0
section
variable {w0 w : World} {g n cap : Nat} {z0 zs : List Int}
theorem SS.len (h : SS w0 g n cap z0 w zs) : zs.length = n := h.own.sl.1.symm
theorem SS.drewN (h : SS w0 g n cap z0 w zs) (m : Nat) : SS w0 g n cap z0 (w.drewN m) zs := ⟨h.own, h.keep.drewN m, h.perm⟩
theorem SS.drew (h : SS w0 g n cap z0 w zs) : SS w0 g n cap z0 w.drew zs := ⟨h.own, h.keep.drew, h.perm⟩
theorem SS.cell (h : SS w0 g n cap z0 w zs) (j : Nat) (hj : j < n) : w.cell? ⟨g, j, none⟩ = some (.int .i64 (zn zs j)) := h.own.cell j (by rw [h.len]; exact hj)
theorem SS.free (h : SS w0 g n cap z0 w zs) (j : Nat) : w.frozen? ⟨g, j, none⟩ = false := h.own.free j
theorem SS.xch (h : SS w0 g n cap z0 w zs) (i j : Nat) (hi : i < n) (hj : j < n) : SS w0 g n cap z0 ((w.setCell ⟨g, i, none⟩ (.int .i64 (zn zs j))).setCell ⟨g, j, none⟩ (.int .i64 (zn zs i))) (xch zs i j) := by
  have hl := h.len
  refine ⟨(h.own.store i _ (zn_wf h.own j)).store j _ (zn_wf h.own i), (h.keep.setCell (.inl (by simp)) _).setCell (.inl (by simp)) _, (xch_perm zs i j (by omega) (by omega)).trans h.perm⟩
/-- behind the first store of an exchange the second place still holds something -/
theorem SS.c2 (h : SS w0 g n cap z0 w zs) (i j : Nat) (hj : j < n) (hij : i ≠ j) (x : Value) : (w.setCell ⟨g, i, none⟩ x).cell? ⟨g, j, none⟩ = some (.int .i64 (zn zs j)) := by
  rw [World.cell?_setCell_other _ _ _ _ (by intro e; simp only [Addr.mk.injEq] at e; omega)]
  exact h.cell j hj
end
end Go.Proofs.YthmojejiaeninaaGreat
namespace Go.Proofs.YthmojejiaeninaaGreat
set_option linter.unusedVariables false
set_option linter.unusedSimpArgs false
open Go.ChangeShapes Go.WideShapes Go.ChangeAt Go.RowKit

/-- the k numbers from a on exchanged with those from b on -/
def swR (A : Nat → Int) (a b k p : Nat) : Int := if a ≤ p ∧ p < a + k then A (p + b - a) else if b ≤ p ∧ p < b + k then A (p + a - b) else A p
theorem swR_zero (A : Nat → Int) (a b p : Nat) : swR A a b 0 p = A p := by
  unfold swR; rw [if_neg (by omega), if_neg (by omega)]
theorem swR_step (l : List Int) (A : Nat → Int) (a b k : Nat) (hab : a + (k + 1) ≤ b) (hb : b + (k + 1) ≤ l.length) (h : ∀ p, zn l p = swR A a b k p) (p : Nat) : zn (xch l (a + k) (b + k)) p = swR A a b (k + 1) p := by
  rw [xch_at l _ _ _ (by omega) (by omega), h, h, h]
  unfold swR
  repeat' split
  all_goals first | omega | (congr 1; omega) | rfl
set_option maxRecDepth 100000 in
set_option maxHeartbeats 4000000 in
theorem swaprange_c {w0 : World} {g n cap : Nat} {z0 : List Int} (cv : Value) (w : World) (zs : List Int) (a b K : Nat) (hab : a + K ≤ b) (hb : b + K ≤ n) (hn : n < 4611686018427387904) (S : SS w0 g n cap z0 w zs) :
    Calls Tryz.prog 135 #[.slice (some ⟨g, 0, none⟩) n cap, .int .i64 a, .int .i64 b, .int .i64 K, cv] w fun e w' => e = .returned (.tuple #[]) ∧ ∃ zs', SS w0 g n cap z0 w' zs' ∧ ∀ p, zn zs' p = swR (zn zs) a b K p := by
  have S0 := Lib.hid S
  clear S
  go_enter Tryz.func135, Tryz.ntmps135
  go_wp2_with fail
  go_loopw [10] (fun i wr => ∃ (k : Nat) (zk : List Int), k ≤ K ∧ i = .int .i64 k ∧ Hid (SS w0 g n cap z0 wr zk) ∧ Hid (∀ p, zn zk p = swR (zn zs) a b k p)) (fun i _ => K - (intOf i).toNat)
  case atStart => exact ⟨0, zs, by omega, rfl, S0.out, fun p => (swR_zero _ _ _ p).symm⟩
  case round =>
    obtain ⟨k, zk, hk, rfl, HS, HE⟩ := hrel
    by_cases hlt : k < K
    · obtain ⟨i1, hi1⟩ : ∃ q, q = a + k := ⟨_, rfl⟩
      obtain ⟨j1, hj1⟩ : ∃ q, q = b + k := ⟨_, rfl⟩
      have ea : ((a : Int) + (k : Int)).toNat = i1 := by omega
      have pa : (0 : Int) ≤ (a : Int) + (k : Int) := by omega
      have ba : (a : Int) + (k : Int) < (n : Int) := by omega
      have ra : IntKind.i64.wrap ((a : Int) + (k : Int)) = (a : Int) + (k : Int) := by rw [IntKind.wrap_i64]; omega
      have eb : ((b : Int) + (k : Int)).toNat = j1 := by omega
      have pb : (0 : Int) ≤ (b : Int) + (k : Int) := by omega
      have bb : (b : Int) + (k : Int) < (n : Int) := by omega
      have rb : IntKind.i64.wrap ((b : Int) + (k : Int)) = (b : Int) + (k : Int) := by rw [IntKind.wrap_i64]; omega
      have c1 := HS.out.cell i1 (by omega)
      have c2 := HS.out.cell j1 (by omega)
      have f1 := HS.out.free i1
      have f2 := HS.out.free j1
      have c3 := HS.out.c2 i1 j1 (by omega) (by omega) (.int .i64 (zn zk j1))
      have HS2 := Lib.hid ((HS.out.xch i1 j1 (by omega) (by omega)).drew)
      have HE2 : Hid (∀ p, zn (xch zk i1 j1) p = swR (zn zs) a b (k + 1) p) := by
        intro p
        rw [hi1, hj1]
        exact swR_step zk _ a b k (by omega) (by rw [HS.out.len]; omega) HE.out p
      generalize zn zk i1 = x at c1 HS2
      generalize zn zk j1 = y at c2 c3 HS2
      generalize xch zk i1 j1 = z1 at HS2 HE2
      clear HS HE hi1 hj1
      go_wp2_with fail
      go_region
      go_wp2_with fail
      go_roundw
      case rel => exact ⟨k + 1, z1, by omega, by go_num, HS2, HE2⟩
      case measure => simp [intOf]; omega
    · obtain rfl : k = K := by omega
      go_wp2_with fail
      go_end0
      exact ⟨rfl, zk, HS.out, HE.out⟩

/-- the numbers of [a, m) and those of [m, b) exchanged, each in their order -/
def rtR (A : Nat → Int) (a m b p : Nat) : Int := if a ≤ p ∧ p < a + (b - m) then A (p + m - a) else if a + (b - m) ≤ p ∧ p < b then A (p + m - b) else A p
theorem rtR_left (A : Nat → Int) (m i j p : Nat) (hi : i ≤ m) (hj : 0 < j) (hij : j < i) : rtR (swR A (m - i) m j) (m - i + j) m (m + j) p = rtR A (m - i) m (m + j) p := by
  unfold rtR swR
  repeat' split
  all_goals first | omega | (congr 1; omega) | rfl
theorem rtR_right (A : Nat → Int) (m i j p : Nat) (hi : i ≤ m) (hi0 : 0 < i) (hij : i < j) : rtR (swR A (m - i) (m + j - i) i) (m - i) m (m + j - i) p = rtR A (m - i) m (m + j) p := by
  unfold rtR swR
  repeat' split
  all_goals first | omega | (congr 1; omega) | rfl
theorem rtR_end (A : Nat → Int) (m i p : Nat) (hi : i ≤ m) : swR A (m - i) m i p = rtR A (m - i) m (m + i) p := by
  unfold rtR swR
  repeat' split
  all_goals first | omega | (congr 1; omega) | rfl
set_option maxRecDepth 100000 in
set_option maxHeartbeats 4000000 in
theorem rotate_c {w0 : World} {g n cap : Nat} {z0 : List Int} (cv : Value) (w : World) (zs : List Int) (a m b : Nat) (ham : a < m) (hmb : m < b) (hb : b ≤ n) (hn : n < 4611686018427387904) (S : SS w0 g n cap z0 w zs) :
    Calls Tryz.prog 133 #[.slice (some ⟨g, 0, none⟩) n cap, .int .i64 a, .int .i64 m, .int .i64 b, cv] w fun e w' => e = .returned (.tuple #[]) ∧ ∃ zs', SS w0 g n cap z0 w' zs' ∧ ∀ p, zn zs' p = rtR (zn zs) a m b p := by
  have S0 := Lib.hid S
  have SW := Lib.hid (fun (w' : World) zs' a b K h1 h2 S => swaprange_c (w0 := w0) (g := g) (n := n) (cap := cap) (z0 := z0) cv w' zs' a b K h1 h2 hn S)
  clear S
  go_enter Tryz.func133, Tryz.ntmps133
  go_wp2_with fail
  go_loopw [10, 11] (fun x y wr => ∃ (i j : Nat) (zk : List Int), 0 < i ∧ 0 < j ∧ i ≤ m ∧ m + j ≤ n ∧ x = .int .i64 i ∧ y = .int .i64 j ∧ Hid (SS w0 g n cap z0 wr zk) ∧ Hid (∀ p, rtR (zn zk) (m - i) m (m + j) p = rtR (zn zs) a m b p)) (fun x y _ => (intOf x).toNat + (intOf y).toNat)
  case atStart => exact ⟨m - a, b - m, zs, by omega, by omega, by omega, by omega, by go_num, by go_num, S0.out, fun p => by rw [show m - (m - a) = a by omega, show m + (b - m) = b by omega]⟩
  case round =>
    obtain ⟨i, j, zk, hi, hj, him, hjn, rfl, rfl, HS, HE⟩ := hrel
    obtain ⟨q, hq⟩ : ∃ q, q = m - i := ⟨_, rfl⟩
    have r1 : IntKind.i64.wrap ((m : Int) - (i : Int)) = (q : Int) := by rw [IntKind.wrap_i64]; omega
    by_cases hij : i = j
    · subst hij
      have HC := Lib.hid (SW.out wr zk q m i (by omega) (by omega) HS.out)
      have HR : Hid (∀ p, swR (zn zk) q m i p = rtR (zn zs) a m b p) := by
        intro p
        rw [hq, rtR_end (zn zk) m i p (by omega), ← HE.out]
      clear HS HE SW S0 hq
      go_wp2_with fail
      refine HC.out.mono ?_; rintro e w2 ⟨rfl, z2, S2, E2⟩
      go_wp2_with fail
      go_end0
      exact ⟨rfl, z2, S2, fun p => by rw [E2, HR.out]⟩
    · by_cases hgt : j < i
      · obtain ⟨d, hd⟩ : ∃ d, d = i - j := ⟨_, rfl⟩
        have r2 : IntKind.i64.wrap ((i : Int) - (j : Int)) = (d : Int) := by rw [IntKind.wrap_i64]; omega
        have HC := Lib.hid (SW.out wr zk q m j (by omega) (by omega) HS.out)
        have HR : Hid (∀ z2, (∀ p, zn z2 p = swR (zn zk) q m j p) → ∀ p, rtR (zn z2) (m - d) m (m + j) p = rtR (zn zs) a m b p) := by
          intro z2 h p
          have h1 := rtR_left (zn zk) m i j p (by omega) (by omega) (by omega)
          rw [show zn z2 = swR (zn zk) q m j from funext h, show m - d = m - i + j by omega, hq, h1, ← HE.out]
        have hd0 : 0 < d := by omega
        have hdm : d ≤ m := by omega
        have hdi : d < i := by omega
        clear HS HE S0 hq hd
        go_wp2_with fail
        refine HC.out.mono ?_; rintro e w2 ⟨rfl, z2, S2, E2⟩
        have HS2 := Lib.hid S2
        have HE2 := Lib.hid (HR.out z2 E2)
        clear S2 E2 HC HR
        go_wp2_with fail
        go_roundw
        case rel => exact ⟨d, j, z2, by omega, by omega, by omega, by omega, rfl, rfl, HS2, HE2⟩
        case measure => simp [intOf]; omega
      · obtain ⟨d, hd⟩ : ∃ d, d = j - i := ⟨_, rfl⟩
        obtain ⟨x, hx⟩ : ∃ x, x = m + j - i := ⟨_, rfl⟩
        have r3 : IntKind.i64.wrap ((m : Int) + (j : Int)) = (m : Int) + (j : Int) := by rw [IntKind.wrap_i64]; omega
        have r4 : IntKind.i64.wrap ((m : Int) + (j : Int) - (i : Int)) = (x : Int) := by rw [IntKind.wrap_i64]; omega
        have r5 : IntKind.i64.wrap ((j : Int) - (i : Int)) = (d : Int) := by rw [IntKind.wrap_i64]; omega
        have HC := Lib.hid (SW.out wr zk q x i (by omega) (by omega) HS.out)
        have HR : Hid (∀ z2, (∀ p, zn z2 p = swR (zn zk) q x i p) → ∀ p, rtR (zn z2) (m - i) m (m + d) p = rtR (zn zs) a m b p) := by
          intro z2 h p
          have h1 := rtR_right (zn zk) m i j p (by omega) (by omega) (by omega)
          rw [show zn z2 = swR (zn zk) q x i from funext h, show m + d = m + j - i by omega, hq, hx, h1, ← HE.out]
        have hd0 : 0 < d := by omega
        have hdm : m + d ≤ n := by omega
        have hdj : d < j := by omega
        clear HS HE S0 hq hd hx
        go_wp2_with fail
        refine HC.out.mono ?_; rintro e w2 ⟨rfl, z2, S2, E2⟩
        have HS2 := Lib.hid S2
        have HE2 := Lib.hid (HR.out z2 E2)
        clear S2 E2 HC HR
        go_wp2_with fail
        go_roundw
        case rel => exact ⟨i, d, z2, by omega, by omega, by omega, by omega, rfl, rfl, HS2, HE2⟩
        case measure => simp [intOf]; omega
end Go.Proofs.YthmojejiaeninaaGreat
namespace Go.Proofs.YthmojejiaeninaaGreat
set_option linter.unusedVariables false
set_option linter.unusedSimpArgs false

/-- a shape -/
structure Sh where
  win : Int
  min : Int
  max : Int
  chain : Int
  lazy : Bool
def Sh.ok (s : Sh) : Prop := 1 ≤ s.win ∧ s.win ≤ 65536 ∧ 2 ≤ s.min ∧ s.min ≤ 3 ∧ s.min ≤ s.max ∧ s.max ≤ 65538 ∧ 0 ≤ s.chain ∧ s.chain ≤ 4096
instance (s : Sh) : Decidable s.ok := by unfold Sh.ok; infer_instance
/-- from n on as far as P holds, m more at most -/
def cntUp (P : Nat → Bool) : Nat → Nat → Nat
  | 0, n => n
  | m + 1, n => if P n then cntUp P m (n + 1) else n
theorem cntUp_le (P : Nat → Bool) (m n : Nat) : n ≤ cntUp P m n ∧ cntUp P m n ≤ n + m := by
  induction m generalizing n with
  | zero => simp [cntUp]
  | succ m ih =>
    rw [cntUp]
    split
    · have := ih (n + 1); omega
    · omega
theorem cntUp_all (P : Nat → Bool) (m n j : Nat) (h1 : n ≤ j) (h2 : j < cntUp P m n) : P j = true := by
  induction m generalizing n with
  | zero => simp [cntUp] at h2; omega
  | succ m ih =>
    rw [cntUp] at h2
    by_cases h : P n = true
    · rw [if_pos h] at h2
      by_cases e : n = j
      · rw [← e]; exact h
      · exact ih (n + 1) (by omega) h2
    · rw [if_neg h] at h2; omega
/-- all that can be is counted -/
theorem cntUp_ge (P : Nat → Bool) (m n k : Nat) (hk : n ≤ k) (hkm : k ≤ n + m) (h : ∀ j, n ≤ j → j < k → P j = true) : k ≤ cntUp P m n := by
  induction m generalizing n with
  | zero => rw [cntUp]; omega
  | succ m ih =>
    rw [cntUp]
    by_cases e : n = k
    · split
      · have := (cntUp_le P m (n + 1)).1; omega
      · omega
    · rw [if_pos (h n (Nat.le_refl _) (by omega))]
      exact ih (n + 1) (by omega) (by omega) (fun j h1 h2 => h j (by omega) h2)
/-- do the bytes n behind f and i stand, and are they the same -/
def sm1 (b : List UInt8) (f i n : Nat) : Bool := decide (i + n < b.length) && (b.getD (f + n) 0 == b.getD (i + n) 0)
/-- how many bytes are the same from f and i on, up to most -/
def sme (b : List UInt8) (f i most : Nat) : Nat := cntUp (sm1 b f i) most 0
/-- what is found at i among the places below k -/
def atF (b : List UInt8) (s : Sh) (i : Nat) : Nat → Nat → Tk → Tk
  | 0, _, best => best
  | k + 1, looked, best =>
    if (i : Int) - k ≤ s.win ∧ (looked : Int) < s.chain then
      if sme b k i s.min.toNat < s.min.toNat then atF b s i k looked best
      else atF b s i k (looked + 1) (if best.len < (sme b k i s.max.toNat : Int) then ⟨0, (i : Int) - k, sme b k i s.max.toNat⟩ else best)
    else best
def atT (b : List UInt8) (s : Sh) (i : Nat) : Tk := atF b s i i 0 ⟨0, 0, 0⟩
def waits (b : List UInt8) (s : Sh) (i : Nat) : Prop := s.lazy = true ∧ (atT b s i).len < s.max ∧ 0 < (atT b s i).len ∧ i + 1 < b.length ∧ (atT b s i).len < (atT b s (i + 1)).len
instance (b : List UInt8) (s : Sh) (i : Nat) : Decidable (waits b s i) := by unfold waits; infer_instance
/-- the token at i -/
def stepT (b : List UInt8) (s : Sh) (i : Nat) : Tk := if (atT b s i).len = 0 ∨ waits b s i then ⟨b.getD i 0, 0, 0⟩ else atT b s i
/-- the tokens from i on, f of them at most -/
def fdF (b : List UInt8) (s : Sh) : Nat → Nat → List Tk
  | 0, _ => []
  | f + 1, i => if i < b.length then stepT b s i :: fdF b s f (i + sz1 (stepT b s i)) else []
def found (b : List UInt8) (s : Sh) : List Tk := fdF b s b.length 0
/-- a copy that is right at i -/
structure Hit (b : List UInt8) (s : Sh) (i : Nat) (t : Tk) : Prop where
  lit : t.lit = 0
  ex : ∃ d n : Nat, t.dist = (d : Int) ∧ t.len = (n : Int) ∧ 1 ≤ d ∧ d ≤ i ∧ (d : Int) ≤ s.win ∧ s.min ≤ (n : Int) ∧ (n : Int) ≤ s.max ∧ i + n ≤ b.length ∧ ∀ j, j < n → b.getD (i - d + j) 0 = b.getD (i + j) 0
theorem sme_hit {b : List UInt8} {s : Sh} (hs : s.ok) {i k : Nat} (hk : k < i) (hw : (i : Int) - k ≤ s.win) (hm : ¬ sme b k i s.min.toNat < s.min.toNat) (hi : i ≤ b.length) : Hit b s i ⟨0, (i : Int) - k, sme b k i s.max.toNat⟩ := by
  obtain ⟨_, _, h3, h4, h5, h6, _⟩ := hs
  have hall := fun j hj => cntUp_all (sm1 b k i) s.max.toNat 0 j (Nat.zero_le _) hj
  have hle := (cntUp_le (sm1 b k i) s.max.toNat 0).2
  have hmin := (cntUp_le (sm1 b k i) s.min.toNat 0).2
  have hmall := fun j hj => cntUp_all (sm1 b k i) s.min.toNat 0 j (Nat.zero_le _) hj
  have hge := cntUp_ge (sm1 b k i) s.max.toNat 0 s.min.toNat (Nat.zero_le _) (by omega) (fun j _ hj => hmall j (by show j < sme b k i s.min.toNat; omega))
  refine ⟨rfl, i - k, sme b k i s.max.toNat, by show (i : Int) - k = _; omega, rfl, by omega, by omega, by omega, ?_, ?_, ?_, fun j hj => ?_⟩
  · have : s.min.toNat ≤ sme b k i s.max.toNat := hge; omega
  · have : sme b k i s.max.toNat ≤ 0 + s.max.toNat := hle; omega
  · rcases Nat.eq_zero_or_pos (sme b k i s.max.toNat) with h0 | h0
    · rw [h0]; exact hi
    · have := hall (sme b k i s.max.toNat - 1) (by show _ < sme b k i s.max.toNat; omega)
      unfold sm1 at this
      simp only [Bool.and_eq_true, decide_eq_true_eq] at this
      omega
  · have := hall j hj
    unfold sm1 at this
    simp only [Bool.and_eq_true, beq_iff_eq] at this
    rw [show i - (i - k) + j = k + j by omega]
    exact this.2
theorem atF_hit {b : List UInt8} {s : Sh} (hs : s.ok) {i : Nat} (hi : i ≤ b.length) (k looked : Nat) (best : Tk) (hk : k ≤ i) (hb : best = ⟨0, 0, 0⟩ ∨ Hit b s i best) : atF b s i k looked best = ⟨0, 0, 0⟩ ∨ Hit b s i (atF b s i k looked best) := by
  induction k generalizing looked best with
  | zero => exact hb
  | succ k ih =>
    rw [atF]
    split
    · next h1 =>
      split
      · exact ih _ _ (by omega) hb
      · next h2 =>
        refine ih _ _ (by omega) ?_
        split
        · exact .inr (sme_hit hs (by omega) h1.1 h2 hi)
        · exact hb
    · exact hb
theorem atT_hit {b : List UInt8} {s : Sh} (hs : s.ok) {i : Nat} (hi : i ≤ b.length) : atT b s i = ⟨0, 0, 0⟩ ∨ Hit b s i (atT b s i) := atF_hit hs hi i 0 _ (Nat.le_refl _) (.inl rfl)
theorem stepT_cases {b : List UInt8} {s : Sh} (hs : s.ok) {i : Nat} (hi : i < b.length) : stepT b s i = ⟨b.getD i 0, 0, 0⟩ ∨ Hit b s i (stepT b s i) := by
  unfold stepT
  split
  · exact .inl rfl
  · next h =>
    rcases atT_hit hs (Nat.le_of_lt hi) with h1 | h1
    · exact absurd (.inl (by rw [h1])) h
    · exact .inr h1
theorem Hit.sz {b : List UInt8} {s : Sh} {i : Nat} {t : Tk} (hs : s.ok) (h : Hit b s i t) : t.len ≠ 0 ∧ 2 ≤ sz1 t ∧ i + sz1 t ≤ b.length := by
  obtain ⟨d, n, h1, h2, h3, h4, h5, h6, h7, h8, h9⟩ := h.ex
  obtain ⟨_, _, g3, _⟩ := hs
  have hz : sz1 t = n := by unfold sz1; rw [if_neg (by omega), h2]; simp
  rw [hz]; omega
theorem stepT_sz {b : List UInt8} {s : Sh} (hs : s.ok) {i : Nat} (hi : i < b.length) : 1 ≤ sz1 (stepT b s i) ∧ i + sz1 (stepT b s i) ≤ b.length := by
  rcases stepT_cases hs hi with h | h
  · rw [h]; exact ⟨Nat.le_refl _, hi⟩
  · have := h.sz hs; omega
/-- a copy of bytes that are the same as those behind -/
theorem cpy_same (b : List UInt8) (i d n : Nat) (hd : 1 ≤ d) (hdi : d ≤ i) (hn : i + n ≤ b.length) (h : ∀ j, j < n → b.getD (i - d + j) 0 = b.getD (i + j) 0) : cpy (b.take i) d n = b.take (i + n) := by
  induction n with
  | zero => rfl
  | succ n ih =>
    have hi := ih (by omega) (fun j hj => h j (by omega))
    rw [cpy, hi, show i + (n + 1) = (i + n) + 1 by omega, take_snoc b (i + n) (by omega)]
    congr 1
    have hl : (b.take (i + n)).length = i + n := by rw [List.length_take]; omega
    unfold back1
    rw [if_pos (by omega), hl, ← h n (by omega)]
    simp only [List.getD_eq_getElem?_getD]
    rw [List.getElem?_take_of_lt (by omega), show i + n - d = i - d + n by omega]
theorem fd_tell {b : List UInt8} {s : Sh} (hs : s.ok) (f i : Nat) (hi : i ≤ b.length) (hf : b.length ≤ i + f) : tellT ⟨s.win.toNat, b.length, false, b.take i⟩ (fdF b s f i) = (0, ⟨s.win.toNat, b.length, false, b⟩) := by
  induction f generalizing i with
  | zero =>
    rw [fdF, tellT, List.take_of_length_le (by omega)]
  | succ f ih =>
    rw [fdF]
    by_cases hlt : i < b.length
    · rw [if_pos hlt, tellT]
      obtain ⟨z1, z2⟩ := stepT_sz hs hlt
      have hl : (b.take i).length = i := by rw [List.length_take]; omega
      have key : (⟨s.win.toNat, b.length, false, b.take i⟩ : HS).tk (stepT b s i) = (0, ⟨s.win.toNat, b.length, false, b.take (i + sz1 (stepT b s i))⟩) := by
        rcases stepT_cases hs hlt with h | h
        · rw [h]
          unfold HS.tk HS.lit
          rw [if_pos rfl, if_neg (by simp only [hl]; omega)]
          show (0, (⟨s.win.toNat, b.length, false, b.take i ++ [b.getD i 0]⟩ : HS)) = _
          rw [← take_snoc b i hlt]; rfl
        · obtain ⟨g1, _, g3⟩ := h.sz hs
          obtain ⟨d, n, h1, h2, h3, h4, h5, h6, h7, h8, h9⟩ := h.ex
          have hz : sz1 (stepT b s i) = n := by unfold sz1; rw [if_neg g1, h2]; simp
          obtain ⟨q1, _⟩ := hs
          unfold HS.tk HS.copy
          rw [if_neg g1, h1, h2, if_neg (by omega), if_neg (by
            intro g
            rcases g with g | g
            · simp only at g; omega
            · have := g.1; simp only [hl] at this; omega), if_neg (by simp only [hl]; omega)]
          show (0, (⟨s.win.toNat, b.length, false, cpy (b.take i) (d : Int).toNat (n : Int).toNat⟩ : HS)) = _
          rw [Int.toNat_natCast, Int.toNat_natCast, cpy_same b i d n h3 h4 h8 h9, hz]
      rw [key]
      simp only [if_true]
      exact ih (i + sz1 (stepT b s i)) z2 (by omega)
    · rw [if_neg hlt, tellT, List.take_of_length_le (by omega)]
theorem found_tell {b : List UInt8} {s : Sh} (hs : s.ok) : expT (found b s) s.win b.length false = (0, b) := by
  have h := fd_tell (b := b) hs b.length 0 (Nat.zero_le _) (by omega)
  unfold expT found
  rw [if_neg (by obtain ⟨h1, h2, _⟩ := hs; unfold winBad; omega)]
  rw [List.take_zero] at h
  rw [Int.toNat_natCast, h]; rfl
theorem found_sum {b : List UInt8} {s : Sh} (hs : s.ok) : sumT (found b s) = b.length := by
  have h := fd_tell (b := b) hs b.length 0 (Nat.zero_le _) (by omega)
  have h2 := tellT_size (s := ⟨s.win.toNat, b.length, false, b.take 0⟩) (ts := found b s) (by unfold found; rw [h])
  unfold found at h2 ⊢
  rw [h] at h2
  simpa using h2.symm
theorem fd_len {b : List UInt8} {s : Sh} (hs : s.ok) (f i : Nat) : (fdF b s f i).length ≤ b.length - i := by
  induction f generalizing i with
  | zero => rw [fdF]; simp
  | succ f ih =>
    rw [fdF]
    split
    · next h =>
      have h1 := ih (i + sz1 (stepT b s i))
      have h2 := (stepT_sz hs h).1
      rw [List.length_cons]; omega
    · simp
/-- are tokens of a shape -/
def fits1 (s : Sh) (t : Tk) : Prop := (t.len = 0 ∧ t.dist = 0) ∨ (t.len ≠ 0 ∧ s.min ≤ t.len ∧ t.len ≤ s.max ∧ 1 ≤ t.dist ∧ t.dist ≤ s.win)
instance (s : Sh) (t : Tk) : Decidable (fits1 s t) := by unfold fits1; infer_instance
def fitsT (ts : List Tk) (s : Sh) : Bool := ts.all fun t => decide (fits1 s t)
theorem fd_fits {b : List UInt8} {s : Sh} (hs : s.ok) (f i : Nat) : fitsT (fdF b s f i) s = true := by
  induction f generalizing i with
  | zero => rfl
  | succ f ih =>
    rw [fdF]
    split
    · next h =>
      have e : ∀ t l, fitsT (t :: l) s = (decide (fits1 s t) && fitsT l s) := fun t l => rfl
      rw [e, ih, Bool.and_true, decide_eq_true_eq]
      rcases stepT_cases hs h with h1 | h1
      · rw [h1]; exact .inl ⟨rfl, rfl⟩
      · obtain ⟨g1, _, _⟩ := h1.sz hs
        obtain ⟨d, n, q1, q2, q3, q4, q5, q6, q7, _⟩ := h1.ex
        exact .inr ⟨g1, by omega, by omega, by omega, by omega⟩
    · rfl
end Go.Proofs.YthmojejiaeninaaGreat
namespace Go.Proofs.YthmojejiaeninaaGreat
set_option linter.unusedVariables false
set_option linter.unusedSimpArgs false

/-- min bytes come twice within the window -/
def tw (b : List UInt8) (s : Sh) : Prop := ∃ i k : Nat, i + s.min.toNat ≤ b.length ∧ k < i ∧ (i : Int) - k ≤ s.win ∧ ∀ j, j < s.min.toNat → b.getD (k + j) 0 = b.getD (i + j) 0
theorem sme_tw {b : List UInt8} {s : Sh} (h : ¬ tw b s) {i k : Nat} (hk : k < i) (hw : (i : Int) - k ≤ s.win) (hm : 0 < s.min.toNat) : sme b k i s.min.toNat < s.min.toNat := by
  refine Nat.lt_of_not_le fun hge => h ?_
  have hall := fun j hj => cntUp_all (sm1 b k i) s.min.toNat 0 j (Nat.zero_le _) hj
  have h1 : ∀ j, j < s.min.toNat → i + j < b.length ∧ b.getD (k + j) 0 = b.getD (i + j) 0 := fun j hj => by
    have := hall j (by show j < sme b k i s.min.toNat; omega)
    unfold sm1 at this
    simpa using this
  exact ⟨i, k, by have := (h1 (s.min.toNat - 1) (by omega)).1; omega, hk, hw, fun j hj => (h1 j hj).2⟩
theorem atF_none {b : List UInt8} {s : Sh} (h : ¬ tw b s ∨ s.chain = 0) (hm : 0 < s.min.toNat) (i k : Nat) (hk : k ≤ i) : atF b s i k 0 ⟨0, 0, 0⟩ = ⟨0, 0, 0⟩ := by
  induction k with
  | zero => rfl
  | succ k ih =>
    rw [atF]
    split
    · next h1 =>
      rcases h with h | h
      · rw [if_pos (sme_tw h (by omega) h1.1 hm)]; exact ih (by omega)
      · have := h1.2; omega
    · rfl
theorem atT_none {b : List UInt8} {s : Sh} (hs : s.ok) (h : ¬ tw b s ∨ s.chain = 0) (i : Nat) : atT b s i = ⟨0, 0, 0⟩ := atF_none h (by obtain ⟨_, _, h3, _⟩ := hs; omega) i i (Nat.le_refl _)
theorem fd_none {b : List UInt8} {s : Sh} (hs : s.ok) (h : ¬ tw b s ∨ s.chain = 0) (f i : Nat) (hi : i ≤ b.length) (hf : b.length ≤ i + f) : fdF b s f i = (b.drop i).map fun c => ⟨c, 0, 0⟩ := by
  induction f generalizing i with
  | zero => rw [fdF, List.drop_of_length_le (by omega)]; rfl
  | succ f ih =>
    rw [fdF]
    by_cases hlt : i < b.length
    · have e : stepT b s i = ⟨b.getD i 0, 0, 0⟩ := by unfold stepT; rw [if_pos (.inl (by rw [atT_none hs h]))]
      rw [if_pos hlt, e, List.drop_eq_getElem_cons hlt, List.map_cons]
      have e2 : sz1 ⟨b.getD i 0, 0, 0⟩ = 1 := rfl
      rw [e2, ih (i + 1) (by omega) (by omega)]
      simp [hlt]
    · rw [if_neg hlt, List.drop_of_length_le (by omega)]; rfl
theorem found_none {b : List UInt8} {s : Sh} (hs : s.ok) (h : ¬ tw b s ∨ s.chain = 0) : found b s = b.map fun c => ⟨c, 0, 0⟩ := by
  unfold found
  rw [fd_none hs h b.length 0 (Nat.zero_le _) (by omega)]; rfl
/-- in a text of one byte all that stands is the same -/
theorem sme_rep (n : Nat) (c : UInt8) (k i m : Nat) (hk : k < i) : sme (List.replicate n c) k i m = min m (n - i) := by
  have h : ∀ j, j < n - i → sm1 (List.replicate n c) k i j = true := fun j hj => by
    unfold sm1
    have e1 : (List.replicate n c).getD (k + j) 0 = c := by rw [List.getD_eq_getElem?_getD, List.getElem?_replicate, if_pos (by omega)]; rfl
    have e2 : (List.replicate n c).getD (i + j) 0 = c := by rw [List.getD_eq_getElem?_getD, List.getElem?_replicate, if_pos (by omega)]; rfl
    rw [e1, e2]; simp; omega
  have hge := cntUp_ge (sm1 (List.replicate n c) k i) m 0 (min m (n - i)) (Nat.zero_le _) (by omega) (fun j _ hj => h j (by omega))
  have hle := (cntUp_le (sm1 (List.replicate n c) k i) m 0).2
  have h3 : sme (List.replicate n c) k i m ≤ n - i := by
    refine Nat.le_of_not_lt fun hlt => ?_
    have := cntUp_all (sm1 (List.replicate n c) k i) m 0 (n - i) (Nat.zero_le _) hlt
    unfold sm1 at this
    simp at this
    omega
  have h4 : min m (n - i) ≤ sme (List.replicate n c) k i m := hge
  have h5 : sme (List.replicate n c) k i m ≤ 0 + m := hle
  omega
theorem atF_keep {n : Nat} {c : UInt8} {s : Sh} {i : Nat} (k looked : Nat) (hk : k ≤ i) (t : Tk) (ht : ((min s.max.toNat (n - i) : Nat) : Int) ≤ t.len) : atF (List.replicate n c) s i k looked t = t := by
  induction k generalizing looked with
  | zero => rfl
  | succ k ih =>
    rw [atF]
    split
    · split
      · exact ih _ (by omega)
      · rw [sme_rep n c k i _ (by omega), if_neg (by omega)]; exact ih _ (by omega)
    · rfl
theorem atF_few {n : Nat} {c : UInt8} {s : Sh} {i : Nat} (k : Nat) (hk : k ≤ i) (hr : n - i < s.min.toNat) : atF (List.replicate n c) s i k 0 ⟨0, 0, 0⟩ = ⟨0, 0, 0⟩ := by
  induction k with
  | zero => rfl
  | succ k ih =>
    rw [atF]
    split
    · rw [sme_rep n c k i _ (by omega), if_pos (by omega)]; exact ih (by omega)
    · rfl
theorem atT_rep {n : Nat} {c : UInt8} {s : Sh} (hs : s.ok) (hc : 1 ≤ s.chain) (i : Nat) (hi : 1 ≤ i) : atT (List.replicate n c) s i = if n - i < s.min.toNat then ⟨0, 0, 0⟩ else ⟨0, 1, ((min s.max.toNat (n - i) : Nat) : Int)⟩ := by
  obtain ⟨h1, h2, h3, h4, h5, h6, h7, h8⟩ := hs
  unfold atT
  split
  · next h => exact atF_few i (Nat.le_refl _) h
  · next h =>
    obtain ⟨k, rfl⟩ : ∃ k, i = k + 1 := ⟨i - 1, by omega⟩
    rw [atF, if_pos ⟨by omega, by omega⟩, sme_rep n c k (k + 1) _ (by omega), if_neg (by omega), sme_rep n c k (k + 1) _ (by omega), if_pos (by show (0 : Int) < _; omega)]
    rw [show ((k + 1 : Nat) : Int) - (k : Int) = 1 by omega]
    exact atF_keep k 1 (by omega) _ (Int.le_refl _)
theorem atT_zero (b : List UInt8) (s : Sh) : atT b s 0 = ⟨0, 0, 0⟩ := rfl
theorem stepT_rep {n : Nat} {c : UInt8} {s : Sh} (hs : s.ok) (hc : 1 ≤ s.chain) (i : Nat) (hi : 1 ≤ i) (hin : i < n) : sz1 (stepT (List.replicate n c) s i) = if n - i < s.min.toNat then 1 else min s.max.toNat (n - i) := by
  have ha := atT_rep (n := n) (c := c) hs hc i hi
  have hb := atT_rep (n := n) (c := c) hs hc (i + 1) (by omega)
  obtain ⟨h1, h2, h3, h4, h5, h6, h7, h8⟩ := hs
  unfold stepT
  by_cases h : n - i < s.min.toNat
  · rw [if_pos h] at ha
    rw [if_pos (.inl (by rw [ha])), if_pos h]; rfl
  · rw [if_neg h] at ha
    have hnw : ¬ ((atT (List.replicate n c) s i).len = 0 ∨ waits (List.replicate n c) s i) := by
      intro g
      rcases g with g | g
      · rw [ha] at g; simp only at g; omega
      · unfold waits at g
        obtain ⟨_, _, _, _, g5⟩ := g
        rw [ha, hb] at g5
        split at g5
        · simp only at g5; omega
        · simp only at g5; omega
    rw [if_neg hnw, ha, if_neg h]
    unfold sz1
    rw [if_neg (by simp only; omega)]
    simp
/-- how many tokens from i on -/
theorem fd_rep {n : Nat} {c : UInt8} {s : Sh} (hs : s.ok) (hc : 1 ≤ s.chain) (f i : Nat) (hi : 1 ≤ i) : (fdF (List.replicate n c) s f i).length ≤ (n - i + s.max.toNat - 1) / s.max.toNat + s.min.toNat ∧ (n - i < s.min.toNat → (fdF (List.replicate n c) s f i).length ≤ n - i) := by
  have hm : 2 ≤ s.max.toNat := by obtain ⟨_, _, h3, _, h5, _⟩ := hs; omega
  have hmm : s.min.toNat ≤ s.max.toNat := by obtain ⟨_, _, h3, _, h5, _⟩ := hs; omega
  have hm1 : 1 ≤ s.min.toNat := by obtain ⟨_, _, h3, _, h5, _⟩ := hs; omega
  induction f generalizing i with
  | zero => rw [fdF]; simp
  | succ f ih =>
    rw [fdF]
    by_cases hlt : i < n
    · rw [if_pos (by simpa using hlt), List.length_cons]
      have hz := stepT_rep (c := c) hs hc i hi hlt
      obtain ⟨g1, g2⟩ := ih (i + sz1 (stepT (List.replicate n c) s i)) (by omega)
      rw [hz] at g1 g2 ⊢
      by_cases h : n - i < s.min.toNat
      · rw [if_pos h] at g1 g2 ⊢
        have := g2 (by omega)
        refine ⟨?_, fun _ => by omega⟩
        have : 0 ≤ (n - i + s.max.toNat - 1) / s.max.toNat := Nat.zero_le _
        omega
      · rw [if_neg h] at g1 g2 ⊢
        refine ⟨?_, fun h' => absurd h' h⟩
        by_cases hb : n - i ≤ s.max.toNat
        · have e : n - (i + min s.max.toNat (n - i)) = 0 := by omega
          rw [e] at g2
          have h0 := g2 (by omega)
          have : 1 ≤ (n - i + s.max.toNat - 1) / s.max.toNat := (Nat.le_div_iff_mul_le (by omega)).2 (by omega)
          omega
        · have e : n - (i + min s.max.toNat (n - i)) + s.max.toNat - 1 = n - i - 1 := by omega
          rw [e] at g1
          have e2 : n - i + s.max.toNat - 1 = (n - i - 1) + s.max.toNat := by omega
          rw [e2, Nat.add_div_right _ (by omega)]
          omega
    · rw [if_neg (by simpa using hlt)]; simp
theorem found_rep {n : Nat} {c : UInt8} {s : Sh} (hs : s.ok) (hc : 1 ≤ s.chain) (hn : 0 < n) : (found (List.replicate n c) s).length ≤ 1 + (n - 1 + s.max.toNat - 1) / s.max.toNat + s.min.toNat := by
  unfold found
  rw [List.length_replicate]
  obtain ⟨m, rfl⟩ : ∃ m, n = m + 1 := ⟨n - 1, by omega⟩
  rw [fdF, if_pos (by simp)]
  have e : stepT (List.replicate (m + 1) c) s 0 = ⟨(List.replicate (m + 1) c).getD 0 0, 0, 0⟩ := by unfold stepT; rw [if_pos (.inl (by rw [atT_zero]))]
  rw [e, List.length_cons]
  have := (fd_rep (n := m + 1) (c := c) hs hc m (0 + sz1 ⟨(List.replicate (m + 1) c).getD 0 0, 0, 0⟩) (Nat.le_refl _)).1
  have e2 : sz1 ⟨(List.replicate (m + 1) c).getD 0 0, 0, 0⟩ = 1 := rfl
  rw [e2, Nat.zero_add] at this ⊢
  omega
end Go.Proofs.YthmojejiaeninaaGreat
namespace Go.Proofs.YthmojejiaeninaaGreat
set_option linter.unusedVariables false
set_option linter.unusedSimpArgs false
open Go.ChangeShapes Go.WideShapes Go.ChangeAt Go.RowKit

def cellsF (F : Nat → Nat → Int) (n : Nat) : List Value := (List.range n).flatMap fun j => [.int .i16 (F j 0), .int .i16 (F j 1)]
theorem cellsF_succ (F : Nat → Nat → Int) (n : Nat) : cellsF F (n + 1) = cellsF F n ++ [.int .i16 (F n 0), .int .i16 (F n 1)] := by simp [cellsF, List.range_succ]
theorem cellsF_len (F : Nat → Nat → Int) (n : Nat) : (cellsF F n).length = n * 2 := by
  induction n with
  | zero => rfl
  | succ n ih => rw [cellsF_succ, List.length_append, ih]; simp; omega
theorem cellsF_get (F : Nat → Nat → Int) (n j b : Nat) (h : j < n) (hb : b < 2) : (cellsF F n)[j * 2 + b]? = some (.int .i16 (F j b)) := by
  induction n with
  | zero => omega
  | succ n ih =>
    rw [cellsF_succ]
    have hl := cellsF_len F n
    by_cases e : j = n
    · subst e
      rw [List.getElem?_append_right (by omega), hl]
      obtain rfl | rfl : b = 0 ∨ b = 1 := by omega
      · simp
      · rw [show j * 2 + 1 - j * 2 = 1 by omega]; simp
    · rw [List.getElem?_append_left (by omega)]
      exact ih (by omega)
theorem cellsF_set (F : Nat → Nat → Int) (n j b : Nat) (v : Int) (h : j < n) (hb : b < 2) : (cellsF F n).set (j * 2 + b) (.int .i16 v) = cellsF (upd F j b v) n := by
  apply List.ext_getElem?
  intro i
  by_cases hi : i < n * 2
  · obtain ⟨q, c, hc, rfl⟩ : ∃ q c, c < 2 ∧ i = q * 2 + c := ⟨i / 2, i % 2, Nat.mod_lt _ (by decide), by omega⟩
    rw [cellsF_get (upd F j b v) n q c (by omega) hc, List.getElem?_set]
    by_cases e : q = j ∧ c = b
    · obtain ⟨rfl, rfl⟩ := e
      rw [if_pos rfl, if_pos (by rw [cellsF_len]; omega), upd_same]
    · rw [if_neg (by omega), cellsF_get F n q c (by omega) hc, upd_other _ _ _ _ _ _ e]
  · rw [List.getElem?_eq_none (by rw [List.length_set, cellsF_len]; omega), List.getElem?_eq_none (by rw [cellsF_len]; omega)]
/-- v is a row of n forks of the call's own -/
def OwnF (w : World) (v : Value) (F : Nat → Nat → Int) (n : Nat) : Prop := w.ownsRow 0 215 2 v n (cellsF F n)
theorem OwnF.keep {w w' : World} {v : Value} {F : Nat → Nat → Int} {n : Nat} {S : List Nat} (h : OwnF w v F n) (k : Keep S w w') (hb : ∀ b, v.ownBlock = some b → b ∉ S) : OwnF w' v F n := by
  refine ⟨h.1, ?_⟩
  rcases h.2 with h2 | ⟨g, cap, cur, rfl, hb0, hh, r⟩
  · exact .inl h2
  · exact .inr ⟨g, cap, cur, rfl, hb0, (k.block g (lt_of_block hh) (hb g rfl)).trans hh, r⟩
theorem OwnF.lt {w : World} {v : Value} {F : Nat → Nat → Int} {n : Nat} (h : OwnF w v F n) : ∀ b, v.ownBlock = some b → b < w.heap.size := fun b hb => (World.ownsRow.lt h b hb).2
theorem OwnF.shape {w : World} {v : Value} {F : Nat → Nat → Int} {n : Nat} (h : OwnF w v F n) (h0 : 0 < n) : ∃ g cap, v = .slice (some ⟨g, 0, none⟩) n cap ∧ n ≤ cap ∧ cap ≤ maxLen := by
  rcases h.2 with ⟨_, h2⟩ | ⟨g, cap, cur, rfl, _, _, h1, h2, _⟩
  · omega
  · exact ⟨g, cap, rfl, h1, h2⟩
section
variable {w : World} {g n cap : Nat} {F : Nat → Nat → Int}
theorem OwnF.cell (h : OwnF w (.slice (some ⟨g, 0, none⟩) n cap) F n) (j b : Nat) (hj : j < n) (hb : b < 2) : w.cell? ⟨g, j * 2 + b, none⟩ = some (.int .i16 (F j b)) := by
  rw [World.ownsRow.cellAt h (j * 2 + b) (by omega), cellsF_get F n j b hj hb]
theorem OwnF.free (h : OwnF w (.slice (some ⟨g, 0, none⟩) n cap) F n) (j : Nat) : w.frozen? ⟨g, j, none⟩ = false := World.ownsRow.frozenAt h j
theorem OwnF.store (h : OwnF w (.slice (some ⟨g, 0, none⟩) n cap) F n) (j b : Nat) (v : Int) (hj : j < n) (hb : b < 2) : OwnF (w.setCell ⟨g, j * 2 + b, none⟩ (.int .i16 v)) (.slice (some ⟨g, 0, none⟩) n cap) (upd F j b v) n := by
  have := (World.ownsRow.stored h (j * 2 + b) (.int .i16 v)).1
  rw [cellsF_set F n j b v hj hb] at this
  exact this
end
theorem infoF : (Tryz.prog.info? 215).map (fun i => (i.zero.map (·.cells), i.size, i.bytes)) = some (some #[.int .i16 0, .int .i16 0], 2, 4) := by kernel_rfl
theorem run_make_forks (w : World) (c : Nat) (hc1 : 1 ≤ c) (hc : c ≤ 256) : (Instr.makeSlice 206 (.int .i64 1) (.int .i64 (c : Int))).run Tryz.prog w = .ok (.slice (some ⟨w.heap.size, 0, none⟩) 1 c) (w.alloc (.cells (madeCells #[.int .i16 0, .int .i16 0] (c * 2)) 215)) := by
  obtain ⟨i, hi, hzz⟩ := Option.map_eq_some_iff.1 infoF
  simp only [Prod.mk.injEq] at hzz
  obtain ⟨hz, hs, hb⟩ := hzz
  obtain ⟨z, hz, hzc⟩ := Option.map_eq_some_iff.1 hz
  have := run_make (P := Tryz.prog) (w := w) 206 215 i z Tryz.underlying206 hi hz .i64 .i64 1 c (by omega) (by omega) (by rw [hb]; omega) (by omega)
  rw [hzc, hs] at this
  exact this
theorem OwnF.made (w : World) (c : Nat) (hc1 : 1 ≤ c) (hc : c ≤ 256) : OwnF (w.alloc (.cells (madeCells #[.int .i16 0, .int .i16 0] (c * 2)) 215)) (.slice (some ⟨w.heap.size, 0, none⟩) 1 c) (fun _ _ => 0) 1 := by
  refine ⟨rfl, .inr ⟨w.heap.size, c, _, rfl, Nat.zero_le _, heap_alloc_new w _, hc1, by unfold maxLen; omega, by rw [size_madeCells], ?_⟩⟩
  obtain ⟨d, rfl⟩ : ∃ d, c = d + 1 := ⟨c - 1, by omega⟩
  have e : ∀ j, j < (d + 1) * 2 → (madeCells #[.int .i16 0, .int .i16 0] ((d + 1) * 2))[j]? = some (.int .i16 0) := by
    intro j hj
    unfold madeCells
    rw [Array.getElem?_map, Array.getElem?_range, if_pos hj]
    have : j % 2 = 0 ∨ j % 2 = 1 := by omega
    rcases this with h | h <;> simp [h]
  have e0 := e 0 (by omega)
  have e1 := e 1 (by omega)
  apply List.ext_getElem?
  intro i
  rw [List.getElem?_take]
  by_cases hi : i < 1 * 2
  · rw [if_pos hi]
    obtain rfl | rfl : i = 0 ∨ i = 1 := by omega
    · rw [Array.getElem?_toList, e0]; rfl
    · rw [Array.getElem?_toList, e1]; rfl
  · rw [if_neg hi, List.getElem?_eq_none (by rw [cellsF_len]; omega)]
/-- append of one fork, as a step of a region that draws -/
theorem step_appendF {w : World} {ops : Array Oper} {o : Oper} {a : Act} {K : Act → World → Prop} {Q : Exit → Act → World → Prop} {E : Prop} (s x : Operand) (hgd : o.guard = none)
    (ho : o.op = .call { callee := .builtin .append, args := #[s, x], argTypes := #[206, 206] })
    (v : Value) (F : Nat → Nat → Int) (n : Nat) (hs : a.eval s = v) (hown : OwnF w v F n) (hz : F n 0 = 0 ∧ F n 1 = 0) (g : Nat) (hx : a.eval x = .slice (some ⟨g, 0, none⟩) 1 1) (hsrc : Blk w g #[.int .i16 0, .int .i16 0] 215) (hlen : n ≤ 100000)
    (h : ∀ v' w', OwnF w' v' F (n + 1) → Keep v.ownBlock.toList w w' → (∀ b, v'.ownBlock = some b → v.ownBlock = some b ∨ b = w.heap.size) → K (a.put o.dst v') w') :
    if Region.wanted o (yielded ops a.tmps) = true then Oper.wp Tryz.prog o a w K Q else E := by
  have hw : Region.wanted o (yielded ops a.tmps) = true := by simp [Region.wanted, hgd]
  rw [if_pos hw]
  obtain ⟨i0, hi, hzz⟩ := Option.map_eq_some_iff.1 infoF
  simp only [Prod.mk.injEq] at hzz
  obtain ⟨hz0, hz1, hz2⟩ := hzz
  obtain ⟨z, hz0, hzc⟩ := Option.map_eq_some_iff.1 hz0
  have hS : Src w 2 (.slice (some ⟨g, 0, none⟩) 1 1) 1 [.int .i16 (F n 0), .int .i16 (F n 1)] := by
    refine ⟨rfl, by simp [Value.oneCell'], .inr ⟨⟨g, 0, none⟩, 1, rfl, fun j u hu => ?_⟩⟩
    have e : ∀ m, ((⟨g, 0, none⟩ : Addr).add m) = ⟨g, m, none⟩ := fun m => by cases m <;> simp [Addr.add]
    rw [e]
    rw [hz.1, hz.2] at hu
    exact hsrc.cell j u (by simpa using hu)
  obtain ⟨v', w', hr, h2, h3, h4, h5⟩ := run_append_any (P := Tryz.prog) w 206 o.type 215 i0 z 2 4 Tryz.underlying206 hi hz0 hz1 hz2 (by rw [hzc]; rfl) (by decide) v n (cellsF F n) hown (.slice (some ⟨g, 0, none⟩) 1 1) 1 [.int .i16 (F n 0), .int .i16 (F n 1)] hS (by unfold maxLen; omega) (by omega)
  unfold Oper.wp execOp
  simp only [ho, resolve, invoke, builtin, Sem.run_bind, Sem.run_pure, Result.andThen_ok, List.map_toArray, List.map_cons, List.map_nil, hs, hx, hr]
  exact h v' w' (by unfold OwnF; rw [cellsF_succ]; exact h2) ((Keep.refl _ _).grown h3 (fun k hk => .inl (by simp [hk]))) h4
end Go.Proofs.YthmojejiaeninaaGreat
namespace Go.Proofs.YthmojejiaeninaaGreat
set_option linter.unusedVariables false
set_option linter.unusedSimpArgs false
open Go.ChangeShapes Go.WideShapes Go.ChangeAt Go.RowKit

/-- append of one fork -/
theorem wpList_appendF {w : World} {ops : Array Oper} {rest : List Oper} {o : Oper} {a : Act} {Q : Exit → Act → World → Prop} (s x : Operand) (hgd : o.guard = none)
    (ho : o.op = .call { callee := .builtin .append, args := #[s, x], argTypes := #[206, 206] })
    (v : Value) (F : Nat → Nat → Int) (n : Nat) (hs : a.eval s = v) (hown : OwnF w v F n) (hz : F n 0 = 0 ∧ F n 1 = 0) (g : Nat) (hx : a.eval x = .slice (some ⟨g, 0, none⟩) 1 1) (hsrc : Blk w g #[.int .i16 0, .int .i16 0] 215) (hlen : n ≤ 100000)
    (h : ∀ v' w', OwnF w' v' F (n + 1) → Keep v.ownBlock.toList w w' → (∀ b, v'.ownBlock = some b → v.ownBlock = some b ∨ b = w.heap.size) → wpList Tryz.prog ops Q rest (a.put o.dst v') w') : wpList Tryz.prog ops Q (o :: rest) a w := by
  obtain ⟨i0, hi, hzz⟩ := Option.map_eq_some_iff.1 infoF
  simp only [Prod.mk.injEq] at hzz
  obtain ⟨hz0, hz1, hz2⟩ := hzz
  obtain ⟨z, hz0, hzc⟩ := Option.map_eq_some_iff.1 hz0
  have hS : Src w 2 (.slice (some ⟨g, 0, none⟩) 1 1) 1 [.int .i16 (F n 0), .int .i16 (F n 1)] := by
    refine ⟨rfl, by simp [Value.oneCell'], .inr ⟨⟨g, 0, none⟩, 1, rfl, fun j u hu => ?_⟩⟩
    have e : ∀ m, ((⟨g, 0, none⟩ : Addr).add m) = ⟨g, m, none⟩ := fun m => by cases m <;> simp [Addr.add]
    rw [e]
    rw [hz.1, hz.2] at hu
    exact hsrc.cell j u (by simpa using hu)
  obtain ⟨v', w', hr, h2, h3, h4, h5⟩ := run_append_any (P := Tryz.prog) w 206 o.type 215 i0 z 2 4 Tryz.underlying206 hi hz0 hz1 hz2 (by rw [hzc]; rfl) (by decide) v n (cellsF F n) hown (.slice (some ⟨g, 0, none⟩) 1 1) 1 [.int .i16 (F n 0), .int .i16 (F n 1)] hS (by unfold maxLen; omega) (by omega)
  refine wpList_plain hgd fun K hK => ?_
  unfold Oper.wp execOp
  simp only [ho, resolve, invoke, builtin, Sem.run_bind, Sem.run_pure, Result.andThen_ok, List.map_toArray, List.map_cons, List.map_nil, hs, hx, hr]
  exact hK _ _ (h v' w' (by unfold OwnF; rw [cellsF_succ]; exact h2) ((Keep.refl _ _).grown h3 (fun k hk => .inl (by simp [hk]))) h4)
theorem Tr.bound {L : List Nat} {F : Nat → Nat → Int} {n k m : Nat} {nm dp : Nat → Nat} (h : Tr L F n k m nm dp) (hk : k ≤ 256) (j b : Nat) (hj : j < n) (hb : b < 2) : -256 ≤ F j b ∧ F j b < n := by
  rcases Int.lt_trichotomy (F j b) 0 with h1 | h1 | h1
  · obtain ⟨s, s1, s2, _⟩ := h.leaf j b hj hb h1
    omega
  · omega
  · have := (h.up j b hj hb h1).1
    omega
theorem bit1' (x n : Nat) (hx : x < 4294967296) : Go.bits .and .u32 ((x : Int) / 2 ^ n) 1 = ((x / 2 ^ n % 2 : Nat) : Int) := by
  have h := u32_and_nat (x / 2 ^ n) 1 (Nat.lt_of_le_of_lt (Nat.div_le_self _ _) hx) (by omega)
  rw [Nat.and_one_is_mod] at h
  rw [← h]; simp
/-- what lay's loop holds between its rounds: the first j bits have led to fork a -/
structure LyS (w1 : World) (q g0 n0 bw : Nat) (L : List Nat) (k c : Nat) (j a g n cap : Nat) (F : Nat → Nat → Int) (nm dp : Nat → Nat) (wr : World) : Prop where
  blk : Blk wr q #[.slice (some ⟨g, 0, none⟩) n cap] 208
  ne : q ≠ g
  own : OwnF wr (.slice (some ⟨g, 0, none⟩) n cap) F n
  tr : Tr L F n k (k + 1) nm dp
  ats : Ats L F n nm dp c j a
  nb : n ≤ n0 + j
  keep : Keep [q, g0] w1 wr
  fresh : g = g0 ∨ w1.heap.size ≤ g
  box : Blk wr bw #[.int .u32 c, .int .i64 (len L k : Nat)] 82
  bne : bw ≠ q ∧ bw ≠ g ∧ bw ≠ g0
theorem notI16F : ∀ k : Fin 256, Go.bits .xor .i16 (-1) ((k.val : Nat) : Int) = -(((k.val : Nat) : Int) + 1) := by decide +kernel
theorem notI16 (k : Nat) (h : k < 256) : Go.bits .xor .i16 (-1) (k : Int) = -((k : Int) + 1) := notI16F ⟨k, h⟩
set_option maxRecDepth 100000 in
set_option maxHeartbeats 4000000 in
theorem lay_c (w : World) (q g0 n0 cap0 : Nat) (L : List Nat) (F0 : Nat → Nat → Int) (nm0 dp0 : Nat → Nat) (k : Nat) (hB : Blk w q #[.slice (some ⟨g0, 0, none⟩) n0 cap0] 208) (hne : q ≠ g0) (hO : OwnF w (.slice (some ⟨g0, 0, none⟩) n0 cap0) F0 n0)
    (hT : Tr L F0 n0 k k nm0 dp0) (hk : k < L.length) (hL : L.length ≤ 256) (hl : ∀ t, t < L.length → 1 ≤ len L t ∧ len L t ≤ 16) (hf : tot16 L = 65536) (hn0 : n0 ≤ 10000) :
    Calls Tryz.prog 127 #[.pointer (some ⟨q, 0, none⟩), .int .i64 k, .agg #[.int .u32 (scode L k : Nat), .int .i64 (len L k : Nat)]] w fun e w' => e = .returned (.tuple #[]) ∧ ∃ g n cap F nm dp,
      Blk w' q #[.slice (some ⟨g, 0, none⟩) n cap] 208 ∧ q ≠ g ∧ OwnF w' (.slice (some ⟨g, 0, none⟩) n cap) F n ∧ Tr L F n (k + 1) (k + 1) nm dp ∧ Keep [q, g0] w w' ∧ (g = g0 ∨ w.heap.size ≤ g) ∧ n ≤ n0 + 15 := by
  obtain ⟨hl1, hl16⟩ := hl k hk
  have hc32 : scode L k < 4294967296 := Nat.lt_of_lt_of_le (scode_lt L k) (Nat.le_trans (Nat.pow_le_pow_right (by decide) hl16) (by decide))
  have hg0 := hO.lt g0 rfl
  have hS0 : Hid (LyS (w.alloc (.cells #[.int .u32 (scode L k : Nat), .int .i64 (len L k : Nat)] 82)) q g0 n0 w.heap.size L k (scode L k) 0 0 g0 n0 cap0 F0 nm0 dp0 (w.alloc (.cells #[.int .u32 (scode L k : Nat), .int .i64 (len L k : Nat)] 82))) := by
    have hq := hB.lt
    exact ⟨hB.alloc _, hne, hO.keep ((Keep.refl [] w).alloc _) (by simp), hT.more (by omega), Ats.start hT _, by omega, Keep.refl _ _, .inl rfl, Blk.new w _ _, by omega, by omega, by omega⟩
  have HK1 : Hid (Keep [] w (w.alloc (.cells #[.int .u32 (scode L k : Nat), .int .i64 (len L k : Nat)] 82)) ∧ w.heap.size ≤ (w.alloc (.cells #[.int .u32 (scode L k : Nat), .int .i64 (len L k : Nat)] 82)).heap.size) := ⟨(Keep.refl [] w).alloc _, by simp⟩
  have HL := Lib.hid hl
  have hb1 : (w.alloc (.cells #[.int .u32 (scode L k : Nat), .int .i64 (len L k : Nat)] 82)).cell? ⟨w.heap.size, 1, none⟩ = some (.int .i64 (len L k : Nat)) := (Blk.new w #[.int .u32 (scode L k : Nat), .int .i64 (len L k : Nat)] 82).cell 1 _ rfl
  clear hB hO hT hl
  generalize hC : scode L k = c at *
  generalize hZ : len L k = y at *
  obtain ⟨z, hyz⟩ : ∃ z, y = z + 1 := ⟨y - 1, by omega⟩
  have HC := Lib.hid hC
  have HZ : Hid (len L k = z + 1) := hZ.trans hyz
  have hz16 : z ≤ 15 := by omega
  have hwz : IntKind.i64.wrap ((y : Int) - 1) = z := by rw [IntKind.wrap_i64]; omega
  clear hC hZ hl1 hl16 hyz
  go_enter Tryz.func127, Tryz.ntmps127
  go_wp2_with fail
  obtain ⟨w1, hw1⟩ : ∃ x, (w.alloc (.cells #[.int .u32 (c : Nat), .int .i64 (y : Nat)] 82)) = x := ⟨_, rfl⟩
  rw [hw1] at hb1 hS0 HK1 ⊢
  clear hw1
  obtain ⟨bw, hbw⟩ : ∃ x, w.heap.size = x := ⟨_, rfl⟩
  rw [hbw] at hb1 hS0 HK1 ⊢
  go_quiet (fail)
  have HK2 : Hid (Keep [] w (w1.drewN nq) ∧ bw ≤ (w1.drewN nq).heap.size) := ⟨HK1.out.1.drewN nq, by simpa using HK1.out.2⟩
  have hS1 : Hid (LyS (w1.drewN nq) q g0 n0 bw L k c 0 0 g0 n0 cap0 F0 nm0 dp0 (w1.drewN nq)) := by
    have h := hS0.out
    have K := (Keep.refl [] w1).drewN nq
    exact ⟨h.blk.keep K (by simp), h.ne, h.own.keep K (by simp), h.tr, h.ats, h.nb, Keep.refl _ _, by simp, h.box.keep K (by simp), h.bne⟩
  obtain ⟨w2, hw2⟩ : ∃ x, w1.drewN nq = x := ⟨_, rfl⟩
  rw [hw2] at HK2 hS1 ⊢
  clear hb1 hS0 HK1 hw2
  go_wp2_with fail
  go_loopw [6, 14] (fun at' i wr => ∃ j a g n cap F nm dp, j ≤ z ∧ at' = .int .i16 (a : Nat) ∧ i = .int .i64 (j : Nat) ∧ Hid (LyS w2 q g0 n0 bw L k c j a g n cap F nm dp wr)) (fun _ i _ => z - (intOf i).toNat)
  case atStart => exact ⟨0, 0, g0, n0, cap0, F0, nm0, dp0, by omega, rfl, rfl, hS1⟩
  case round =>
    obtain ⟨j, a, g, n, cap, F, nm, dp, hj, rfl, rfl, HS⟩ := hrel
    have h := HS.out
    have hb2 : c / 2 ^ j % 2 < 2 := Nat.mod_lt _ (by decide)
    have ha := h.ats.lt
    have hn : n ≤ 10015 := by have := h.nb; omega
    have c0 : wr.cell? ⟨q, 0, none⟩ = some (.slice (some ⟨g, 0, none⟩) n cap) := h.blk.cell 0 _ rfl
    have b0 : wr.cell? ⟨bw, 0, none⟩ = some (.int .u32 c) := h.box.cell 0 _ rfl
    have ce := h.own.cell a (c / 2 ^ j % 2) ha hb2
    have fe := h.own.free (a * 2 + c / 2 ^ j % 2)
    have hbit := bit1' c j hc32
    have hbd := h.tr.bound (by omega) a (c / 2 ^ j % 2) ha hb2
    by_cases hlt : j < z
    · have h0 : 0 ≤ F a (c / 2 ^ j % 2) := by
        have := h.tr.noleaf hk (fun t ht => (HL.out t ht).2) hf (i := j) (a := a) (by rw [HC.out]; exact h.ats) (by rw [HZ.out]; omega)
        rw [HC.out] at this; exact this
      by_cases hz : F a (c / 2 ^ j % 2) = 0
      · have hN := h.tr.new (i := j) (a := a) (by rw [HC.out]; exact h.ats) (by rw [HZ.out]; omega) (by rw [HC.out]; exact hz)
        rw [HC.out] at hN
        have HN := Lib.hid hN
        have hw16 : IntKind.i16.wrap (n : Int) = n := by rw [IntKind.wrap]; simp [IntKind.bits, IntKind.signed]; omega
        rw [hz] at ce
        generalize hB : c / 2 ^ j % 2 = b at *
        have HB := Lib.hid hB
        obtain ⟨wA, hwA⟩ : ∃ x, ((wr.setCell ⟨g, a * 2 + b, none⟩ (.int .i16 n)).alloc (.cells #[.int .i16 0, .int .i16 0] 215)).drew = x := ⟨_, rfl⟩
        have KA : Keep [g] wr wA := by rw [← hwA]; exact (((Keep.refl [g] wr).setCell (.inl (by simp)) _).alloc _).drew
        have hOA : OwnF wA (.slice (some ⟨g, 0, none⟩) n cap) (upd F a b (n : Nat)) n := by rw [← hwA]; exact (h.own.store a b (n : Nat) ha hb2).keep ((Keep.refl [] _).alloc _).drew (by simp)
        have hSA : Blk wA wr.heap.size #[.int .i16 0, .int .i16 0] 215 := by
          rw [← hwA]
          have := Blk.new (wr.setCell ⟨g, a * 2 + b, none⟩ (.int .i16 n)) #[.int .i16 0, .int .i16 0] 215
          simp only [World.size_setCell] at this
          exact this.keep (Keep.refl [] _).drew (by simp)
        have hwf := h.own.lt g rfl
        have hQA := h.blk.keep KA (by simp; exact h.ne)
        have hXA := h.box.keep KA (by simp; exact h.bne.2.1)
        have hKA : Keep [q, g0] w2 wA := h.keep.trans KA (by have := h.fresh; simp; omega)
        have hfr := h.fresh
        have hqg := h.ne
        have hbne := h.bne
        have hout : upd F a b (n : Nat) n 0 = 0 ∧ upd F a b (n : Nat) n 1 = 0 := by
          rw [upd_other _ _ _ _ _ _ (by omega), upd_other _ _ _ _ _ _ (by omega)]
          exact ⟨h.tr.out n 0 (by omega), h.tr.out n 1 (by omega)⟩
        have hnb := h.nb
        have hbi : (b : Int) < 2 := by omega
        have hws : wr.heap.size < wA.heap.size := hSA.lt
        have hw2s := h.keep.size
        clear hB h hN h0 hbd hz
        go_wp2_with fail
        go_still_tail 14, (by kernel_rfl)
        change wpList _ _ _ _ _ wr.drew
        go_wp2_with (at_builtin; (refine wpList_appendF (.tmp 50) (.tmp 52) rfl rfl (.slice (some ⟨g, 0, none⟩) n cap) (upd F a b (n : Nat)) n rfl hOA hout wr.heap.size rfl hSA (by omega) ?_); (intro v5 w5 ho5 hk5 hb5); (obtain ⟨g5, cap5, rfl, m1, m2⟩ := ho5.shape (by omega)); (have hQ5 := hQA.keep hk5 (by simp [Value.ownBlock]; exact hqg)); (have q5 := hQ5.cell 0 _ rfl); (have f5 := hQ5.free 0); (have hq5 : q ≠ g5 := by (have hlt5 := hQA.lt); rcases hb5 g5 rfl with h | h; (have h' : g = g5 := by simpa [Value.ownBlock] using h); omega; omega); (have O6 := ho5.keep ((Keep.refl [q] w5).setCell (p := ⟨q, 0, none⟩) (.inl (by simp)) (.slice (some ⟨g5, 0, none⟩) (n + 1) cap5)) (by simp [Value.ownBlock]; omega)); (have e6 := O6.cell a b (by omega) hb2); (rw [upd_same] at e6))
        go_roundw
        case rel =>
          refine ⟨j + 1, n, g5, n + 1, cap5, upd F a b (n : Nat), fun i => if i = n then c % 2 ^ (j + 1) else nm i, fun i => if i = n then j + 1 else dp i, by omega, rfl, by go_num, ?_⟩
          have hg5 : g5 = g ∨ g5 = wA.heap.size := by
            rcases hb5 g5 rfl with h | h
            · left; have h' : g = g5 := by simpa [Value.ownBlock] using h
              omega
            · exact .inr h
          have hQ6 := hQ5.set 0 (.slice (some ⟨g5, 0, none⟩) (n + 1) cap5)
          have hk5' : Keep [g] wA w5 := hk5
          have hX6 := (hXA.keep hk5' (by simp; exact hbne.2.1)).other (p := ⟨q, 0, none⟩) (by simp; exact hbne.1) (.slice (some ⟨g5, 0, none⟩) (n + 1) cap5)
          have hK6 : Keep [q, g0] w2 (w5.setCell ⟨q, 0, none⟩ (.slice (some ⟨g5, 0, none⟩) (n + 1) cap5)) := (hKA.trans hk5' (by simp; omega)).setCell (.inl (by simp)) _
          exact ⟨hQ6, hq5, O6, HN.out.1, HN.out.2, by omega, hK6, by omega, hX6, by have := hXA.lt; omega⟩
        case measure => simp [intOf]; omega
      · have hf' := h.tr.follow c h.ats (by omega)
        have HF := Lib.hid hf'
        have hne0 : (F a (c / 2 ^ j % 2) == 0) = false := by rw [beq_eq_false_iff_ne]; omega
        clear hf'
        generalize hB : c / 2 ^ j % 2 = b at *
        obtain ⟨m, hm⟩ : ∃ m : Nat, F a b = m := ⟨(F a b).toNat, by omega⟩
        have HB := Lib.hid hB
        rw [hm] at ce hbd hne0 HF
        rw [Int.toNat_natCast] at HF
        have hm2 : m < 32768 := by omega
        clear hB h hm hz h0 hbd
        go_wp2_with fail
        go_roundw
        case rel => exact ⟨j + 1, m, g, n, cap, F, nm, dp, by omega, rfl, by go_num, { HS.out with ats := HF.out, nb := by have := HS.out.nb; omega }⟩
        case measure => simp [intOf]; omega
    · obtain rfl : j = z := by omega
      have hN := h.tr.close hk (fun t ht => (HL.out t ht).2) hf (i := j) (a := a) (by rw [HC.out]; exact h.ats) (by rw [HZ.out])
      rw [HC.out] at hN
      have HN := Lib.hid hN
      generalize hB : c / 2 ^ j % 2 = b at *
      have hbi : (b : Int) < 2 := by omega
      have hwk : IntKind.i16.wrap (k : Int) = k := by rw [IntKind.wrap]; simp [IntKind.bits, IntKind.signed]; omega
      clear hB h hN
      have hno := notI16 k (by omega)
      generalize hfo : F a b = fo at *
      have HFO := Lib.hid hfo
      clear hfo
      go_wp2_with fail
      go_still_tail 15, (by kernel_rfl)
      change wpList _ _ _ _ _ wr.drew
      go_wp2_with fail
      go_end0
      have h := HS.out
      have hO := (h.own.store a b (-((k : Int) + 1)) ha hb2).keep (Keep.refl [] _).drew (by simp)
      have K3 : Keep [g] wr (wr.setCell ⟨g, a * 2 + b, none⟩ (.int .i16 (-((k : Int) + 1)))).drew := ((Keep.refl [g] wr).setCell (.inl (by simp)) _).drew
      have hfr := h.fresh
      have hk2 := HK2.out
      have hs2 := hk2.1.size
      refine ⟨rfl, g, n, cap, h.blk.keep K3 (by simp; exact h.ne), h.ne, _, hO, ⟨_, _, HN.out⟩, ?_, ?_, by have := h.nb; omega⟩
      · have k23 : Keep [q, g0] w2 (wr.setCell ⟨g, a * 2 + b, none⟩ (.int .i16 (-((k : Int) + 1)))).drew := h.keep.trans K3 (by simp; omega)
        exact (hk2.1.mono (by simp)).trans k23 (fun x hx => .inl hx)
      · omega
end Go.Proofs.YthmojejiaeninaaGreat
namespace Go.Proofs.YthmojejiaeninaaGreat
set_option linter.unusedVariables false
set_option linter.unusedSimpArgs false
open Go.ChangeShapes Go.WideShapes Go.ChangeAt Go.RowKit

theorem under64 : Tryz.prog.underlying 32 = some (.slice (Tryz.prog.elem 32)) ∧ Tryz.prog.elem 32 = 3 := by
  have h := Tryz.underlying32
  constructor
  · simp [Program.elem, h]
  · simp [Program.elem, h]
theorem size64 (w : World) : (Go.sizeOf 3).run Tryz.prog w = .ok 1 w := by
  obtain ⟨i, hi, hz0, hz1, hz2⟩ := info_parts info64
  simp [Go.sizeOf, typeInfo, hi, hz1]
theorem addr_block' (x : Addr) (i : Nat) : (x.add i).block = x.block := by unfold Addr.add; split <;> rfl
theorem Is.cutOf {w : World} {a : Option Addr} {l : List Int} {cap : Nat} (h : Is .i64 w (.slice a l.length cap) l) (i m : Nat) (hi : i ≤ l.length) (hm : l.length ≤ m) (hmc : m ≤ cap) :
    Is .i64 w (sliced a i l.length m 1) (l.drop i) ∧ (∀ b, (sliced a i l.length m 1).ownBlock = some b → (Value.slice a l.length cap).ownBlock = some b) := by
  obtain ⟨a', cap', hv, h1, h2, h3, h4, h5⟩ := h
  simp only [Value.slice.injEq] at hv
  obtain ⟨rfl, _, rfl⟩ := hv
  have e : (l.drop i).length = l.length - i := by simp
  unfold sliced
  constructor
  · refine ⟨_, m - i, by rw [e], by rw [e]; omega, by omega, ?_, fun x hx k hk => ?_, fun z hz => h5 z (List.mem_of_mem_drop hz)⟩
    · intro hn
      split at hn
      · omega
      · have : a = none := by simpa using hn
        have := h3 this; omega
    · rw [e] at hk
      have hne : ¬ m = i := by omega
      rw [if_neg hne] at hx
      cases a with
      | none => simp at hx
      | some y =>
        obtain rfl : y.add (i * 1) = x := by simpa using hx
        rw [Go.Deep.add_add, show i * 1 + k = i + k by omega, h4 y rfl (i + k) (by omega)]
        simp
  · intro b hb
    split at hb
    · cases a with
      | none => simp [Value.ownBlock] at hb
      | some y => simpa [Value.ownBlock] using hb
    · cases a with
      | none => simp [Value.ownBlock] at hb
      | some y => simpa [Value.ownBlock, addr_block'] using hb
/-- v[x:] -/
theorem Is.from {w : World} {v : Value} {l : List Int} (h : Is .i64 w v l) (i : Nat) (x : Int) (hx : x = i) (hi : i ≤ l.length) :
    ∃ v', (∀ W, (Instr.slice 32 v (some (.int .i64 x)) none none).run Tryz.prog W = .ok v' W) ∧ Is .i64 w v' (l.drop i) ∧ ∀ b, v'.ownBlock = some b → v.ownBlock = some b := by
  subst hx
  obtain ⟨a, cap, rfl, h1, h2, _⟩ := id h
  unfold maxLen at h2
  obtain ⟨k1, k2⟩ := h.cutOf i cap hi (by omega) (Nat.le_refl _)
  exact ⟨_, fun W => by rw [run_slice_l W _ _ _ _ under64.1 .i64 _ (by omega) (by omega), under64.2, size64]; rfl, k1, k2⟩
end Go.Proofs.YthmojejiaeninaaGreat
namespace Go.Proofs.YthmojejiaeninaaGreat
set_option linter.unusedVariables false
set_option linter.unusedSimpArgs false
open Go.ChangeShapes Go.WideShapes Go.ChangeAt Go.RowKit

theorem Is.one6 (w : World) (x : Int) (hx : (Lit.int .i64 x).wf = true) : Is .i64 (w.alloc (.cells #[.int .i64 x] 3)) (.slice (some ⟨w.heap.size, 0, none⟩) 1 1) [x] := by
  refine ⟨some ⟨w.heap.size, 0, none⟩, 1, rfl, by simp, by simp [maxLen], (fun h => nomatch h), fun y hy i hi => ?_, by simpa using hx⟩
  obtain rfl : (⟨w.heap.size, 0, none⟩ : Addr) = y := by simpa using hy
  obtain rfl : i = 0 := by simpa using hi
  exact (Blk.new w #[.int .i64 x] 3).cell 0 _ rfl
theorem bits8lt6 (s : RS) : (s.bits 8).1 < 256 := by
  unfold RS.bits
  split
  · simp
  · split
    · simp
    · split
      · simp
      · exact num_lt s.l s.pos 8
theorem bits_l6 (r : RS) (n : Int) : (r.bits n).2.l = r.l := by
  unfold RS.bits RS.fail
  repeat' split
  all_goals rfl
theorem rdk_l (k : Nat) (s : RS) : (rdk k s).l = s.l := by
  induction k with
  | zero => rfl
  | succ k ih => rw [rdk, bits_l6, ih]
theorem rdk_add (a b : Nat) (s : RS) : rdk (a + b) s = rdk b (rdk a s) := by
  induction b with
  | zero => rfl
  | succ b ih => rw [← Nat.add_assoc, rdk, ih]; rfl
/-- what Unpack's loop holds between its rounds -/
structure UnR (w : World) (q : Nat) (v : Value) (s : RS) (l : Value) (k : Nat) (wr : World) : Prop where
  rd : Rr wr q v (rdk k s)
  own : OwnI wr l (lsk k s)
  keep : Keep [q] w wr
  bb : ∀ x, l.ownBlock = some x → w.heap.size ≤ x
/-- within a row -/
structure UnX (w : World) (q : Nat) (v : Value) (s : RS) (l : Value) (L : List Int) (wr : World) : Prop where
  rd : Rr wr q v s
  own : OwnI wr l L
  keep : Keep [q] w wr
  bb : ∀ x, l.ownBlock = some x → w.heap.size ≤ x
set_option maxRecDepth 100000 in
theorem refunp_arg (w : World) (p : Option Addr) (n : Int) (h : n < 1 ∨ 256 < n) : Calls Tryz.prog 107 #[.pointer p, .int .i64 n] w fun e w' => e = .returned (.tuple #[.slice none 0 0, .int .i64 2]) ∧ Keep [] w w' := by
  by_cases h1 : n < 1
  · clear h
    go_enter Tryz.func107, Tryz.ntmps107
    go_wp2_with fail
    go_ret2
    exact ⟨rfl, Keep.refl [] w⟩
  · have h2 : 256 < n := by omega
    clear h
    go_enter Tryz.func107, Tryz.ntmps107
    go_wp2_with fail
    go_ret2
    exact ⟨rfl, Keep.refl [] w⟩
set_option maxRecDepth 100000 in
set_option maxHeartbeats 4000000 in
theorem refunp_ok (w : World) (q : Nat) (v : Value) (s : RS) (n : Int) (hr : Rr w q v s) (h1 : 1 ≤ n) (h2 : n ≤ 256) : Calls Tryz.prog 107 #[.pointer (some ⟨q, 0, none⟩), .int .i64 n] w fun e w' => ∃ v', e = .returned (.tuple #[v', .int .i64 (s.unp n).2.1]) ∧ Is .i64 w' v' (s.unp n).1 ∧ Keep [q] w w' ∧ (∀ b, v'.ownBlock = some b → w.heap.size ≤ b) ∧ ((s.unp n).2.1 = 0 → Rr w' q v (s.unp n).2.2) := by
  have HU := Lib.hid (unp_ok s n h1 h2)
  have h81 := bits8lt6 s
  have hql := hr.1.lt
  have hvl := Lib.hid (fun hl => hr.2.1.lt hl)
  have HB := Lib.hid (rbits_c w q v s 8 hr)
  have hlK := bits_l6 s 8
  have HVL : Hid ((s.bits 8).2.l ≠ [] → ∀ b, v.ownBlock = some b → b < w.heap.size) := by intro hl; exact hvl.out (by rw [← hlK]; exact hl)
  clear hr hvl hlK
  have hn1 : ¬ n < 1 := by omega
  have hn2 : ¬ 256 < n := by omega
  go_enter Tryz.func107, Tryz.ntmps107
  go_wp2_with fail
  refine HB.out.mono ?_; rintro e w1 ⟨rfl, hr1, hk1⟩
  have hS0 : Hid (UnR w q v (s.bits 8).2 (.slice none 0 0) 0 w1) := ⟨hr1, OwnI.nil w1, hk1, by simp [Value.ownBlock]⟩
  clear hr1 hk1 HB
  generalize (s.bits 8).1 = x0 at *
  generalize (s.bits 8).2 = s1 at *
  have hw1 : IntKind.i64.wrap (x0 : Int) = x0 := by rw [IntKind.wrap_i64]; omega
  have hw2 : IntKind.i64.wrap ((x0 : Int) + 1) = ((x0 + 1 : Nat) : Int) := by rw [IntKind.wrap_i64]; omega
  obtain ⟨N, hN⟩ : ∃ N, x0 + 1 = N := ⟨_, rfl⟩
  rw [hN] at HU hw2
  have hN1 : 1 ≤ N := by omega
  have hN2 : N ≤ 256 := by omega
  go_wp2_with fail
  clear hw1 hw2 h81 hN
  go_loopw [7, 8] (fun l i wr => ∃ (k : Nat) (a : Option Addr) (c : Nat), k ≤ N ∧ i = .int .i64 k ∧ l = .slice a (lsk k s1).length c ∧ Hid (UnR w q v s1 (.slice a (lsk k s1).length c) k wr) ∧ Hid (0 < k → (rdk k s1).E = 0)) (fun _ i _ => N - (intOf i).toNat)
  case atStart => exact ⟨0, none, 0, by omega, rfl, rfl, hS0, fun h => absurd h (by decide)⟩
  case round =>
    clear hS0
    obtain ⟨k, a, c, hk, rfl, rfl, HS, HE0⟩ := hrel
    by_cases hlt : k < N
    · have HB := Lib.hid (rbits_c wr q v (rdk k s1) 8 HS.out.rd)
      have hx := bits8lt6 (rdk k s1)
      have hll := lsk_len k s1 (fun j _ => bits8lt6 _)
      have hnx : Hid (lsk (k + 1) s1 = lsk k s1 ++ rowOf ((rdk k s1).bits 8).1) := rfl
      have hrx : Hid (rdk (k + 1) s1 = ((rdk k s1).bits 8).2) := rfl
      have hlk : Hid ((rdk (k + 1) s1).l = s1.l) := rdk_l _ _
      go_wp2_with fail
      refine HB.out.mono ?_; rintro e w2 ⟨rfl, hr2, hk2⟩
      rw [← hrx.out] at hr2
      have c2 := hr2.1.cell 2 _ rfl
      have hEr := hr2.E
      have hEK : Hid ((rdk (k + 1) s1).E ≠ 0 → rdk N s1 = rdk (k + 1) s1) := by
        intro h
        have e : N = (k + 1) + (N - (k + 1)) := by omega
        rw [e, rdk_add, rdk_err _ _ h]
      clear HB hrx
      generalize ((rdk k s1).bits 8).1 = x at *
      have e1 : IntKind.i64.wrap (x : Int) = x := by rw [IntKind.wrap_i64]; omega
      have K2 : Keep [q] w w2 := HS.out.keep.trans hk2 (fun b hb => .inl hb)
      have hO2 := HS.out.own.keep hk2 (fun b hb hm => by have := HS.out.bb b hb; simp at hm; omega)
      have hbb := Lib.hid HS.out.bb
      clear HS hk2 HE0
      by_cases hE : (rdk (k + 1) s1).E = 0
      · have herr : (((rdk (k + 1) s1).err : Int) != 0) = false := by simp; omega
        have HE1 : Hid (0 < k + 1 → (rdk (k + 1) s1).E = 0) := fun _ => hE
        have HS2 : Hid (UnX w q v (rdk (k + 1) s1) (.slice a (lsk k s1).length c) (lsk k s1) w2) := ⟨hr2, hO2, K2, hbb.out⟩
        have hro : Hid (rowOf x = List.replicate (x / 16 + 1) ((x : Int) % 16 + 1)) := by
          unfold Hid rowOf
          rw [show (((x % 16 + 1 : Nat)) : Int) = (x : Int) % 16 + 1 by omega]
        have hq : x / 16 ≤ 15 := by omega
        have HSK : ∃ sk, Hid (rdk (k + 1) s1 = sk) := ⟨_, rfl⟩
        obtain ⟨sk, HSK⟩ := HSK
        rw [HSK.out] at herr HE1 HS2 c2 hlk
        generalize lsk k s1 = Lk at *
        clear hE hEr hr2 hO2 K2 hbb hEK
        go_wp2_with fail
        clear c2
        go_loopw [7, 10] (fun l j wr => ∃ (p : Nat) (a : Option Addr) (c : Nat), p ≤ x / 16 + 1 ∧ j = .int .i64 p ∧ l = .slice a (Lk.length + p) c ∧ Hid (UnX w q v sk (.slice a (Lk.length + p) c) (Lk ++ List.replicate p ((x : Int) % 16 + 1)) wr)) (fun _ j _ => 20 - (intOf j).toNat)
        case atStart => exact ⟨0, a, c, by omega, rfl, rfl, by simpa using HS2⟩
        case round =>
          clear HS2
          obtain ⟨p, a4, c4, hp, rfl, rfl, HX⟩ := hrel
          have hqi : ((x / 16 : Nat) : Int) = (x : Int) / 16 := by omega
          by_cases hpx : p < x / 16 + 1
          · have hle : (p : Int) ≤ (x : Int) / 16 := by omega
            have hwf : (Lit.int .i64 ((x : Int) % 16 + 1)).wf = true := by simp [Lit.wf, IntKind.min, IntKind.max, IntKind.bits, IntKind.signed]; omega
            have hI := fun (u : World) => Is.one6 u ((x : Int) % 16 + 1) hwf
            have HII := Lib.hid hI
            have hlen2 : (Lk ++ List.replicate p ((x : Int) % 16 + 1)).length + 1 ≤ 17592186044416 := by simp; omega
            have hle2 : (Lk ++ List.replicate p ((x : Int) % 16 + 1)).length = Lk.length + p := by simp
            have HL2 := Lib.hid hlen2; have HLE := Lib.hid hle2
            have hsn : Hid ((Lk ++ List.replicate p ((x : Int) % 16 + 1)) ++ [(x : Int) % 16 + 1] = Lk ++ List.replicate (p + 1) ((x : Int) % 16 + 1)) := by
              unfold Hid; rw [List.append_assoc, ← List.replicate_succ']
            have hO3 := Lib.hid (fun o => (HX.out.own.keep ((Keep.refl [] wr).alloc o) (by simp)))
            have hR3 := Lib.hid (fun o => (HX.out.rd.keep ((Keep.refl [] wr).alloc o) (by simp) (by simp)))
            have hK3 := Lib.hid (fun o => (HX.out.keep.trans ((Keep.refl [] wr).alloc o) (by simp)))
            have hbb := Lib.hid HX.out.bb
            clear hI hlen2 hle2 HX hwf
            generalize Lk ++ List.replicate p ((x : Int) % 16 + 1) = M at *
            go_wp2_with (at_builtin; (refine wpList_appendI (.tmp 44) (.tmp 48) rfl rfl (.slice a4 (Lk.length + p) c4) M rfl (hO3.out _) _ [(x : Int) % 16 + 1] rfl (HII.out _) HL2.out ?_); (intro v4 w4 ho4 hk4 hb4 hz4))
            obtain ⟨a5, c5, rfl, hl5⟩ := ho4.is.sh
            have e5 : (M ++ [(x : Int) % 16 + 1]).length = Lk.length + (p + 1) := by simp; have := HLE.out; omega
            rw [e5] at hb4 ho4
            rw [hsn.out] at ho4
            refine ⟨⟨p + 1, a5, c5, by omega, by simp, by rw [e5], ?_⟩, by simp [intOf]; omega⟩
            refine ⟨(hR3.out _).keep hk4 (fun hm => ?_) ?_, ho4, (hK3.out _).trans hk4 (fun b hb => .inr (hbb.out b (by simpa using hb))), fun b hb => ?_⟩
            · have := hbb.out q (by simpa using hm); omega
            · intro hl b hb hm
              have h1 := HVL.out (by rw [← hlk.out]; exact hl) b hb
              have h2 := hbb.out b (by simpa using hm)
              omega
            · rcases hb4 b hb with h | h
              · exact hbb.out b h
              · rw [h]; exact (hK3.out _).size
          · have hle : ¬ (p : Int) ≤ (x : Int) / 16 := by omega
            have hp2 : p = x / 16 + 1 := by omega
            have HP := Lib.hid hp2
            have hfin : Hid (UnX w q v sk (.slice a4 (Lk.length + p) c4) (lsk (k + 1) s1) wr) := by
              have := HX.out
              rw [hp2, ← hro.out, ← hnx.out] at this
              rw [hp2]; exact this
            have hfl : Hid (Lk.length + p = (lsk (k + 1) s1).length) := by
              unfold Hid; rw [hnx.out, hro.out, hp2]; simp
            clear HX hp2
            go_wp2_with fail
            go_roundw
            case rel => exact ⟨k + 1, a4, c4, by omega, by first | rfl | simp, by rw [← hfl.out], ⟨by rw [HSK.out]; exact hfin.out.rd, by rw [← hfl.out]; exact hfin.out.own, hfin.out.keep, by rw [← hfl.out]; exact hfin.out.bb⟩, by rw [HSK.out]; exact HE1.out⟩
            case measure => simp [intOf]; omega
      · have herr : (((rdk (k + 1) s1).err : Int) != 0) = true := by simp; omega
        have hu := HU.out.1 (by rw [hEK.out hE]; exact hE)
        rw [hEK.out hE, hEr] at hu
        have HUU := Lib.hid hu
        have hE9 : (rdk (k + 1) s1).err ≠ 0 := by omega
        have HE9 := Lib.hid hE9
        generalize (rdk (k + 1) s1).err = ee at *
        clear hE hEr hEK HU hu hE9 hO2 hbb
        go_wp2_with fail
        go_quiet (fail)
        go_wp2_with fail
        go_ret2
        rw [HUU.out.1, HUU.out.2]
        exact ⟨_, rfl, (OwnI.nil _).is, K2.drewN _, by simp [Value.ownBlock], fun h => absurd h HE9.out⟩
    · obtain rfl : k = N := by omega
      have hE : (rdk k s1).E = 0 := HE0.out (by omega)
      by_cases hlen : ((lsk k s1).length : Int) = n
      · have hu := Lib.hid (HU.out.2.2 hE hlen)
        clear HU hE HE0
        subst hlen
        go_wp2_with fail
        go_ret2
        rw [hu.out]
        exact ⟨_, rfl, HS.out.own.is, HS.out.keep, HS.out.bb, fun _ => HS.out.rd⟩
      · have hu := Lib.hid (HU.out.2.1 hE hlen)
        have hne : (((lsk k s1).length : Int) == n) = false := by simpa using hlen
        clear HU hE hlen HE0
        go_wp2_with fail
        go_ret2
        rw [hu.out]
        exact ⟨_, rfl, (OwnI.nil wr).is, HS.out.keep, by simp [Value.ownBlock], fun _ => HS.out.rd⟩
theorem refunp_c (w : World) (q : Nat) (v : Value) (s : RS) (n : Int) (hr : Rr w q v s) : Calls Tryz.prog 107 #[.pointer (some ⟨q, 0, none⟩), .int .i64 n] w fun e w' => ∃ v', e = .returned (.tuple #[v', .int .i64 (s.unp n).2.1]) ∧ Is .i64 w' v' (s.unp n).1 ∧ Keep [q] w w' ∧ (∀ b, v'.ownBlock = some b → w.heap.size ≤ b) ∧ ((s.unp n).2.1 = 0 → Rr w' q v (s.unp n).2.2) := by
  by_cases h : n < 1 ∨ 256 < n
  · have e : s.unp n = ([], 2, s) := by unfold RS.unp; rw [if_pos h]
    rw [e]
    refine (refunp_arg w _ n h).mono ?_
    rintro e w' ⟨rfl, hk⟩
    exact ⟨_, rfl, (OwnI.nil w').is, hk.mono (by simp), by simp [Value.ownBlock], fun h => by simp at h⟩
  · exact refunp_ok w q v s n hr (by omega) (by omega)
end Go.Proofs.YthmojejiaeninaaGreat
namespace Go.Proofs.YthmojejiaeninaaGreat
set_option linter.unusedVariables false
set_option linter.unusedSimpArgs false
set_option maxRecDepth 100000

/-- what is counted goes just as far as P holds -/
theorem cntUp_eq {P : Nat → Bool} {m a : Nat} (ha : a ≤ m) (hall : ∀ j, j < a → P j = true) (hstop : a = m ∨ P a = false) : cntUp P m 0 = a := by
  have h1 := cntUp_ge P m 0 a (Nat.zero_le _) (by omega) (fun j _ h => hall j h)
  have h2 := (cntUp_le P m 0).2
  rcases hstop with h | h
  · omega
  · refine Nat.le_antisymm (Nat.le_of_not_lt fun hlt => ?_) h1
    have := cntUp_all P m 0 a (Nat.zero_le _) hlt
    rw [h] at this; cases this
theorem sme_all {b : List UInt8} {f i m j : Nat} (h : j < sme b f i m) : i + j < b.length ∧ b.getD (f + j) 0 = b.getD (i + j) 0 := by
  have := cntUp_all (sm1 b f i) m 0 j (Nat.zero_le _) h
  unfold sm1 at this
  simpa using this
theorem sme_le (b : List UInt8) (f i m : Nat) : sme b f i m ≤ m := by
  have := (cntUp_le (sm1 b f i) m 0).2
  unfold sme; omega
/-- m bytes are the same from two places on -/
def eqm (b : List UInt8) (f i m : Nat) : Prop := i + m ≤ b.length ∧ ∀ j, j < m → b.getD (f + j) 0 = b.getD (i + j) 0
theorem sme_iff {b : List UInt8} {f i m : Nat} (hm : 0 < m) : ¬ sme b f i m < m ↔ eqm b f i m := by
  constructor
  · intro h
    have e : sme b f i m = m := by have := sme_le b f i m; omega
    refine ⟨?_, fun j hj => (sme_all (m := m) (by rw [e]; exact hj)).2⟩
    have := (sme_all (b := b) (f := f) (i := i) (m := m) (j := m - 1) (by omega)).1
    omega
  · intro ⟨h1, h2⟩
    have : sme b f i m = m := cntUp_eq (Nat.le_refl _) (fun j hj => by
      unfold sm1
      rw [decide_eq_true (show i + j < b.length by omega), h2 j hj]; simp) (.inl rfl)
    omega
/-- the nearest place below k from which on the same m bytes stand as from i on -/
def prv (b : List UInt8) (m i : Nat) : Nat → Option Nat
  | 0 => none
  | k + 1 => if sme b k i m < m then prv b m i k else some k
theorem prv_some {b : List UInt8} {m i k p : Nat} (hm : 0 < m) (h : prv b m i k = some p) : p < k ∧ eqm b p i m := by
  induction k with
  | zero => cases h
  | succ k ih =>
    rw [prv] at h
    split at h
    · have := ih h; exact ⟨by omega, this.2⟩
    · next h1 =>
      obtain rfl : k = p := Option.some.inj h
      exact ⟨by omega, (sme_iff hm).1 h1⟩
/-- behind a place with the same bytes the same places come -/
theorem prv_chain {b : List UInt8} {m i p : Nat} (hm : 0 < m) (hpi : p ≤ i) (h : eqm b p i m) (k : Nat) (hk : k ≤ p) : prv b m p k = prv b m i k := by
  induction k with
  | zero => rfl
  | succ k ih =>
    have e : (sme b k p m < m) ↔ (sme b k i m < m) := by
      have h1 := sme_iff (b := b) (f := k) (i := p) hm
      have h2 := sme_iff (b := b) (f := k) (i := i) hm
      have h3 : eqm b k p m ↔ eqm b k i m := by
        constructor
        · intro ⟨a1, a2⟩; exact ⟨h.1, fun j hj => (a2 j hj).trans (h.2 j hj)⟩
        · intro ⟨a1, a2⟩; exact ⟨by omega, fun j hj => (a2 j hj).trans (h.2 j hj).symm⟩
      constructor
      · intro g; exact Decidable.not_not.1 fun g' => (h1.2 (h3.2 (h2.1 g'))) g
      · intro g; exact Decidable.not_not.1 fun g' => (h2.2 (h3.1 (h1.1 g'))) g
    rw [prv, prv, ih (by omega)]
    by_cases g : sme b k i m < m
    · rw [if_pos g, if_pos (e.2 g)]
    · rw [if_neg g, if_neg (fun g' => g (e.1 g'))]
/-- how far back the nearest place with the same m bytes is -/
def bck (b : List UInt8) (m i : Nat) : Nat := match prv b m i i with | some p => i - p | none => 0
theorem bck_some {b : List UInt8} {m i p : Nat} (h : prv b m i i = some p) : bck b m i = i - p := by unfold bck; rw [h]
theorem bck_none {b : List UInt8} {m i : Nat} (h : prv b m i i = none) : bck b m i = 0 := by unfold bck; rw [h]
theorem prv_short {b : List UInt8} {m i : Nat} (hm : 0 < m) (h : b.length < i + m) (k : Nat) : prv b m i k = none := by
  induction k with
  | zero => rfl
  | succ k ih =>
    rw [prv, if_pos, ih]
    exact Decidable.not_not.1 fun g => by have := ((sme_iff hm).1 g).1; omega
theorem bck_short {b : List UInt8} {m i : Nat} (hm : 0 < m) (h : b.length < i + m) : bck b m i = 0 := bck_none (prv_short hm h i)
/-- what is found, when one place more is looked at -/
def updB (b : List UInt8) (s : Sh) (i p : Nat) (best : Tk) : Tk := if best.len < (sme b p i s.max.toNat : Int) then ⟨0, (i : Int) - p, sme b p i s.max.toNat⟩ else best
theorem atF_prv (b : List UInt8) (s : Sh) (i k L : Nat) (best : Tk) : atF b s i k L best = match prv b s.min.toNat i k with
    | none => best
    | some p => if (i : Int) - p ≤ s.win ∧ (L : Int) < s.chain then atF b s i p (L + 1) (updB b s i p best) else best := by
  induction k with
  | zero => rfl
  | succ k ih =>
    rw [atF, prv]
    by_cases h1 : (i : Int) - k ≤ s.win ∧ (L : Int) < s.chain
    · rw [if_pos h1]
      by_cases h2 : sme b k i s.min.toNat < s.min.toNat
      · rw [if_pos h2, if_pos h2, ih]
      · rw [if_neg h2, if_neg h2]
        show _ = if (i : Int) - k ≤ s.win ∧ (L : Int) < s.chain then _ else best
        rw [if_pos h1]; rfl
    · rw [if_neg h1]
      by_cases h2 : sme b k i s.min.toNat < s.min.toNat
      · rw [if_pos h2]
        cases h : prv b s.min.toNat i k with
        | none => rfl
        | some p =>
          have hp : p < k := by
            by_cases hm : 0 < s.min.toNat
            · exact (prv_some hm h).1
            · omega
          show best = if _ then _ else best
          rw [if_neg (fun g => h1 ⟨by omega, g.2⟩)]
      · rw [if_neg h2]
        show best = if _ then _ else best
        rw [if_neg h1]
/-- no more than all that is left of the text -/
theorem sme_most (b : List UInt8) (p i m : Nat) (hi : i ≤ b.length) : sme b p i m ≤ min m (b.length - i) := by
  have h := sme_le b p i m
  by_cases h0 : sme b p i m = 0
  · omega
  · have := (sme_all (b := b) (f := p) (i := i) (m := m) (j := sme b p i m - 1) (by omega)).1
    omega
/-- when the best one is as long as can be, none behind it counts -/
theorem atF_full {b : List UInt8} {s : Sh} {i : Nat} (hi : i ≤ b.length) (k L : Nat) (best : Tk) (h : ((min s.max.toNat (b.length - i) : Nat) : Int) ≤ best.len) : atF b s i k L best = best := by
  induction k generalizing L with
  | zero => rfl
  | succ k ih =>
    have := sme_most b k i s.max.toNat hi
    rw [atF]
    split
    · split
      · exact ih _
      · rw [if_neg (by omega)]; exact ih _
    · rfl
/-- too few bytes are left -/
theorem atT_few {b : List UInt8} {s : Sh} (hs : s.ok) {i : Nat} (hi : i ≤ b.length) (h : min s.max.toNat (b.length - i) < s.min.toNat) : atT b s i = ⟨0, 0, 0⟩ := by
  obtain ⟨h1, h2, h3, h4, h5, h6, h7, h8⟩ := hs
  unfold atT
  rw [atF_prv, prv_short (by omega) (by omega)]
/-- a byte that differs: no longer than that -/
theorem sme_differ {b : List UInt8} {p i m a : Nat} (h : b.getD (p + a) 0 ≠ b.getD (i + a) 0) : sme b p i m ≤ a :=
  Nat.le_of_not_lt fun g => h (sme_all g).2
/-- counted from the bytes on that are known to be the same -/
theorem sme_from {b : List UInt8} {p i m : Nat} {n : Nat} (hi : i ≤ b.length) (hn : n ≤ min m (b.length - i)) (hall : ∀ j, j < n → b.getD (p + j) 0 = b.getD (i + j) 0)
    (hstop : n = min m (b.length - i) ∨ b.getD (p + n) 0 ≠ b.getD (i + n) 0) : sme b p i m = n := by
  refine cntUp_eq (by omega) (fun j hj => ?_) ?_
  · unfold sm1
    rw [decide_eq_true (show i + j < b.length by omega), hall j hj]; simp
  · by_cases h1 : n = m
    · exact .inl h1
    · refine .inr ?_
      unfold sm1
      rcases hstop with h | h
      · rw [decide_eq_false (by omega)]; rfl
      · rw [beq_eq_false_iff_ne.2 h, Bool.and_false]
end Go.Proofs.YthmojejiaeninaaGreat
namespace Go.Proofs.YthmojejiaeninaaGreat
set_option linter.unusedVariables false
set_option linter.unusedSimpArgs false
set_option maxRecDepth 100000
open Go.ChangeShapes Go.WideShapes Go.ChangeAt Go.RowKit

theorem laidOut9 : laidOutB Tryz.prog = true := by kernel_rfl
theorem row67 : (160 : TypeId) < Tryz.prog.types.size := of_decide_eq_true (by kernel_rfl)
theorem deep67 : Tryz.prog.keyTypeAt (Tryz.prog.types.size + 1) 160 = true := by kernel_rfl
theorem cells67 : Tryz.prog.cellsOf 160 = 3 := by kernel_rfl
theorem cells5 : Tryz.prog.cellsOf 5 = 1 := by kernel_rfl
theorem wide67 : (match Tryz.prog.underlying 160 with | some (.array _ _) | some (.struct _) => true | _ => false) = true := by rw [Tryz.underlying160]
theorem law67 : WideMaps.KeyLaw Tryz.prog 160 := deep_law_laid laidOut9 (m := 2) (by omega) row67 (by kernel_rfl) wide67
theorem keyed67 : Maps.Keyed Tryz.prog 160 := Maps.Keyed.of_law law67
/-- a key's cells -/
def key3 (k : List UInt8) : Value := .agg (ints8 k).toArray
theorem bytes1 (x : UInt8) : (Lit.int .u8 (x.toNat : Int)).keyBytes = [x] := by
  have h : (x.toNat : Int) % 2 ^ 8 = x.toNat := by have := x.toNat_lt; omega
  unfold Lit.keyBytes
  show bytesBE 1 ((x.toNat : Int) % 2 ^ 8).toNat = [x]
  rw [h]
  simp [bytesBE, bytesLE]
theorem keyOf67 (k : List UInt8) (hk : k.length = 3) : keyOf Tryz.prog 160 (key3 k) = some (.string k) := by
  obtain ⟨a, b, c, rfl⟩ : ∃ a b c, k = [a, b, c] := by
    match k, hk with
    | [a, b, c], _ => exact ⟨a, b, c, rfl⟩
  have hkt : Tryz.prog.keyType 160 = true := deep67
  have hf : (key3 [a, b, c]).formed Tryz.prog 160 = true := by simp [key3, ints8, Value.formed, Tryz.underlying160, cells67]
  have hrow : (160 : Nat) < Tryz.prog.types.size := row67
  obtain ⟨n, hn⟩ : ∃ n, Tryz.prog.types.size + 1 = n + 2 := ⟨Tryz.prog.types.size - 1, by omega⟩
  have one : ∀ x : UInt8, Tryz.prog.keyLits (n + 1) 5 [.int .u8 (x.toNat : Int)] = some [.int .u8 (x.toNat : Int)] := fun x => by
    have : (Lit.int .u8 (x.toNat : Int)).wf = true := by have := x.toNat_lt; simp [Lit.wf, IntKind.min, IntKind.max, IntKind.signed, IntKind.bits]; omega
    simp [Program.keyLits, Tryz.underlying5, this]
  have hl : Tryz.prog.keyLits (Tryz.prog.types.size + 1) 160 (key3 [a, b, c]).cells.toList = some [.int .u8 (a.toNat : Int), .int .u8 (b.toNat : Int), .int .u8 (c.toNat : Int)] := by
    rw [hn]
    simp only [key3, ints8, Value.cells, List.map_cons, List.map_nil]
    have hu := Tryz.underlying160
    unfold Program.keyLits
    rw [hu]
    simp only [cells67, cells5]
    simp [List.range_succ, one]
  unfold keyOf
  rw [Tryz.underlying160]
  simp only [hkt, hf, hl, Bool.and_self, if_true, Option.map_some]
  simp [keyBytes, bytes1]
/-- block g is a map that tells where a key was last -/
def LastM (w : World) (g n : Nat) (L : List UInt8 → Option Nat) : Prop :=
  ∃ D : DataW Unit, w.ownsMap Tryz.prog 160 (plainElem Tryz.prog 21) g n D ∧ Maps.IsMap D ∧ ∀ k : List UInt8, k.length = 3 → match L k with
    | none => Maps.has D (.string k) = false
    | some p => Maps.has D (.string k) = true ∧ ∀ z, D.atKey (.string k) z = .lit (.int .i32 p)
theorem LastM.made (w : World) : LastM (w.alloc (.map #[] 0)) w.heap.size 0 (fun _ => none) :=
  ⟨.map [], World.ownsMap_made w _ _ _, Maps.isMap_empty, fun _ _ => rfl⟩
theorem LastM.lt {w : World} {g n : Nat} {L : List UInt8 → Option Nat} (h : LastM w g n L) : g < w.heap.size := by
  obtain ⟨D, h1, _⟩ := h; exact h1.lt
theorem LastM.keep {w w' : World} {g n : Nat} {L : List UInt8 → Option Nat} {S : List Nat} (h : LastM w g n L) (k : Keep S w w') (hg : g ∉ S) : LastM w' g n L := by
  have hlt := h.lt
  obtain ⟨D, ⟨es, clock, hb, F, hs, hD⟩, h2, h3⟩ := h
  exact ⟨D, ⟨es, clock, (k.block g hlt hg).trans hb, F, hs, hD⟩, h2, h3⟩
theorem zero32 (w : World) : (zeroValue 21).run Tryz.prog w = .ok (.int .i32 0) w := by kernel_rfl
/-- v, ok := m[k] -/
theorem LastM.look {w : World} {g n : Nat} {L : List UInt8 → Option Nat} (h : LastM w g n L) (k : List UInt8) (hk : k.length = 3) :
    (Instr.lookup 158 (.map (some g)) (key3 k) true).run Tryz.prog w = .ok (.tuple (match L k with | none => #[.int .i32 0, .bool false] | some p => #[.int .i32 p, .bool true])) w := by
  obtain ⟨D, ⟨es, clock, hb, F, hs, hD⟩, h2, h3⟩ := h
  have h4 := h3 k hk
  rcases Maps.fit_look true keyed67 Tryz.underlying158 (zero32 w) hb F (keyOf67 k hk) with ⟨r1, r2, r3⟩ | ⟨e0, y, r0, r1, r2, r3, r4, r5⟩
  · rw [← hD] at r3
    have hn := Maps.has_false_of_atKey r3
    cases hL : L k with
    | none => exact r1
    | some p => rw [hL] at h4; have := h4.1; rw [hn] at this; cases this
  · rw [← hD] at r4
    have hy := Maps.has_true_of_atKey r4
    cases hL : L k with
    | none => rw [hL] at h4; simp only at h4; rw [hy] at h4; cases h4
    | some p =>
      rw [hL] at h4
      obtain ⟨a, ha, hz, _⟩ := plainElem_int_inv Tryz.underlying21 r3
      have e1 := (h4.2 .nil).symm.trans (r4 .nil)
      rw [hz] at e1
      have e2 : (p : Int) = a := by simpa using e1
      rw [r2, ha, ← e2]; rfl
/-- m[k] = v -/
theorem LastM.put {w : World} {g n : Nat} {L : List UInt8 → Option Nat} (h : LastM w g n L) (hn : n < 2147483647) (k : List UInt8) (hk : k.length = 3) (p : Nat) (hp : p < 2147483648) (W : World → Prop)
    (hW : ∀ w', LastM w' g (n + 1) (fun k' => if k' = k then some p else L k') → Keep [g] w w' → W w') :
    ∃ w', (Instr.mapUpdate 158 (.map (some g)) (key3 k) (.int .i32 (p : Int))).run Tryz.prog w = .ok () w' ∧ W w' := by
  obtain ⟨D, h1, h2, h3⟩ := h
  have hwf : (Lit.int .i32 (p : Int)).wf = true := by simp [Lit.wf, IntKind.min, IntKind.max, IntKind.signed, IntKind.bits]; omega
  obtain ⟨w', hr, g1, g2⟩ := h1.update keyed67 Tryz.underlying158 (by unfold maxLen; omega) (keyOf67 k hk) (plainElem_int Tryz.underlying21 hwf)
  refine ⟨w', hr, hW w' ⟨_, g1, h2.put _ _, fun k' hk' => ?_⟩ ((Keep.refl _ _).grown g2 (fun _ e => .inl (by simp at e ⊢; exact e.symm)))⟩
  by_cases e : k' = k
  · subst e
    simp only [if_true]
    exact ⟨Maps.has_put_same h2 (show WideAt.IsKeyLit (.string k') from trivial) _, fun z => Maps.atKey_put_same h2 (show WideAt.IsKeyLit (.string k') from trivial) _ z⟩
  · simp only [if_neg e]
    have h4 := h3 k' hk'
    have hne : (Lit.string k') ≠ (.string k) := fun q => e (by simpa using q)
    cases hL : L k' with
    | none => rw [hL] at h4; simp only at h4 ⊢; rw [Maps.has_put_other hne]; exact h4
    | some q =>
      rw [hL] at h4
      exact ⟨by rw [Maps.has_put_other hne]; exact h4.1, fun z => by rw [Maps.atKey_put_other hne]; exact h4.2 z⟩
end Go.Proofs.YthmojejiaeninaaGreat
namespace Go.Proofs.YthmojejiaeninaaGreat
set_option linter.unusedVariables false
set_option linter.unusedSimpArgs false
open Go.ChangeShapes Go.WideShapes Go.ChangeAt Go.RowKit

/-- a shape's cells -/
def Sh.cells (s : Sh) : Array Value := #[.int .i64 s.win, .int .i64 s.min, .int .i64 s.max, .int .i64 s.chain, .bool s.lazy]
def Sh.val (s : Sh) : Value := .agg s.cells
theorem dec_t {p : Prop} [Decidable p] (h : p) : decide p = true := by simpa using h
theorem dec_f {p : Prop} [Decidable p] (h : ¬ p) : decide p = false := by simpa using h

set_option maxRecDepth 100000 in
set_option maxHeartbeats 4000000 in
theorem refcheck9_c (w : World) (s : Sh) : Calls Tryz.prog 54 #[s.val] w fun e w' => e = .returned (.bool (decide s.ok)) ∧ Keep [] w w' := by
  have HD : Hid (s.ok ↔ (1 ≤ s.win ∧ s.win ≤ 65536 ∧ 2 ≤ s.min ∧ s.min ≤ 3 ∧ s.min ≤ s.max ∧ s.max ≤ 65538 ∧ 0 ≤ s.chain ∧ s.chain ≤ 4096)) := Iff.rfl
  obtain ⟨win, mn, mx, ch, lz⟩ := s
  simp only at HD
  have key : ∀ b : Bool, ((⟨win, mn, mx, ch, lz⟩ : Sh).ok ↔ b = true) → decide (⟨win, mn, mx, ch, lz⟩ : Sh).ok = b := by
    intro b hb; cases b <;> simp_all
  have HKY := Lib.hid key
  clear key
  show Calls Tryz.prog 54 #[.agg #[.int .i64 win, .int .i64 mn, .int .i64 mx, .int .i64 ch, .bool lz]] w _
  by_cases h1 : 1 ≤ win
  case neg =>
    have q : Hid (decide (⟨win, mn, mx, ch, lz⟩ : Sh).ok = false) := HKY.out _ (by have := HD.out; rw [this]; simp only [Bool.false_eq_true, iff_false]; omega)
    have d1 := dec_f h1
    clear h1
    go_enter Tryz.func54, Tryz.ntmps54
    go_wp2_with fail
    go_ret
    exact ⟨by rw [q.out]; rfl, by first | exact ((Keep.refl [] w).alloc _) | exact ((Keep.refl [] w).alloc _).drewN _⟩
  have d1 := dec_t h1
  by_cases h2 : win ≤ 65536
  case neg =>
    have q : Hid (decide (⟨win, mn, mx, ch, lz⟩ : Sh).ok = false) := HKY.out _ (by have := HD.out; rw [this]; simp only [Bool.false_eq_true, iff_false]; omega)
    have d2 := dec_f h2
    clear h1 h2
    go_enter Tryz.func54, Tryz.ntmps54
    go_wp2_with fail
    go_ret
    exact ⟨by rw [q.out]; rfl, by first | exact ((Keep.refl [] w).alloc _) | exact ((Keep.refl [] w).alloc _).drewN _⟩
  have d2 := dec_t h2
  by_cases h3 : 2 ≤ mn
  case neg =>
    have q : Hid (decide (⟨win, mn, mx, ch, lz⟩ : Sh).ok = false) := HKY.out _ (by have := HD.out; rw [this]; simp only [Bool.false_eq_true, iff_false]; omega)
    have d3 := dec_f h3
    clear h1 h2 h3
    go_enter Tryz.func54, Tryz.ntmps54
    go_wp2_with fail
    go_ret
    exact ⟨by rw [q.out]; rfl, by first | exact ((Keep.refl [] w).alloc _) | exact ((Keep.refl [] w).alloc _).drewN _⟩
  have d3 := dec_t h3
  by_cases h4 : mn ≤ 3
  case neg =>
    have q : Hid (decide (⟨win, mn, mx, ch, lz⟩ : Sh).ok = false) := HKY.out _ (by have := HD.out; rw [this]; simp only [Bool.false_eq_true, iff_false]; omega)
    have d4 := dec_f h4
    clear h1 h2 h3 h4
    go_enter Tryz.func54, Tryz.ntmps54
    go_wp2_with fail
    go_ret
    exact ⟨by rw [q.out]; rfl, by first | exact ((Keep.refl [] w).alloc _) | exact ((Keep.refl [] w).alloc _).drewN _⟩
  have d4 := dec_t h4
  by_cases h5 : mn ≤ mx
  case neg =>
    have q : Hid (decide (⟨win, mn, mx, ch, lz⟩ : Sh).ok = false) := HKY.out _ (by have := HD.out; rw [this]; simp only [Bool.false_eq_true, iff_false]; omega)
    have d5 := dec_f h5
    clear h1 h2 h3 h4 h5
    go_enter Tryz.func54, Tryz.ntmps54
    go_wp2_with fail
    go_ret
    exact ⟨by rw [q.out]; rfl, by first | exact ((Keep.refl [] w).alloc _) | exact ((Keep.refl [] w).alloc _).drewN _⟩
  have d5 := dec_t h5
  by_cases h6 : mx ≤ 65538
  case neg =>
    have q : Hid (decide (⟨win, mn, mx, ch, lz⟩ : Sh).ok = false) := HKY.out _ (by have := HD.out; rw [this]; simp only [Bool.false_eq_true, iff_false]; omega)
    have d6 := dec_f h6
    clear h1 h2 h3 h4 h5 h6
    go_enter Tryz.func54, Tryz.ntmps54
    go_wp2_with fail
    go_ret
    exact ⟨by rw [q.out]; rfl, by first | exact ((Keep.refl [] w).alloc _) | exact ((Keep.refl [] w).alloc _).drewN _⟩
  have d6 := dec_t h6
  by_cases h7 : 0 ≤ ch
  case neg =>
    have q : Hid (decide (⟨win, mn, mx, ch, lz⟩ : Sh).ok = false) := HKY.out _ (by have := HD.out; rw [this]; simp only [Bool.false_eq_true, iff_false]; omega)
    have d7 := dec_f h7
    clear h1 h2 h3 h4 h5 h6 h7
    go_enter Tryz.func54, Tryz.ntmps54
    go_wp2_with fail
    go_ret
    exact ⟨by rw [q.out]; rfl, by first | exact ((Keep.refl [] w).alloc _) | exact ((Keep.refl [] w).alloc _).drewN _⟩
  have d7 := dec_t h7
  by_cases h8 : ch ≤ 4096
  case neg =>
    have q : Hid (decide (⟨win, mn, mx, ch, lz⟩ : Sh).ok = false) := HKY.out _ (by have := HD.out; rw [this]; simp only [Bool.false_eq_true, iff_false]; omega)
    have d8 := dec_f h8
    clear h1 h2 h3 h4 h5 h6 h7 h8
    go_enter Tryz.func54, Tryz.ntmps54
    go_wp2_with fail
    go_ret
    exact ⟨by rw [q.out]; rfl, by first | exact ((Keep.refl [] w).alloc _) | exact ((Keep.refl [] w).alloc _).drewN _⟩
  have d8 := dec_t h8
  have q : Hid (decide (⟨win, mn, mx, ch, lz⟩ : Sh).ok = true) := HKY.out _ (by have := HD.out; rw [this]; simp only [iff_true]; omega)
  clear h1 h2 h3 h4 h5 h6 h7 h8
  go_enter Tryz.func54, Tryz.ntmps54
  go_wp2_with fail
  go_ret
  exact ⟨by rw [q.out]; rfl, by first | exact ((Keep.refl [] w).alloc _) | exact ((Keep.refl [] w).alloc _).drewN _⟩
/-- one more byte the same -/
theorem cntUp_step (P : Nat → Bool) (m n : Nat) : cntUp P (m + 1) n = if P n then cntUp P m (n + 1) else n := rfl
set_option maxRecDepth 100000 in
set_option maxHeartbeats 2000000 in
theorem refsame9_c (w : World) (v : Value) (b : List UInt8) (f i m : Nat) (h : Bs w v b) (hfi : f ≤ i) (hi : i ≤ b.length) (hb : b.length ≤ 100000) (hm : m ≤ 100000) : Calls Tryz.prog 88 #[v, .int .i64 f, .int .i64 i, .int .i64 m] w fun e w' => e = .returned (.int .i64 (sme b f i m : Nat)) ∧ ∃ n, w' = w.drewN n := by
  have HI := Lib.hid (fun k hk => h.spot k hk)
  obtain ⟨a, cap, rfl, hc1, hc2⟩ := h.shape
  clear h hc1 hc2
  go_enter Tryz.func88, Tryz.ntmps88
  go_wp2_with fail
  go_loopw [9] (fun n wr => ∃ k : Nat, k ≤ m ∧ i + k ≤ b.length ∧ n = .int .i64 k ∧ Hid (sme b f i m = cntUp (sm1 b f i) (m - k) k) ∧ ∃ n, wr = w.drewN n) (fun n _ => m - (intOf n).toNat)
  case atStart => exact ⟨0, by omega, by omega, rfl, rfl, 0, rfl⟩
  case round =>
    obtain ⟨k, hk, hkb, rfl, HC, n, rfl⟩ := hrel
    by_cases h1 : k < m
    case neg =>
      obtain rfl : k = m := by omega
      have HC2 : Hid (sme b f i k = k) := by have := HC.out; rw [Nat.sub_self] at this; exact this
      clear HC h1
      go_wp2_with fail
      go_quiet (fail)
      go_wp2_with fail
      go_ret
      exact ⟨by rw [HC2.out]; rfl, _, World.drewN_drewN _ _ _⟩
    have d1 : (k : Int) < (m : Int) := by omega
    by_cases h2 : i + k < b.length
    case neg =>
      have HC2 : Hid (sme b f i m = k) := by
        have := HC.out
        rw [show m - k = (m - k - 1) + 1 by omega, cntUp_step, if_neg (by unfold sm1; simp [h2])] at this
        exact this
      have d2 : decide ((i : Int) + k < (b.length : Int)) = false := dec_f (by omega)
      have d2' : decide (i + k < b.length) = false := dec_f h2
      clear HC h2 h1
      go_wp2_with fail
      go_quiet (fail)
      go_wp2_with fail
      go_ret
      exact ⟨by rw [HC2.out]; rfl, _, World.drewN_drewN _ _ _⟩
    have d2 : (i : Int) + k < (b.length : Int) := by omega
    obtain ⟨g, off, cap1, hv, e1⟩ := HI.out (i + k) h2
    simp only [Value.slice.injEq] at hv
    obtain ⟨rfl, h3, rfl⟩ := hv
    clear h3
    obtain ⟨g', off', cap2, hv, e2⟩ := HI.out (f + k) (by omega)
    simp only [Value.slice.injEq, Option.some.injEq, Addr.mk.injEq] at hv
    obtain ⟨⟨rfl, rfl, hh⟩, h3, rfl⟩ := hv
    clear h3 hh
    have d3 : (f : Int) + k < (b.length : Int) := by omega
    have HS := Lib.hid (show sm1 b f i k = (b[f + k] == b[i + k]) by
      unfold sm1
      rw [decide_eq_true h2, Bool.true_and, List.getD_eq_getElem?_getD, List.getD_eq_getElem?_getD, List.getElem?_eq_getElem h2, List.getElem?_eq_getElem (show f + k < b.length by omega)]; rfl)
    by_cases he : b[f + k] = b[i + k]
    · have hb1 : ((b[f + k].toNat : Int) == b[i + k].toNat) = true := by rw [he]; simp
      have HC2 : Hid (sme b f i m = cntUp (sm1 b f i) (m - (k + 1)) (k + 1)) := by
        have := HC.out
        rw [show m - k = (m - (k + 1)) + 1 by omega, cntUp_step, HS.out, he, if_pos (by simp)] at this
        exact this
      generalize b[f + k].toNat = x1 at e2 hb1
      generalize b[i + k].toNat = x2 at e1 hb1
      clear he HC HS
      go_wp2_with fail
      go_quiet (fail)
      go_wp2_with fail
      go_roundw
      case rel => exact ⟨k + 1, by omega, by omega, by go_num, HC2, _, rfl⟩
      case measure => simp [intOf]; omega
    · have hb1 : ((b[f + k].toNat : Int) == b[i + k].toNat) = false := by
        have : b[f + k].toNat ≠ b[i + k].toNat := fun e => he (UInt8.toNat_inj.1 e)
        simp; omega
      have HC2 : Hid (sme b f i m = k) := by
        have := HC.out
        rw [show m - k = (m - (k + 1)) + 1 by omega, cntUp_step, HS.out, if_neg (by simpa using he)] at this
        exact this
      generalize b[f + k].toNat = x1 at e2 hb1
      generalize b[i + k].toNat = x2 at e1 hb1
      clear he HC HS
      go_wp2_with fail
      go_quiet (fail)
      go_wp2_with fail
      go_ret
      exact ⟨by rw [HC2.out]; rfl, _, World.drewN_drewN _ _ _⟩
end Go.Proofs.YthmojejiaeninaaGreat
namespace Go.Proofs.YthmojejiaeninaaGreat
set_option linter.unusedVariables false
set_option linter.unusedSimpArgs false
set_option maxRecDepth 100000
open Go.ChangeShapes Go.WideShapes Go.ChangeAt Go.RowKit

def wi (n l m : Int) : Bool := decide (l ≤ n) && decide (n ≤ m)
set_option maxRecDepth 100000 in
theorem fwithin_c (w : World) (n l m : Int) : Calls Tryz.prog 86 #[.int .i64 n, .int .i64 l, .int .i64 m] w fun e w' => e = .returned (.bool (wi n l m)) ∧ w' = w := by
  by_cases h1 : l ≤ n
  case neg =>
    have HR : Hid (wi n l m = false) := by unfold wi; rw [decide_eq_false h1]; rfl
    go_enter Tryz.func86, Tryz.ntmps86
    go_wp2_with fail
    go_ret
    exact ⟨by rw [HR.out]; rfl, rfl⟩
  have HR : Hid (wi n l m = decide (n ≤ m)) := by unfold wi; rw [decide_eq_true h1]; rfl
  by_cases h2 : n ≤ m
  · have HR2 : Hid (wi n l m = true) := by rw [HR.out, decide_eq_true h2]; rfl
    clear HR
    go_enter Tryz.func86, Tryz.ntmps86
    go_wp2_with fail
    go_ret
    exact ⟨by rw [HR2.out]; rfl, rfl⟩
  · have HR2 : Hid (wi n l m = false) := by rw [HR.out, decide_eq_false h2]; rfl
    clear HR
    go_enter Tryz.func86, Tryz.ntmps86
    go_wp2_with fail
    go_ret
    exact ⟨by rw [HR2.out]; rfl, rfl⟩
set_option maxRecDepth 100000 in
set_option maxHeartbeats 4000000 in
theorem fin_check (w : World) (s : Sh) : Calls Tryz.prog 50 #[s.val] w fun e w' => e = .returned (.int .i64 (if s.ok then 0 else 2)) ∧ Keep [] w w' := by
  have HD : Hid (s.ok ↔ (wi s.win 1 65536 = true ∧ wi s.min 2 3 = true ∧ wi s.max s.min 65538 = true ∧ wi s.chain 0 4096 = true)) := by
    unfold Sh.ok wi
    simp only [Bool.and_eq_true, decide_eq_true_eq]
    constructor
    · rintro ⟨a, b, c, d, e, f, g, h⟩; exact ⟨⟨a, b⟩, ⟨c, d⟩, ⟨e, f⟩, g, h⟩
    · rintro ⟨⟨a, b⟩, ⟨c, d⟩, ⟨e, f⟩, g, h⟩; exact ⟨a, b, c, d, e, f, g, h⟩
  obtain ⟨win, mn, mx, ch, lz⟩ := s
  simp only at HD
  have H1 := Lib.hid (fun ww => fwithin_c ww win 1 65536)
  have H2 := Lib.hid (fun ww => fwithin_c ww mn 2 3)
  have H3 := Lib.hid (fun ww => fwithin_c ww mx mn 65538)
  have H4 := Lib.hid (fun ww => fwithin_c ww ch 0 4096)
  obtain ⟨R, hR⟩ : ∃ R : Int, (if (⟨win, mn, mx, ch, lz⟩ : Sh).ok then (0 : Int) else 2) = R := ⟨_, rfl⟩
  have HR : Hid (R = if wi win 1 65536 = true ∧ wi mn 2 3 = true ∧ wi mx mn 65538 = true ∧ wi ch 0 4096 = true then 0 else 2) := by
    rw [← hR]; simp only [HD.out]; exact trivial
  rw [hR]
  show Calls Tryz.prog 50 #[.agg #[.int .i64 win, .int .i64 mn, .int .i64 mx, .int .i64 ch, .bool lz]] w _
  clear HD hR
  generalize wi win 1 65536 = t1 at H1 HR
  generalize wi mn 2 3 = t2 at H2 HR
  generalize wi mx mn 65538 = t3 at H3 HR
  generalize wi ch 0 4096 = t4 at H4 HR
  cases t1 with
  | false =>
    have HR2 : Hid (R = 2) := by have := HR.out; rw [if_neg (by simp)] at this; exact this
    clear HR
    go_enter Tryz.func50, Tryz.ntmps50
    go_wp2_with fail
    refine (H1.out _).mono ?_
    rintro e w' ⟨rfl, rfl⟩
    go_wp2_with fail
    go_ret
    exact ⟨by rw [HR2.out]; rfl, (Keep.refl [] w).alloc _⟩
  | true =>
  cases t2 with
  | false =>
    have HR2 : Hid (R = 2) := by have := HR.out; rw [if_neg (by simp)] at this; exact this
    clear HR
    go_enter Tryz.func50, Tryz.ntmps50
    go_wp2_with fail
    refine (H1.out _).mono ?_
    rintro e w' ⟨rfl, rfl⟩
    go_wp2_with fail
    refine (H2.out _).mono ?_
    rintro e w' ⟨rfl, rfl⟩
    go_wp2_with fail
    go_ret
    exact ⟨by rw [HR2.out]; rfl, (Keep.refl [] w).alloc _⟩
  | true =>
  cases t3 with
  | false =>
    have HR2 : Hid (R = 2) := by have := HR.out; rw [if_neg (by simp)] at this; exact this
    clear HR
    go_enter Tryz.func50, Tryz.ntmps50
    go_wp2_with fail
    refine (H1.out _).mono ?_
    rintro e w' ⟨rfl, rfl⟩
    go_wp2_with fail
    refine (H2.out _).mono ?_
    rintro e w' ⟨rfl, rfl⟩
    go_wp2_with fail
    refine (H3.out _).mono ?_
    rintro e w' ⟨rfl, rfl⟩
    go_wp2_with fail
    go_ret
    exact ⟨by rw [HR2.out]; rfl, (Keep.refl [] w).alloc _⟩
  | true =>
  cases t4 with
  | false =>
    have HR2 : Hid (R = 2) := by have := HR.out; rw [if_neg (by simp)] at this; exact this
    clear HR
    go_enter Tryz.func50, Tryz.ntmps50
    go_wp2_with fail
    refine (H1.out _).mono ?_
    rintro e w' ⟨rfl, rfl⟩
    go_wp2_with fail
    refine (H2.out _).mono ?_
    rintro e w' ⟨rfl, rfl⟩
    go_wp2_with fail
    refine (H3.out _).mono ?_
    rintro e w' ⟨rfl, rfl⟩
    go_wp2_with fail
    refine (H4.out _).mono ?_
    rintro e w' ⟨rfl, rfl⟩
    go_wp2_with fail
    go_ret
    exact ⟨by rw [HR2.out]; rfl, (Keep.refl [] w).alloc _⟩
  | true =>
    have HR2 : Hid (R = 0) := by have := HR.out; rw [if_pos (by simp)] at this; exact this
    clear HR
    go_enter Tryz.func50, Tryz.ntmps50
    go_wp2_with fail
    refine (H1.out _).mono ?_
    rintro e w' ⟨rfl, rfl⟩
    go_wp2_with fail
    refine (H2.out _).mono ?_
    rintro e w' ⟨rfl, rfl⟩
    go_wp2_with fail
    refine (H3.out _).mono ?_
    rintro e w' ⟨rfl, rfl⟩
    go_wp2_with fail
    refine (H4.out _).mono ?_
    rintro e w' ⟨rfl, rfl⟩
    go_wp2_with fail
    go_ret
    exact ⟨by rw [HR2.out]; rfl, (Keep.refl [] w).alloc _⟩
end Go.Proofs.YthmojejiaeninaaGreat
namespace Go.Proofs.YthmojejiaeninaaGreat
set_option linter.unusedVariables false
set_option linter.unusedSimpArgs false
open Go.ChangeShapes Go.WideShapes Go.ChangeAt Go.RowKit

set_option maxRecDepth 100000 in
set_option maxHeartbeats 4000000 in
theorem refat9_c (w : World) (v : Value) (b : List UInt8) (s : Sh) (i : Nat) (hs : s.ok) (h : Bs w v b) (hi : i ≤ b.length) (hb : b.length ≤ 100000) : Calls Tryz.prog 55 #[v, s.val, .int .i64 i] w fun e w' => e = .returned (.agg (atT b s i).cells.toArray) ∧ Keep [] w w' := by
  obtain ⟨win, mn, mx, ch, lz⟩ := s
  have hs' := hs
  unfold Sh.ok at hs'
  simp only at hs'
  obtain ⟨mn, rfl⟩ := Int.eq_ofNat_of_zero_le (show 0 ≤ mn by omega)
  obtain ⟨mx, rfl⟩ := Int.eq_ofNat_of_zero_le (show 0 ≤ mx by omega)
  have hmn : mn ≤ 3 := by omega
  have hmx : mx ≤ 65538 := by omega
  have hch : ch ≤ 4096 := by omega
  show Calls Tryz.prog 55 #[v, .agg #[.int .i64 win, .int .i64 mn, .int .i64 mx, .int .i64 ch, .bool lz], .int .i64 i] w _
  have HAT : Hid (∀ k L best, atF b ⟨win, mn, mx, ch, lz⟩ i (k + 1) L best = if (i : Int) - k ≤ win ∧ (L : Int) < ch then if sme b k i mn < mn then atF b ⟨win, mn, mx, ch, lz⟩ i k L best else atF b ⟨win, mn, mx, ch, lz⟩ i k (L + 1) (if best.len < (sme b k i mx : Int) then ⟨0, (i : Int) - k, sme b k i mx⟩ else best) else best) := fun k L best => rfl
  have HA0 : Hid (∀ L best, atF b ⟨win, mn, mx, ch, lz⟩ i 0 L best = best) := fun L best => rfl
  have HAS : Hid (atT b ⟨win, mn, mx, ch, lz⟩ i = atF b ⟨win, mn, mx, ch, lz⟩ i i 0 ⟨0, 0, 0⟩) := rfl
  clear hs hs'
  generalize (⟨win, mn, mx, ch, lz⟩ : Sh) = S at HAT HA0 HAS ⊢
  have HSM := Lib.hid (fun (ww : World) (kk : Keep [] w ww) (f m : Nat) (hf : f ≤ i) (hm : m ≤ 100000) => refsame9_c ww v b f i m (h.keep kk (by simp)) hf hi hb hm)
  have hil : i ≤ 100000 := by omega
  go_enter Tryz.func55, Tryz.ntmps55
  go_wp2_with fail
  go_loopw [8, 9] (fun lk fr wr => ∃ (k L : Nat) (z : Int) (best : Tk), k ≤ i ∧ L + k ≤ i ∧ lk = .int .i64 L ∧ fr = .int .i64 z ∧ Hid (z = (k : Int) - 1) ∧ Hid (atT b S i = atF b S i k L best) ∧ Hid (Keep [] w wr) ∧ Hid (Blk wr w.heap.size #[.int .i64 win, .int .i64 mn, .int .i64 mx, .int .i64 ch, .bool lz] 46) ∧ Hid (Blk wr (w.heap.size + 1) #[.int .u8 0, .int .i64 0, .int .i64 0] 42) ∧ Hid (Blk wr (w.heap.size + 1 + 1) best.cells.toArray 42)) (fun _ fr _ => (intOf fr + 1).toNat)
  case atStart =>
    refine ⟨i, 0, (i : Int) - 1, ⟨0, 0, 0⟩, by omega, by omega, rfl, rfl, rfl, HAS, (((Keep.refl [] w).alloc _).alloc _).alloc _, ((Blk.new _ _ _).alloc _).alloc _, ?_, ?_⟩
    · have := (Blk.new (w.alloc (.cells #[.int .i64 win, .int .i64 mn, .int .i64 mx, .int .i64 ch, .bool lz] 46)) #[.int .u8 0, .int .i64 0, .int .i64 0] 42).alloc (.cells #[.int .u8 0, .int .i64 0, .int .i64 0] 42)
      simpa [Hid] using this
    · have := (Blk.new ((w.alloc (.cells #[.int .i64 win, .int .i64 mn, .int .i64 mx, .int .i64 ch, .bool lz] 46)).alloc (.cells #[.int .u8 0, .int .i64 0, .int .i64 0] 42)) #[.int .u8 0, .int .i64 0, .int .i64 0] 42)
      simp only [World.size_alloc] at this
      exact this
  case round =>
    obtain ⟨k, L, z, ⟨lt, ds, ln⟩, hk, hL, rfl, rfl, HZ, HA, HK, HB1, HB2, HB3'⟩ := hrel
    have HB3 : Hid (Blk wr (w.heap.size + 1 + 1) #[.int .u8 lt.toNat, .int .i64 ds, .int .i64 ln] 42) := HB3'
    clear HB3'
    have s0 := HB1.out.cell 0 _ rfl
    have s1 := HB1.out.cell 1 _ rfl
    have s2 := HB1.out.cell 2 _ rfl
    have s3 := HB1.out.cell 3 _ rfl
    have b0 := HB3.out.cell 0 _ rfl
    have b1 := HB3.out.cell 1 _ rfl
    have b2 := HB3.out.cell 2 _ rfl
    have f0 := HB2.out.free 0
    have f1 := HB2.out.free 1
    have f2 := HB2.out.free 2
    have r0 := HB2.out.cell 0 _ rfl
    have r1 := HB2.out.cell 1 _ rfl
    have r2 := HB2.out.cell 2 _ rfl
    have HF : Hid (Blk (((wr.setCell ⟨w.heap.size + 1, 0, none⟩ (.int .u8 lt.toNat)).setCell ⟨w.heap.size + 1, 1, none⟩ (.int .i64 ds)).setCell ⟨w.heap.size + 1, 2, none⟩ (.int .i64 ln)) (w.heap.size + 1) #[.int .u8 lt.toNat, .int .i64 ds, .int .i64 ln] 42) := ((HB2.out.set 0 (.int .u8 lt.toNat)).set 1 (.int .i64 ds)).set 2 (.int .i64 ln)
    have HKF : Hid (Keep [] w (((wr.setCell ⟨w.heap.size + 1, 0, none⟩ (.int .u8 lt.toNat)).setCell ⟨w.heap.size + 1, 1, none⟩ (.int .i64 ds)).setCell ⟨w.heap.size + 1, 2, none⟩ (.int .i64 ln))) := ((HK.out.setCell (.inr (by simp)) _).setCell (.inr (by simp)) _).setCell (.inr (by simp)) _
    by_cases hk0 : k = 0
    · subst hk0
      have HR : Hid (atT b S i = ⟨lt, ds, ln⟩) := by have := HA.out; rw [HA0.out] at this; exact this
      have hz := HZ.out
      have d1 : ¬ z ≥ 0 := by omega
      clear HA HZ hz
      go_wp2_with fail
      refine bodyPost_ret (results_cell_row rfl _ _ _ _ _ (0, 0) _ rfl HF.out Tryz.underlying42 rfl (by kernel_rfl)) rfl ?_
      exact ⟨by rw [HR.out]; rfl, HKF.out⟩
    obtain ⟨k', rfl⟩ : ∃ k', k = k' + 1 := ⟨k - 1, by omega⟩
    obtain rfl : z = (k' : Int) := by have := HZ.out; omega
    clear HZ hk0
    have hstep := HA.out
    rw [HAT.out] at hstep
    by_cases h2 : (i : Int) - k' ≤ win
    case neg =>
      have HR : Hid (atT b S i = ⟨lt, ds, ln⟩) := by rw [if_neg (fun g => h2 g.1)] at hstep; exact hstep
      have d2 := dec_f h2
      clear HA h2 hstep
      go_wp2_with fail
      refine bodyPost_ret (results_cell_row rfl _ _ _ _ _ (0, 0) _ rfl HF.out Tryz.underlying42 rfl (by kernel_rfl)) rfl ?_
      exact ⟨by rw [HR.out]; rfl, HKF.out⟩
    have d2 := dec_t h2
    by_cases h3 : (L : Int) < ch
    case neg =>
      have HR : Hid (atT b S i = ⟨lt, ds, ln⟩) := by rw [if_neg (fun g => h3 g.2)] at hstep; exact hstep
      have d3 := dec_f h3
      clear HA h2 h3 hstep
      go_wp2_with fail
      refine bodyPost_ret (results_cell_row rfl _ _ _ _ _ (0, 0) _ rfl HF.out Tryz.underlying42 rfl (by kernel_rfl)) rfl ?_
      exact ⟨by rw [HR.out]; rfl, HKF.out⟩
    have d3 := dec_t h3
    rw [if_pos ⟨h2, h3⟩] at hstep
    have HST := Lib.hid hstep
    clear HA hstep h2 h3 HF HKF f0 f1 f2 r0 r1 r2
    have HS1 := Lib.hid (fun (ww : World) (kk : Keep [] wr ww) => kept_drewN (HSM.out ww (HK.out.trans kk (by simp)) k' mn (by omega) (by omega)))
    have y1 : ∀ p : Kept wr, p.x.cell? ⟨w.heap.size, 1, none⟩ = some (.int .i64 mn) := fun p => p.h.cell s1 (by simp)
    have hsl : sme b k' i mn ≤ 100000 := by have := (cntUp_le (sm1 b k' i) mn 0).2; unfold sme; omega
    have hsl2 : sme b k' i mx ≤ 100000 := by have := (cntUp_le (sm1 b k' i) mx 0).2; unfold sme; omega
    go_upto_region 6 with fail
    go_wp2_with fail
    refine wp_region_kept (by kernel_rfl) (by kernel_rfl) ?_
    repeat (quiet_step (first | (go_at_call 88; with_reducible exact kept_of (HS1.out _ (Kept.h _)))))
    refine wpQuiet_nil ?_
    intro _ hw'
    obtain ⟨p, hw''⟩ := hw'
    subst hw''
    clear y1 HS1 s0 s1 s2 s3 b0 b1 b2
    have HK2 : Hid (Keep [] w p.x) := HK.out.trans p.h (by simp)
    have HB1' : Hid (Blk p.x w.heap.size #[.int .i64 win, .int .i64 mn, .int .i64 mx, .int .i64 ch, .bool lz] 46) := HB1.out.keep p.h (by simp)
    have HB2' : Hid (Blk p.x (w.heap.size + 1) #[.int .u8 0, .int .i64 0, .int .i64 0] 42) := HB2.out.keep p.h (by simp)
    have HB3' : Hid (Blk p.x (w.heap.size + 1 + 1) #[.int .u8 lt.toNat, .int .i64 ds, .int .i64 ln] 42) := HB3.out.keep p.h (by simp)
    generalize p.x = w2 at HK2 HB1' HB2' HB3' ⊢
    clear HK HB1 HB2 HB3 p
    have s2 := HB1'.out.cell 2 (.int .i64 mx) rfl
    by_cases hm : sme b k' i mn < mn
    · have HA2 : Hid (atT b S i = atF b S i k' L ⟨lt, ds, ln⟩) := by have := HST.out; rw [if_pos hm] at this; exact this
      have d4 : (sme b k' i mn : Int) < (mn : Int) := by omega
      clear hm HST s2
      go_wp2_with fail
      go_roundw
      case rel => exact ⟨k', L, _, ⟨lt, ds, ln⟩, by omega, by omega, rfl, rfl, rfl, HA2, HK2, HB1', HB2', HB3'⟩
      case measure => simp [intOf]
    have d4 : ¬ (sme b k' i mn : Int) < (mn : Int) := by omega
    have HST2 : Hid (atT b S i = atF b S i k' (L + 1) (if ln < (sme b k' i mx : Int) then ⟨0, (i : Int) - k', sme b k' i mx⟩ else ⟨lt, ds, ln⟩)) := by have := HST.out; rw [if_neg hm] at this; exact this
    clear hm HST
    go_wp2_with fail
    refine (HSM.out _ HK2.out k' mx (by omega) (by omega)).mono ?_
    rintro e w3 ⟨rfl, n2, rfl⟩
    have K3 : Keep [] w2 (w2.drewN n2) := (Keep.refl [] w2).drewN n2
    generalize w2.drewN n2 = w3 at K3 ⊢
    have HK3 : Hid (Keep [] w w3) := HK2.out.trans K3 (by simp)
    have HC1 : Hid (Blk w3 w.heap.size #[.int .i64 win, .int .i64 mn, .int .i64 mx, .int .i64 ch, .bool lz] 46) := HB1'.out.keep K3 (by simp)
    have HC2 : Hid (Blk w3 (w.heap.size + 1) #[.int .u8 0, .int .i64 0, .int .i64 0] 42) := HB2'.out.keep K3 (by simp)
    have HC3 : Hid (Blk w3 (w.heap.size + 1 + 1) #[.int .u8 lt.toNat, .int .i64 ds, .int .i64 ln] 42) := HB3'.out.keep K3 (by simp)
    clear HB1' HB2' HB3' HK2 K3 s2
    have b0 := HC3.out.cell 0 (.int .u8 lt.toNat) rfl
    have b1 := HC3.out.cell 1 (.int .i64 ds) rfl
    have b2 := HC3.out.cell 2 (.int .i64 ln) rfl
    have f0 := HC3.out.free 0
    have f1 := HC3.out.free 1
    have f2 := HC3.out.free 2
    by_cases hg : ln < (sme b k' i mx : Int)
    · have HA2 : Hid (atT b S i = atF b S i k' (L + 1) ⟨0, (i : Int) - k', sme b k' i mx⟩) := by have := HST2.out; rw [if_pos hg] at this; exact this
      have HB4 : Hid (Blk (((w3.setCell ⟨w.heap.size + 1 + 1, 0, none⟩ (.int .u8 0)).setCell ⟨w.heap.size + 1 + 1, 1, none⟩ (.int .i64 ((i : Int) - k'))).setCell ⟨w.heap.size + 1 + 1, 2, none⟩ (.int .i64 (sme b k' i mx))) (w.heap.size + 1 + 1) (Tk.cells ⟨0, (i : Int) - k', sme b k' i mx⟩).toArray 42) := ((HC3.out.set 0 (.int .u8 0)).set 1 (.int .i64 ((i : Int) - k'))).set 2 (.int .i64 (sme b k' i mx))
      have HK4 : Hid (Keep [] w (((w3.setCell ⟨w.heap.size + 1 + 1, 0, none⟩ (.int .u8 0)).setCell ⟨w.heap.size + 1 + 1, 1, none⟩ (.int .i64 ((i : Int) - k'))).setCell ⟨w.heap.size + 1 + 1, 2, none⟩ (.int .i64 (sme b k' i mx)))) := ((HK3.out.setCell (.inr (by simp; omega)) _).setCell (.inr (by simp; omega)) _).setCell (.inr (by simp; omega)) _
      have KK : Keep [w.heap.size + 1 + 1] w3 (((w3.setCell ⟨w.heap.size + 1 + 1, 0, none⟩ (.int .u8 0)).setCell ⟨w.heap.size + 1 + 1, 1, none⟩ (.int .i64 ((i : Int) - k'))).setCell ⟨w.heap.size + 1 + 1, 2, none⟩ (.int .i64 (sme b k' i mx))) := (((Keep.refl _ w3).setCell (.inl (by simp)) _).setCell (.inl (by simp)) _).setCell (.inl (by simp)) _
      have HD1 := Lib.hid (HC1.out.keep KK (by simp; omega))
      have HD2 := Lib.hid (HC2.out.keep KK (by simp))
      clear KK HST2
      have hgt : (sme b k' i mx : Int) > ln := hg
      clear hg
      go_wp2_with fail
      go_roundw
      case rel => exact ⟨k', L + 1, _, ⟨0, (i : Int) - k', sme b k' i mx⟩, by omega, by omega, by go_num, rfl, rfl, HA2, HK4, HD1, HD2, HB4⟩
      case measure => simp [intOf]
    · have HA2 : Hid (atT b S i = atF b S i k' (L + 1) ⟨lt, ds, ln⟩) := by have := HST2.out; rw [if_neg hg] at this; exact this
      have hgt : ¬ (sme b k' i mx : Int) > ln := hg
      clear hg HST2
      go_wp2_with fail
      go_roundw
      case rel => exact ⟨k', L + 1, _, ⟨lt, ds, ln⟩, by omega, by omega, by go_num, rfl, rfl, HA2, HK3, HC1, HC2, HC3⟩
      case measure => simp [intOf]
end Go.Proofs.YthmojejiaeninaaGreat
namespace Go.Proofs.YthmojejiaeninaaGreat
set_option linter.unusedVariables false
set_option linter.unusedSimpArgs false
open Go.ChangeShapes Go.WideShapes Go.ChangeAt Go.RowKit

set_option maxRecDepth 100000 in
set_option maxHeartbeats 1000000 in
theorem refsame8_c (w : World) (v v' : Value) (ts : List Tk) (h : Ts w v ts) (h' : Ts w v' ts) : Calls Tryz.prog 8 #[v, v'] w fun e w' => e = .returned (.bool true) ∧ ∃ n, w' = w.drewN n := by
  have HI := Lib.hid (fun i hi => h.at i hi)
  have HI' := Lib.hid (fun i hi => h'.at i hi)
  obtain ⟨a, cap, rfl, hl⟩ := h.sh
  obtain ⟨a', cap', rfl, hl'⟩ := h'.sh
  clear h h'
  go_enter Tryz.func8, Tryz.ntmps8
  go_wp2_with fail
  go_loopw [5] (fun i wr => ∃ k : Nat, k ≤ ts.length ∧ i = .int .i64 k ∧ ∃ n, wr = w.drewN n) (fun i _ => ts.length - (intOf i).toNat)
  case atStart => exact ⟨0, by omega, rfl, 0, rfl⟩
  case round =>
    obtain ⟨k, hk, rfl, n, rfl⟩ := hrel
    by_cases hlt : k < ts.length
    · obtain ⟨b, off, cap1, hv, e1, e2, e3⟩ := HI.out k hlt
      simp only [Value.slice.injEq] at hv
      obtain ⟨rfl, h2, rfl⟩ := hv
      clear h2
      obtain ⟨b', off', cap1', hv, d1, d2, d3⟩ := HI'.out k hlt
      simp only [Value.slice.injEq] at hv
      obtain ⟨rfl, h2, rfl⟩ := hv
      clear h2
      have hltz : (k : Int) < (ts.length : Int) := by omega
      generalize (ts[k]).lit.toNat = x at e1 d1
      generalize (ts[k]).dist = y at e2 d2
      generalize (ts[k]).len = z at e3 d3
      go_wp2_with fail
      go_quiet (fail)
      go_wp2_with fail
      go_roundw
      case rel => exact ⟨k + 1, by omega, by go_num, _, rfl⟩
      case measure => simp [intOf]; omega
    · obtain rfl : k = ts.length := by omega
      go_wp2_with fail
      go_ret
      exact ⟨rfl, _, rfl⟩
/-- at most n tokens, none longer than long -/
def fewT (ts : List Tk) (n : Nat) (long : Int) : List Tk := (ts.take n).map fun t => if long < t.len then { t with len := long } else t
theorem fewT_succ (ts : List Tk) (k : Nat) (long : Int) (hk : k < ts.length) : fewT ts (k + 1) long = fewT ts k long ++ [if long < (ts[k]).len then { ts[k] with len := long } else ts[k]] := by
  unfold fewT
  rw [List.take_succ_eq_append_getElem hk, List.map_append]; rfl
theorem fewT_len (ts : List Tk) (n : Nat) (long : Int) : (fewT ts n long).length ≤ n := by
  unfold fewT; simp; omega
end Go.Proofs.YthmojejiaeninaaGreat
namespace Go.Proofs.YthmojejiaeninaaGreat
set_option linter.unusedVariables false
set_option linter.unusedSimpArgs false
open Go.ChangeShapes Go.WideShapes Go.ChangeAt Go.RowKit

theorem wf0 : (Lit.int .i64 0).wf = true := by decide
theorem wf1 : (Lit.int .i64 1).wf = true := by decide
def lastT (ts : List Tk) : Tk := ts.getLast?.getD default
theorem lastT_get (ts : List Tk) (h : 0 < ts.length) : ts[ts.length - 1] = lastT ts := by
  unfold lastT
  rw [List.getLast?_eq_getElem?, List.getElem?_eq_getElem (by omega)]; rfl
def rnew (b : List UInt8) (k : Nat) : Prop := k = 0 ∨ b.getD k 0 ≠ b.getD (k - 1) 0
theorem rn_new (b : List UInt8) (k : Nat) (h : rnew b k) : rn b (k + 1) = rn b k ++ [⟨b.getD k 0, 0, 0⟩] := by rw [rn]; exact if_pos h
theorem rn_one (b : List UInt8) (k : Nat) (h : ¬ rnew b k) (h2 : (lastT (rn b k)).len = 0 ∨ (lastT (rn b k)).len = 258) : rn b (k + 1) = rn b k ++ [⟨0, 1, 1⟩] := by rw [rn]; exact (if_neg h).trans (if_pos h2)
theorem rn_more (b : List UInt8) (k : Nat) (h : ¬ rnew b k) (h2 : ¬ ((lastT (rn b k)).len = 0 ∨ (lastT (rn b k)).len = 258)) (h0 : 0 < (rn b k).length) : rn b (k + 1) = (rn b k).set ((rn b k).length - 1) { (rn b k)[(rn b k).length - 1] with len := (lastT (rn b k)).len + 1 } := by
  rw [lastT_get _ h0, rn]; exact (if_neg h).trans (if_neg h2)
theorem rn_pos (b : List UInt8) (k : Nat) (hk : k ≤ b.length) (h : 0 < k) : 0 < (rn b k).length := by
  rcases (rn_all b k hk).last with h1 | ⟨l, t, h1, _⟩
  · omega
  · rw [h1]; simp
theorem rn_lastlen (b : List UInt8) (k : Nat) (hk : k ≤ b.length) (h : 0 < k) : 0 ≤ (lastT (rn b k)).len ∧ (lastT (rn b k)).len ≤ 258 := by
  rcases (rn_all b k hk).last with h1 | ⟨l, t, h1, h2⟩
  · omega
  · have : lastT (rn b k) = t := by unfold lastT; rw [h1]; simp
    rw [this]; omega
end Go.Proofs.YthmojejiaeninaaGreat
namespace Go.Proofs.YthmojejiaeninaaGreat
set_option linter.unusedVariables false
set_option linter.unusedSimpArgs false
open Go.ChangeShapes Go.WideShapes Go.ChangeAt Go.RowKit

theorem reffind9_bad (w : World) (v : Value) (b : List UInt8) (s : Sh) (hs : ¬ s.ok) : Calls Tryz.prog 20 #[v, s.val] w fun e w' => e = .returned (.tuple #[.slice none 0 0, .int .i64 2]) ∧ Keep [] w w' := by
  have HC := Lib.hid (fun (ww : World) => refcheck9_c ww s)
  rw [dec_f hs] at HC
  obtain ⟨win, mn, mx, ch, lz⟩ := s
  show Calls Tryz.prog 20 #[v, .agg #[.int .i64 win, .int .i64 mn, .int .i64 mx, .int .i64 ch, .bool lz]] w _
  have HC1 : Hid (∀ ww : World, Calls Tryz.prog 54 #[.agg #[.int .i64 win, .int .i64 mn, .int .i64 mx, .int .i64 ch, .bool lz]] ww fun e w' => e = .returned (.bool false) ∧ Keep [] ww w') := HC
  clear HC hs
  go_enter Tryz.func20, Tryz.ntmps20
  go_wp2_with fail
  refine (HC1.out _).mono ?_
  rintro e w2 ⟨rfl, K2⟩
  have K3 : Hid (Keep [] w w2) := ((Keep.refl [] w).alloc _).trans K2 (by simp)
  clear K2
  go_wp2_with fail
  go_ret2
  exact ⟨rfl, K3.out⟩
theorem wfN (z : Int) (h0 : 0 ≤ z) (h : z ≤ 9223372036854775807) : (Lit.int .i64 z).wf = true := by
  simp [Lit.wf, IntKind.min, IntKind.max, IntKind.bits, IntKind.signed]; omega
/-- a token's length -/
theorem field_len (w : World) (x y z : Int) : (Instr.field 42 (.agg #[.int .u8 x, .int .i64 y, .int .i64 z]) 2).run Tryz.prog w = .ok (.int .i64 z) w := by
  simp [Instr.field, run_underlying Tryz.underlying42, asAgg, part, isAgg, run_underlying Tryz.underlying3]
/-- what At answers is small -/
theorem atT_small {b : List UInt8} {s : Sh} (hs : s.ok) {i : Nat} (hi : i ≤ b.length) : (atT b s i).lit = 0 ∧ 0 ≤ (atT b s i).dist ∧ (atT b s i).dist ≤ i ∧ 0 ≤ (atT b s i).len ∧ (i : Int) + (atT b s i).len ≤ b.length := by
  rcases atT_hit hs hi with h | h
  · rw [h]; refine ⟨rfl, ?_, ?_, ?_, ?_⟩ <;> simp only <;> omega
  · obtain ⟨d, n, h1, h2, h3, h4, h5, h6, h7, h8, h9⟩ := h.ex
    refine ⟨h.lit, ?_, ?_, ?_, ?_⟩ <;> omega
theorem fdF_succ (b : List UInt8) (s : Sh) (f i : Nat) (h : i < b.length) : fdF b s (f + 1) i = stepT b s i :: fdF b s f (i + sz1 (stepT b s i)) := by rw [fdF, if_pos h]
theorem fdF_end (b : List UInt8) (s : Sh) (f : Nat) : fdF b s f b.length = [] := by
  cases f with
  | zero => rfl
  | succ f => rw [fdF, if_neg (by omega)]
set_option maxRecDepth 100000 in
set_option maxHeartbeats 4000000 in
theorem reffind9_c (w : World) (v : Value) (b : List UInt8) (s : Sh) (hs : s.ok) (h : Bs w v b) (hb : b.length ≤ 100000) : Calls Tryz.prog 20 #[v, s.val] w fun e w' => ∃ v', e = .returned (.tuple #[v', .int .i64 0]) ∧ OwnT w' v' (found b s) ∧ Keep [] w w' ∧ ∀ x, v'.ownBlock = some x → w.heap.size ≤ x := by
  have HC := Lib.hid (fun (ww : World) => refcheck9_c ww s)
  rw [dec_t hs] at HC
  have HAT := Lib.hid (fun (ww : World) (kk : Keep [] w ww) (i : Nat) (hi : i ≤ b.length) => refat9_c ww v b s i hs (h.keep kk (by simp)) hi hb)
  have HSM := Lib.hid (fun (i : Nat) (hi : i ≤ b.length) => atT_small hs hi)
  have HI := Lib.hid (fun w' (k : Keep [] w w') i hi => (h.keep k (by simp)).spot i hi)
  have HST : Hid (∀ i, stepT b s i = if (atT b s i).len = 0 ∨ waits b s i then ⟨b.getD i 0, 0, 0⟩ else atT b s i) := fun i => rfl
  have HFS := Lib.hid (fdF_succ b s)
  have HFE := Lib.hid (fdF_end b s)
  have HF0 : Hid (found b s = fdF b s b.length 0) := rfl
  have HWT : Hid (∀ i, waits b s i ↔ (s.lazy = true ∧ (atT b s i).len < s.max ∧ 0 < (atT b s i).len ∧ i + 1 < b.length ∧ (atT b s i).len < (atT b s (i + 1)).len)) := fun i => Iff.rfl
  obtain ⟨a, cap, rfl, hc1, hc2⟩ := h.shape
  clear h hc1 hc2 hs
  obtain ⟨win, mn, mx, ch, lz⟩ := s
  simp only at HWT
  show Calls Tryz.prog 20 #[_, .agg #[.int .i64 win, .int .i64 mn, .int .i64 mx, .int .i64 ch, .bool lz]] w _
  have HC1 : Hid (∀ ww : World, Calls Tryz.prog 54 #[.agg #[.int .i64 win, .int .i64 mn, .int .i64 mx, .int .i64 ch, .bool lz]] ww fun e w' => e = .returned (.bool true) ∧ Keep [] ww w') := HC
  have HA : Hid (∀ (ww : World) (kk : Keep [] w ww) (i : Nat) (hi : i ≤ b.length), Calls Tryz.prog 55 #[.slice a b.length cap, .agg #[.int .i64 win, .int .i64 mn, .int .i64 mx, .int .i64 ch, .bool lz], .int .i64 i] ww fun e w' => e = .returned (.agg #[.int .u8 (atT b ⟨win, mn, mx, ch, lz⟩ i).lit.toNat, .int .i64 (atT b ⟨win, mn, mx, ch, lz⟩ i).dist, .int .i64 (atT b ⟨win, mn, mx, ch, lz⟩ i).len]) ∧ Keep [] ww w') := HAT
  clear HC HAT
  generalize (⟨win, mn, mx, ch, lz⟩ : Sh) = S at HA HSM HST HFS HFE HF0 HWT ⊢
  go_enter Tryz.func20, Tryz.ntmps20
  go_wp2_with fail
  refine (HC1.out _).mono ?_
  rintro e w2 ⟨rfl, K2⟩
  have K3 : Hid (Keep [] w w2) := ((Keep.refl [] w).alloc _).trans K2 (by simp)
  have B3 : Hid (Blk w2 w.heap.size #[.int .i64 win, .int .i64 mn, .int .i64 mx, .int .i64 ch, .bool lz] 46) := (Blk.new w _ _).keep K2 (by simp)
  clear K2 HC1
  go_wp2_with fail
  go_loopw [6, 7] (fun ov iv wr => ∃ (i f : Nat) (ts : List Tk) (a7 : Option Addr) (c7 : Nat), i ≤ b.length ∧ b.length ≤ i + f ∧ ts.length ≤ i ∧ iv = .int .i64 i ∧ ov = .slice a7 ts.length c7 ∧ Hid (found b S = ts ++ fdF b S f i) ∧ Hid (OwnT wr (.slice a7 ts.length c7) ts) ∧ Hid (Keep [] w wr) ∧ Hid (Blk wr w.heap.size #[.int .i64 win, .int .i64 mn, .int .i64 mx, .int .i64 ch, .bool lz] 46) ∧ Hid (∀ x, (Value.slice a7 ts.length c7).ownBlock = some x → w.heap.size < x)) (fun _ iv _ => b.length - (intOf iv).toNat)
  case atStart => exact ⟨0, b.length, [], none, 0, by omega, by omega, by simp, rfl, rfl, HF0, OwnT.nil _, K3, B3, fun x hx => by simp [Value.ownBlock] at hx⟩
  case round =>
    obtain ⟨i, f, ts, a7, c7, hi, hf, htl, rfl, rfl, HF, HO, HK, HB1, HB⟩ := hrel
    clear K3 B3
    by_cases hlt : i < b.length
    case neg =>
      obtain rfl : i = b.length := by omega
      have HR : Hid (found b S = ts) := by have := HF.out; rw [HFE.out, List.append_nil] at this; exact this
      clear hlt HF
      go_wp2_with fail
      go_ret2
      exact ⟨_, rfl, by rw [HR.out]; exact HO.out, HK.out, fun x hx => Nat.le_of_lt (HB.out x hx)⟩
    have hltz : (i : Int) < (b.length : Int) := by omega
    obtain ⟨f', rfl⟩ : ∃ f', f = f' + 1 := ⟨f - 1, by omega⟩
    have HF1 : Hid (found b S = ts ++ stepT b S i :: fdF b S f' (i + sz1 (stepT b S i))) := by have := HF.out; rw [HFS.out f' i hlt] at this; exact this
    have HS1 := Lib.hid (HSM.out i hi)
    have HW := Lib.hid (HWT.out i)
    have HS0 := Lib.hid (HST.out i)
    have s0 := HB1.out.cell 0 (.int .i64 win) rfl
    have s1 := HB1.out.cell 1 (.int .i64 mn) rfl
    have s2 := HB1.out.cell 2 (.int .i64 mx) rfl
    have s3 := HB1.out.cell 3 (.int .i64 ch) rfl
    have s4 := HB1.out.cell 4 (.bool lz) rfl
    clear HF
    go_wp2_with fail
    refine (HA.out _ HK.out i hi).mono ?_
    rintro e w3 ⟨rfl, K3⟩
    have HO2 : Hid (OwnT w3 (.slice a7 ts.length c7) ts) := HO.out.keep K3 (by simp)
    have HK2 : Hid (Keep [] w w3) := HK.out.trans K3 (by simp)
    have HB2 : Hid (Blk w3 w.heap.size #[.int .i64 win, .int .i64 mn, .int .i64 mx, .int .i64 ch, .bool lz] 46) := HB1.out.keep K3 (by simp)
    clear HO HK HB1 K3 s0 s1 s2 s3 s4
    generalize hT : atT b S i = t at HS1 HW HS0 ⊢
    obtain ⟨lt, ds, ln⟩ := t
    obtain ⟨q1, q2, q3, q4, q5⟩ := HS1.out
    simp only at q1 q2 q3 q4 q5 HW HS0
    clear HS1
    subst q1
    have HW1 := Lib.hid (show i + 1 ≤ b.length from hlt)
    have HA1 : Hid (∀ (ww : World) (kk : Keep [] (w3.alloc (.cells #[.int .u8 0, .int .i64 ds, .int .i64 ln] 42)) ww), Calls Tryz.prog 55 #[.slice a b.length cap, .agg #[.int .i64 win, .int .i64 mn, .int .i64 mx, .int .i64 ch, .bool lz], .int .i64 ((i : Int) + 1)] ww fun e w' => e = .returned (.agg #[.int .u8 (atT b S (i + 1)).lit.toNat, .int .i64 (atT b S (i + 1)).dist, .int .i64 (atT b S (i + 1)).len]) ∧ Keep [] ww w') := fun ww kk => HA.out ww ((HK2.out.alloc _).trans kk (by simp)) (i + 1) hlt
    have K5 : Hid (Keep [] w (w3.alloc (.cells #[.int .u8 0, .int .i64 ds, .int .i64 ln] 42))) := HK2.out.alloc _
    have B5 : Hid (Blk (w3.alloc (.cells #[.int .u8 0, .int .i64 ds, .int .i64 ln] 42)) w.heap.size #[.int .i64 win, .int .i64 mn, .int .i64 mx, .int .i64 ch, .bool lz] 46) := HB2.out.alloc _
    have T5 : Hid (Blk (w3.alloc (.cells #[.int .u8 0, .int .i64 ds, .int .i64 ln] 42)) w3.heap.size #[.int .u8 0, .int .i64 ds, .int .i64 ln] 42) := Blk.new _ _ _
    have HO5 : Hid (OwnT (w3.alloc (.cells #[.int .u8 0, .int .i64 ds, .int .i64 ln] 42)) (.slice a7 ts.length c7) ts) := HO2.out.keep ((Keep.refl [] w3).alloc _) (by simp)
    have HG : Hid (∀ x, (Value.slice a7 ts.length c7).ownBlock = some x → x < w3.heap.size) := fun x hx => HO2.out.lt x hx
    have HGW : Hid (w.heap.size < w3.heap.size) := HB2.out.lt
    clear HO2 HK2 HB2
    generalize (atT b S (i + 1)).lit.toNat = lt' at HA1
    generalize (atT b S (i + 1)).dist = ds' at HA1
    generalize (atT b S (i + 1)).len = ln' at HA1 HW
    go_upto_region 7 with fail
    generalize w3.alloc (.cells #[.int .u8 0, .int .i64 ds, .int .i64 ln] 42) = w5 at HA1 K5 B5 T5 HO5 ⊢
    generalize w3.heap.size = g at T5 HG HGW ⊢
    have y0 : ∀ p : Kept w5, p.x.cell? ⟨w.heap.size, 0, none⟩ = some (.int .i64 win) := fun p => p.h.cell (B5.out.cell 0 _ rfl) (by simp)
    have y1 : ∀ p : Kept w5, p.x.cell? ⟨w.heap.size, 1, none⟩ = some (.int .i64 mn) := fun p => p.h.cell (B5.out.cell 1 _ rfl) (by simp)
    have y2 : ∀ p : Kept w5, p.x.cell? ⟨w.heap.size, 2, none⟩ = some (.int .i64 mx) := fun p => p.h.cell (B5.out.cell 2 _ rfl) (by simp)
    have y3 : ∀ p : Kept w5, p.x.cell? ⟨w.heap.size, 3, none⟩ = some (.int .i64 ch) := fun p => p.h.cell (B5.out.cell 3 _ rfl) (by simp)
    have y4 : ∀ p : Kept w5, p.x.cell? ⟨w.heap.size, 4, none⟩ = some (.bool lz) := fun p => p.h.cell (B5.out.cell 4 _ rfl) (by simp)
    have x2 : ∀ p : Kept w5, p.x.cell? ⟨g, 2, none⟩ = some (.int .i64 ln) := fun p => p.h.cell (T5.out.cell 2 _ rfl) (by simp)
    have z2 := B5.out.cell 2 (.int .i64 mx) rfl
    have z4 := B5.out.cell 4 (.bool lz) rfl
    have zz := T5.out.cell 2 (.int .i64 ln) rfl
    have hw1 : IntKind.i64.wrap ((i : Int) + 1) = (i : Int) + 1 := by rw [IntKind.wrap_i64]; omega
    have hfd := fun ww : World => field_len ww (lt' : Int) ds' ln'
    go_cut [9] (fun wv wx => ∃ bv, wv = .bool bv ∧ Hid (bv = true ↔ waits b S i) ∧ Hid (Keep [] w5 wx))
    case first =>
      clear HF1 HO5 HG HGW HB T5 B5 K5
      cases lz with
      | false =>
        have NW : Hid (¬ (false = true ∧ ln < mx ∧ 0 < ln ∧ i + 1 < b.length ∧ ln < ln')) := fun g => (by cases g.1)
        clear y0 y1 y2 y3 y4 x2 hfd
        go_wp2_with fail
        go_quiet (fail)
        go_wp2_with fail
        go_meet
        exact ⟨false, rfl, (show _ ↔ _ from ⟨fun e => (by cases e), fun g => absurd (HW.out.1 g) NW.out⟩), (Keep.refl [] w5).drewN _⟩
      | true =>
        by_cases h1 : ln < mx
        case neg =>
          have NW : Hid (¬ (true = true ∧ ln < mx ∧ 0 < ln ∧ i + 1 < b.length ∧ ln < ln')) := fun g => h1 g.2.1
          have d1 := dec_f h1
          clear h1
          clear y0 y1 y2 y3 y4 x2 hfd
          go_wp2_with fail
          go_quiet (fail)
          go_wp2_with fail
          go_meet
          exact ⟨false, rfl, (show _ ↔ _ from ⟨fun e => (by cases e), fun g => absurd (HW.out.1 g) NW.out⟩), (Keep.refl [] w5).drewN _⟩
        have d1 := dec_t h1
        by_cases h2 : 0 < ln
        case neg =>
          have NW : Hid (¬ (true = true ∧ ln < mx ∧ 0 < ln ∧ i + 1 < b.length ∧ ln < ln')) := fun g => h2 g.2.2.1
          have d2 := dec_f h2
          clear h1 h2
          clear y0 y1 y2 y3 y4 x2 hfd
          go_wp2_with fail
          go_quiet (fail)
          go_wp2_with fail
          go_meet
          exact ⟨false, rfl, (show _ ↔ _ from ⟨fun e => (by cases e), fun g => absurd (HW.out.1 g) NW.out⟩), (Keep.refl [] w5).drewN _⟩
        have d2 := dec_t h2
        by_cases h3 : i + 1 < b.length
        case neg =>
          have NW : Hid (¬ (true = true ∧ ln < mx ∧ 0 < ln ∧ i + 1 < b.length ∧ ln < ln')) := fun g => h3 g.2.2.2.1
          have d3 := dec_f h3
          have d3' := dec_f (show ¬ (i : Int) + 1 < (b.length : Int) by omega)
          clear h1 h2 h3
          clear y0 y1 y2 y3 y4 x2 hfd
          go_wp2_with fail
          go_quiet (fail)
          go_wp2_with fail
          go_meet
          exact ⟨false, rfl, (show _ ↔ _ from ⟨fun e => (by cases e), fun g => absurd (HW.out.1 g) NW.out⟩), (Keep.refl [] w5).drewN _⟩
        have d3 := dec_t h3
        have d3' := dec_t (show (i : Int) + 1 < (b.length : Int) by omega)
        by_cases h4 : ln < ln'
        case neg =>
          have NW : Hid (¬ (true = true ∧ ln < mx ∧ 0 < ln ∧ i + 1 < b.length ∧ ln < ln')) := fun g => h4 g.2.2.2.2
          have d4 := dec_f h4
          clear h1 h2 h3 h4
          clear z2 z4 zz
          go_wp2_with fail
          refine wp_region_kept (by kernel_rfl) (by kernel_rfl) ?_
          repeat (quiet_step (first | (go_at_call 55; with_reducible exact kept_of (HA1.out _ (Kept.h _)))))
          refine wpQuiet_nil ?_
          intro _ hw'
          obtain ⟨p, hw''⟩ := hw'
          subst hw''
          go_wp2_with fail
          go_meet
          exact ⟨false, rfl, (show _ ↔ _ from ⟨fun e => (by cases e), fun g => absurd (HW.out.1 g) NW.out⟩), p.h⟩
        clear z2 z4 zz
        have YW : Hid (waits b S i) := HW.out.2 ⟨rfl, h1, h2, h3, h4⟩
        have d4 := dec_t h4
        clear h1 h2 h3 h4
        go_wp2_with fail
        refine wp_region_kept (by kernel_rfl) (by kernel_rfl) ?_
        repeat (quiet_step (first | (go_at_call 55; with_reducible exact kept_of (HA1.out _ (Kept.h _)))))
        refine wpQuiet_nil ?_
        intro _ hw'
        obtain ⟨p, hw''⟩ := hw'
        subst hw''
        go_wp2_with fail
        go_meet
        exact ⟨true, rfl, (show _ ↔ _ from ⟨fun _ => YW.out, fun _ => rfl⟩), p.h⟩
    case rest =>
      obtain ⟨bv, rfl, HBV, KC⟩ := hcut
      have KW : Hid (Keep [] w wc) := K5.out.trans KC.out (by simp)
      have BC : Hid (Blk wc w.heap.size #[.int .i64 win, .int .i64 mn, .int .i64 mx, .int .i64 ch, .bool lz] 46) := B5.out.keep KC.out (by simp)
      have TC : Hid (Blk wc g #[.int .u8 0, .int .i64 ds, .int .i64 ln] 42) := T5.out.keep KC.out (by simp)
      have OC : Hid (OwnT wc (.slice a7 ts.length c7) ts) := HO5.out.keep KC.out (by simp)
      clear K5 B5 T5 HO5 KC y0 y1 y2 y3 y4 x2 z2 z4 zz hw1 hfd HA1 HW HA
      obtain ⟨n, rfl⟩ := Int.eq_ofNat_of_zero_le q4
      have e0 := TC.out.cell 0 (.int .u8 0) rfl
      have e1 := TC.out.cell 1 (.int .i64 ds) rfl
      have e2 := TC.out.cell 2 (.int .i64 n) rfl
      by_cases hl : (n : Int) = 0 ∨ waits b S i
      · have HR : Hid (stepT b S i = ⟨b.getD i 0, 0, 0⟩) := by have := HS0.out; rw [if_pos hl] at this; exact this
        have HF2 : Hid (found b S = (ts ++ [⟨b.getD i 0, 0, 0⟩]) ++ fdF b S f' (i + 1)) := by
          have := HF1.out
          rw [HR.out] at this
          unfold Hid
          rw [this, List.append_assoc]; rfl
        obtain ⟨gb, ob, cb, hv, e3⟩ := HI.out wc KW.out i hlt
        simp only [Value.slice.injEq] at hv
        obtain ⟨rfl, h3, rfl⟩ := hv
        clear h3
        have g1 : b.getD i 0 = b[i]'hlt := by rw [List.getD_eq_getElem?_getD, List.getElem?_eq_getElem hlt]; rfl
        rw [← g1] at e3
        generalize b.getD i 0 = x at e3 HF2
        have HSS := Lib.hid (Blk.new wc (Tk.cells ⟨x, 0, 0⟩).toArray 42)
        clear g1 HR HF1 HS0 e0 e1
        by_cases h0 : (n : Int) = 0
        · have d0 : ((n : Int) == 0) = true := by simpa using h0
          clear h0 hl
          go_wp2_with (at_builtin; (refine wpList_appendT (.tmp 59) (.tmp 65) rfl rfl (.slice a7 ts.length c7) ts rfl (OC.out.keep ((Keep.refl [] wc).alloc _) (by simp)) wc.heap.size (⟨x, 0, 0⟩ : Tk) rfl HSS.out ⟨wf0, wf0⟩ (by omega) ?_); (intro v8 w8 o8 k8 b8 z8); (obtain ⟨g8, c8, hv8⟩ := o8.blk z8); (subst hv8))
          have HO8 : Hid (OwnT w8 (.slice (some ⟨g8, 0, none⟩) (ts ++ [(⟨x, 0, 0⟩ : Tk)]).length c8) (ts ++ [(⟨x, 0, 0⟩ : Tk)])) := o8
          have HK8 : Hid (Keep [] w w8) := (KW.out.alloc _).trans k8 (fun y hy => .inr (Nat.le_of_lt (HB.out y (by simpa using hy))))
          have HB9 : Hid (Blk w8 w.heap.size #[.int .i64 win, .int .i64 mn, .int .i64 mx, .int .i64 ch, .bool lz] 46) := (BC.out.alloc _).keep k8 (fun hx => by have := HB.out w.heap.size (by simpa using hx); omega)
          have HB8 : Hid (∀ y, (Value.slice (some ⟨g8, 0, none⟩) (ts ++ [(⟨x, 0, 0⟩ : Tk)]).length c8).ownBlock = some y → w.heap.size < y) := fun y hy => by
            rcases b8 y hy with h | h
            · exact HB.out y h
            · have := KW.out.size; rw [h]; simp; omega
          have hl8 : (ts ++ [(⟨x, 0, 0⟩ : Tk)]).length = ts.length + 1 := by simp
          have HL8 := Lib.hid hl8
          clear o8 k8 b8 z8 OC KW HB BC TC HSS HG hl8
          go_wp2_with fail
          go_roundw
          case rel => exact ⟨i + 1, f', ts ++ [(⟨x, 0, 0⟩ : Tk)], _, c8, by omega, by omega, by rw [HL8.out]; omega, by go_num, by first | rfl | rw [HL8.out], HF2, HO8, HK8, HB9, HB8⟩
          case measure => simp [intOf]; omega
        · have d0 : ((n : Int) == 0) = false := by simpa using h0
          obtain rfl : bv = true := HBV.out.2 (hl.resolve_left h0)
          clear h0 hl
          go_wp2_with (at_builtin; (refine wpList_appendT (.tmp 59) (.tmp 65) rfl rfl (.slice a7 ts.length c7) ts rfl (OC.out.keep ((Keep.refl [] wc).alloc _) (by simp)) wc.heap.size (⟨x, 0, 0⟩ : Tk) rfl HSS.out ⟨wf0, wf0⟩ (by omega) ?_); (intro v8 w8 o8 k8 b8 z8); (obtain ⟨g8, c8, hv8⟩ := o8.blk z8); (subst hv8))
          have HO8 : Hid (OwnT w8 (.slice (some ⟨g8, 0, none⟩) (ts ++ [(⟨x, 0, 0⟩ : Tk)]).length c8) (ts ++ [(⟨x, 0, 0⟩ : Tk)])) := o8
          have HK8 : Hid (Keep [] w w8) := (KW.out.alloc _).trans k8 (fun y hy => .inr (Nat.le_of_lt (HB.out y (by simpa using hy))))
          have HB9 : Hid (Blk w8 w.heap.size #[.int .i64 win, .int .i64 mn, .int .i64 mx, .int .i64 ch, .bool lz] 46) := (BC.out.alloc _).keep k8 (fun hx => by have := HB.out w.heap.size (by simpa using hx); omega)
          have HB8 : Hid (∀ y, (Value.slice (some ⟨g8, 0, none⟩) (ts ++ [(⟨x, 0, 0⟩ : Tk)]).length c8).ownBlock = some y → w.heap.size < y) := fun y hy => by
            rcases b8 y hy with h | h
            · exact HB.out y h
            · have := KW.out.size; rw [h]; simp; omega
          have hl8 : (ts ++ [(⟨x, 0, 0⟩ : Tk)]).length = ts.length + 1 := by simp
          have HL8 := Lib.hid hl8
          clear o8 k8 b8 z8 OC KW HB BC TC HSS HG hl8
          go_wp2_with fail
          go_roundw
          case rel => exact ⟨i + 1, f', ts ++ [(⟨x, 0, 0⟩ : Tk)], _, c8, by omega, by omega, by rw [HL8.out]; omega, by go_num, by first | rfl | rw [HL8.out], HF2, HO8, HK8, HB9, HB8⟩
          case measure => simp [intOf]; omega
      · have HR : Hid (stepT b S i = ⟨0, ds, n⟩) := by have := HS0.out; rw [if_neg hl] at this; exact this
        have h0 : ¬ (n : Int) = 0 := fun e => hl (.inl e)
        have HF2 : Hid (found b S = (ts ++ [⟨0, ds, n⟩]) ++ fdF b S f' (i + n)) := by
          have := HF1.out
          rw [HR.out] at this
          have hz : sz1 (⟨0, ds, n⟩ : Tk) = n := by unfold sz1; rw [if_neg h0]; simp
          rw [hz] at this
          unfold Hid
          rw [this, List.append_assoc]; rfl
        have d0 : ((n : Int) == 0) = false := by simpa using h0
        have hn0 : 0 < n := by omega
        obtain rfl : bv = false := by
          cases bv with
          | false => rfl
          | true => exact absurd (.inr (HBV.out.1 rfl)) hl
        have hwd : (Lit.int .i64 ds).wf = true := wfN _ q2 (by omega)
        have hwn : (Lit.int .i64 (n : Int)).wf = true := wfN _ (by omega) (by omega)
        have HSS := Lib.hid (Blk.new wc #[.int .u8 0, .int .i64 ds, .int .i64 n] 42)
        clear hl h0 HR HF1 HS0
        go_wp2_with (at_builtin; (refine wpList_appendT (.tmp 69) (.tmp 71) rfl rfl (.slice a7 ts.length c7) ts rfl (OC.out.keep ((Keep.refl [] wc).alloc _) (by simp)) wc.heap.size (⟨0, ds, n⟩ : Tk) rfl HSS.out ⟨hwd, hwn⟩ (by omega) ?_); (intro v8 w8 o8 k8 b8 z8); (obtain ⟨g8, c8, hv8⟩ := o8.blk z8); (subst hv8); (have e8 := ((TC.out.alloc _).keep k8 (fun hx => by have := HG.out g (by simpa using hx); omega)).cell 2 (.int .i64 n) rfl))
        have HO8 : Hid (OwnT w8 (.slice (some ⟨g8, 0, none⟩) (ts ++ [(⟨0, ds, n⟩ : Tk)]).length c8) (ts ++ [(⟨0, ds, n⟩ : Tk)])) := o8
        have HK8 : Hid (Keep [] w w8) := (KW.out.alloc _).trans k8 (fun y hy => .inr (Nat.le_of_lt (HB.out y (by simpa using hy))))
        have HB9 : Hid (Blk w8 w.heap.size #[.int .i64 win, .int .i64 mn, .int .i64 mx, .int .i64 ch, .bool lz] 46) := (BC.out.alloc _).keep k8 (fun hx => by have := HB.out w.heap.size (by simpa using hx); omega)
        have HB8 : Hid (∀ y, (Value.slice (some ⟨g8, 0, none⟩) (ts ++ [(⟨0, ds, n⟩ : Tk)]).length c8).ownBlock = some y → w.heap.size < y) := fun y hy => by
          rcases b8 y hy with h | h
          · exact HB.out y h
          · have := KW.out.size; rw [h]; simp; omega
        have hl8 : (ts ++ [(⟨0, ds, n⟩ : Tk)]).length = ts.length + 1 := by simp
        have HL8 := Lib.hid hl8
        clear o8 k8 b8 z8 OC KW HB BC TC HSS HG hl8
        go_wp2_with fail
        go_roundw
        case rel => exact ⟨i + n, f', ts ++ [(⟨0, ds, n⟩ : Tk)], _, c8, by omega, by omega, by rw [HL8.out]; omega, by go_num, by first | rfl | rw [HL8.out], HF2, HO8, HK8, HB9, HB8⟩
        case measure => simp [intOf]; omega
end Go.Proofs.YthmojejiaeninaaGreat
namespace Go.Proofs.YthmojejiaeninaaGreat
set_option linter.unusedVariables false
set_option linter.unusedSimpArgs false

/-- a copy of n bytes as several of most bytes each, the last of what is left -/
def pcs (d : Int) (most : Nat) (n : Nat) : List Tk := if h : n = 0 ∨ most = 0 then [] else ⟨0, d, (min n most : Nat)⟩ :: pcs d most (n - most)
termination_by n
decreasing_by omega
theorem pcs_zero (d : Int) (most : Nat) : pcs d most 0 = [] := by rw [pcs, dif_pos (.inl rfl)]
theorem pcs_step (d : Int) (most n : Nat) (h : 1 ≤ n) (hm : 1 ≤ most) : pcs d most n = ⟨0, d, (min n most : Nat)⟩ :: pcs d most (n - most) := by rw [pcs, dif_neg (by omega)]
theorem pcs_len (d : Int) (most n : Nat) : (pcs d most n).length ≤ n := by
  induction n using Nat.strongRecOn with
  | _ n ih =>
    by_cases h : n = 0 ∨ most = 0
    · rw [pcs, dif_pos h]; simp
    · rw [pcs, dif_neg h]
      have := ih (n - most) (by omega)
      simp only [List.length_cons]; omega
/-- one byte more: the last piece is longer, or there is a piece more -/
theorem pcs_succ (n : Nat) (h : 1 ≤ n) : ∃ l r, pcs 1 258 n = l ++ [⟨0, 1, r⟩] ∧ 1 ≤ r ∧ r ≤ 258 ∧ pcs 1 258 (n + 1) = if r = 258 then pcs 1 258 n ++ [⟨0, 1, 1⟩] else l ++ [⟨0, 1, r + 1⟩] := by
  induction n using Nat.strongRecOn with
  | _ n ih =>
    by_cases h1 : n < 258
    · refine ⟨[], n, ?_, by omega, by omega, ?_⟩
      · rw [pcs_step _ _ _ h (by omega), show n - 258 = 0 by omega, pcs_zero, show min n 258 = n by omega]; rfl
      · rw [if_neg (by omega), pcs_step _ _ _ (by omega) (by omega), show n + 1 - 258 = 0 by omega, pcs_zero, show min (n + 1) 258 = n + 1 by omega]
        simp
    · by_cases h2 : n = 258
      · subst h2
        refine ⟨[], 258, ?_, by omega, by omega, ?_⟩
        · rw [pcs_step _ _ _ h (by omega), pcs_zero]; rfl
        · rw [if_pos rfl, pcs_step _ _ _ (by omega) (by omega), pcs_step 1 258 258 (by omega) (by omega)]
          show _ :: pcs 1 258 1 = _
          rw [pcs_step 1 258 1 (by omega) (by omega), pcs_zero]; rfl
      · obtain ⟨l, r, e, r1, r2, e2⟩ := ih (n - 258) (by omega) (by omega)
        have e3 : pcs 1 258 n = ⟨0, 1, 258⟩ :: pcs 1 258 (n - 258) := by rw [pcs_step _ _ _ h (by omega), show min n 258 = 258 by omega]; rfl
        have e4 : pcs 1 258 (n + 1) = ⟨0, 1, 258⟩ :: pcs 1 258 (n - 258 + 1) := by rw [pcs_step _ _ _ (by omega) (by omega), show min (n + 1) 258 = 258 by omega, show n + 1 - 258 = n - 258 + 1 by omega]; rfl
        refine ⟨⟨0, 1, 258⟩ :: l, r, by rw [e3, e]; rfl, r1, r2, ?_⟩
        rw [e4, e2, e3]
        split <;> rfl
/-- a run's tokens -/
theorem rn_run (b : List UInt8) (k m : Nat) (hs : k = 0 ∨ b.getD k 0 ≠ b.getD (k - 1) 0) (hm : ∀ i, i ≤ m → b.getD (k + i) 0 = b.getD k 0) : rn b (k + 1 + m) = rn b k ++ ⟨b.getD k 0, 0, 0⟩ :: pcs 1 258 m := by
  induction m with
  | zero => rw [pcs_zero, Nat.add_zero, rn, if_pos hs]
  | succ m ih =>
    have ih' := ih (fun i hi => hm i (by omega))
    have e1 := hm (m + 1) (by omega)
    have e2 := hm m (by omega)
    have hne : ¬ (k + 1 + m = 0 ∨ b.getD (k + 1 + m) 0 ≠ b.getD (k + 1 + m - 1) 0) := by
      rw [show k + 1 + m = k + (m + 1) by omega, show k + (m + 1) - 1 = k + m by omega, e1, e2]; simp
    rw [← Nat.add_assoc, rn, if_neg hne, ih']
    by_cases h0 : m = 0
    · subst h0
      rw [pcs_zero, if_pos (by simp)]
      rw [pcs_step 1 258 (0 + 1) (by omega) (by omega), pcs_zero]
      simp
    · obtain ⟨l, r, p1, r1, r2, p2⟩ := pcs_succ m (by omega)
      have hl : ((rn b k ++ ⟨b.getD k 0, 0, 0⟩ :: pcs 1 258 m).getLast?.getD default) = ⟨0, 1, r⟩ := by rw [p1, ← List.cons_append, ← List.append_assoc, List.getLast?_append]; rfl
      rw [hl, p2]
      by_cases hr : r = 258
      · rw [if_pos (.inr hr), if_pos hr]; simp
      · rw [if_neg (by show ¬ (r = 0 ∨ r = 258); omega), if_neg hr, p1]
        have e : rn b k ++ ⟨b.getD k 0, 0, 0⟩ :: (l ++ [⟨0, 1, r⟩]) = (rn b k ++ ⟨b.getD k 0, 0, 0⟩ :: l) ++ [⟨0, 1, r⟩] := by simp
        rw [e, set_last]; simp
theorem tellT_cut (s : HS) (ts : List Tk) (k : Nat) (hk : k < ts.length) (h : (tellT s (ts.take k)).1 = 0) : tellT s (ts.take (k + 1)) = (tellT s (ts.take k)).2.tk ts[k] := by
  rw [List.take_succ_eq_append_getElem hk, tellT_append, if_pos h, tellT]
  split
  · rename_i h1; rw [tellT]; exact Prod.ext h1.symm rfl
  · rfl
/-- the first error stays -/
theorem tellT_err (s : HS) (ts : List Tk) (k : Nat) (h : (tellT s (ts.take k)).1 ≠ 0) : tellT s ts = tellT s (ts.take k) := by
  conv => lhs; rw [← List.take_append_drop k ts]
  rw [tellT_append, if_neg h]
theorem sumT_take (ts : List Tk) (k : Nat) (hk : k < ts.length) : sumT (ts.take (k + 1)) = sumT (ts.take k) + sz1 ts[k] := by
  rw [List.take_succ_eq_append_getElem hk, sumT_append]; simp [sumT]
theorem sumT_le (ts : List Tk) (k : Nat) : sumT (ts.take k) ≤ sumT ts := by
  conv => rhs; rw [← List.take_append_drop k ts]
  rw [sumT_append]; omega
end Go.Proofs.YthmojejiaeninaaGreat
