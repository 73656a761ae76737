/- Texts put together: Ints OwnC Tok TokMath OwnI IsFrom RefTok TokRun RefTok2 -/
import Derived.Test.YtokfcgloogdeiaaGreatDoorPart3
import Derived.Test.YtokfcgloogdeiaaGreatDoorPart2
import Derived.Laws.OwnMore
import Derived.Test.YtokfcgloogdeiaaGreatDoorPart4
import Derived.Deep.Slices
import Derived.Test.YtokfcgloogdeiaaGreatDoorPart1
import Derived.BigQuiet
import Derived.Laws.StructEq
namespace Go.Proofs.YtokfcgloogdeiaaGreatDoor
set_option linter.unusedVariables false
set_option linter.unusedSimpArgs false
open Go.ChangeShapes Go.WideShapes Go.ChangeAt Go.RowKit

/-- a list's numbers as they are -/
def zn (zs : List Int) (i : Nat) : Int := zs.getD i 0
theorem zn_get (zs : List Int) (i : Nat) (h : i < zs.length) : zn zs i = zs[i] := by simp [zn, h]
theorem Is.sh {k : IntKind} {w : World} {v : Value} {zs : List Int} (h : Is k w v zs) : ∃ a cap, v = .slice a zs.length cap ∧ zs.length ≤ 9223372036854775807 := by
  obtain ⟨a, cap, rfl, h1, h2, _⟩ := h
  unfold maxLen at h2
  exact ⟨a, cap, rfl, by omega⟩
theorem refints_c (w : World) (v : Value) (zs : List Int) (n : Nat) (hn : n ≤ 9223372036854775807) (h : Is .i64 w v zs) : Calls Tryz.prog 39 #[v, .int .i64 n] w fun e w' => ∃ v', e = .returned v' ∧ Is .i64 w v' (zs.take n) ∧ v'.ownBlock = v.ownBlock ∧ w = w' := by
  have h0 := h
  obtain ⟨a, cap, rfl, h1, h2, h3, h4, h5⟩ := h
  unfold maxLen at h2
  by_cases hl : n < zs.length
  · have H4 := Lib.hid h4
    clear h4 h0
    go_enter Tryz.func39, Tryz.ntmps39
    go_wp2
    go_ret
    have e : (zs.take n).length = n := by rw [List.length_take]; omega
    refine ⟨_, rfl, ⟨a, cap, by rw [e]; rfl, by omega, by unfold maxLen; omega, h3, fun x hx i hi => ?_, fun z hz => h5 z (List.mem_of_mem_take hz)⟩, (by cases a <;> rfl), rfl⟩
    rw [e] at hi
    rw [H4.out x hx i (by omega)]; simp
  · have ht : Hid (zs.take n = zs) := List.take_of_length_le (by omega)
    clear h4
    go_enter Tryz.func39, Tryz.ntmps39
    go_wp2
    go_ret
    exact ⟨_, rfl, by rw [ht.out]; exact h0, rfl, rfl⟩
def ints64 (l : List Int) : List Value := l.map fun c => .int .i64 c
/-- v is a slice of numbers of the call's own, onto which it may append -/
def OwnI (w : World) (v : Value) (l : List Int) : Prop := w.ownsRow 0 3 1 v l.length (ints64 l) ∧ ∀ z ∈ l, (Lit.int .i64 z).wf = true
theorem OwnI.is {w : World} {v : Value} {l : List Int} (h : OwnI w v l) : Is .i64 w v l := by
  obtain ⟨h, hz⟩ := h
  rcases h.2 with ⟨rfl, hn⟩ | ⟨g, cap, cur, rfl, _, hh, hc, hm, hs, ht⟩
  · obtain rfl : l = [] := List.eq_nil_of_length_eq_zero hn
    exact ⟨none, 0, rfl, by simp, by simp, fun _ => rfl, (fun x hx => nomatch hx), by simp⟩
  · refine ⟨some ⟨g, 0, none⟩, cap, rfl, hc, hm, (fun h => nomatch h), fun x hx i hi => ?_, hz⟩
    obtain rfl : (⟨g, 0, none⟩ : Addr) = x := by simpa using hx
    have e : (⟨g, 0, none⟩ : Addr).add i = ⟨g, i, none⟩ := by unfold Addr.add; split <;> simp_all
    rw [e, cell_of_row w g i cur _ (0, 0) hh]
    have : (ints64 l)[i]? = some (.int .i64 l[i]) := by simp [ints64, hi]
    rw [← ht, List.getElem?_take] at this
    split at this
    · simpa using this
    · cases this
theorem OwnI.keep {w w' : World} {v : Value} {l : List Int} {S : List Nat} (h : OwnI w v l) (k : Keep S w w') (hb : ∀ b, v.ownBlock = some b → b ∉ S) : OwnI w' v l := by
  refine ⟨⟨h.1.1, ?_⟩, h.2⟩
  rcases h.1.2 with h2 | ⟨g, cap, cur, rfl, hb0, hh, r⟩
  · exact .inl h2
  · exact .inr ⟨g, cap, cur, rfl, hb0, (k.block g (lt_of_block hh) (hb g rfl)).trans hh, r⟩
theorem OwnI.lt {w : World} {v : Value} {l : List Int} (h : OwnI w v l) : ∀ b, v.ownBlock = some b → b < w.heap.size := fun b hb => (World.ownsRow.lt h.1 b hb).2
theorem OwnI.nil (w : World) : OwnI w (.slice none 0 0) [] := ⟨World.ownsRow_nil w 0 _ 1, by simp⟩
theorem info64 : (Tryz.prog.info? 3).map (fun i => (i.zero, i.size, i.bytes)) = some (some (.int .i64 0), 1, 8) := by kernel_rfl
theorem Is.src {w : World} {v : Value} {l : List Int} (h : Is .i64 w v l) : Src w 1 v l.length (ints64 l) := by
  obtain ⟨a, cap, rfl, h1, h2, h3, h4, _⟩ := h
  refine ⟨by simp [ints64], by simp [ints64, Value.oneCell'], ?_⟩
  cases a with
  | none =>
    obtain rfl := h3 rfl
    left; have : l.length = 0 := by omega
    simp [this]
  | some x =>
    refine .inr ⟨x, cap, rfl, fun j u hu => ?_⟩
    have hj : j < l.length := by
      have := (List.getElem?_eq_some_iff.1 hu).1; simpa [ints64] using this
    rw [h4 x rfl j hj]
    simpa [ints64, hj] using hu
theorem ints64_append (a b : List Int) : ints64 (a ++ b) = ints64 a ++ ints64 b := by simp [ints64]
/-- append of numbers -/
theorem wpList_appendI {w : World} {ops : Array Oper} {rest : List Oper} {o : Oper} {a : Act} {Q : Exit → Act → World → Prop} (s x : Operand) (hgd : o.guard = none)
    (ho : o.op = .call { callee := .builtin .append, args := #[s, x], argTypes := #[38, 38] })
    (v : Value) (l : List Int) (hs : a.eval s = v) (hown : OwnI w v l) (xv : Value) (l2 : List Int) (hx : a.eval x = xv) (hsrc : Is .i64 w xv l2) (hlen : l.length + l2.length ≤ 17592186044416)
    (h : ∀ v' w', OwnI w' v' (l ++ l2) → Keep v.ownBlock.toList w w' → (∀ b, v'.ownBlock = some b → v.ownBlock = some b ∨ b = w.heap.size) → (v ≠ .slice none 0 0 → v' ≠ .slice none 0 0) → wpList Tryz.prog ops Q rest (a.put o.dst v') w') : wpList Tryz.prog ops Q (o :: rest) a w := by
  obtain ⟨i0, hi, hz0, hz1, hz2⟩ := info_parts info64
  refine wpList_append_any hgd s x 38 ho 3 i0 (.int .i64 0) 1 8 Tryz.underlying38 hi hz0 hz1 hz2 rfl (by decide) v l.length (ints64 l) hs hown.1 xv l2.length (ints64 l2) hx hsrc.src (by unfold maxLen; omega) (by omega) ?_
  intro v' w' h1 h2 h3 h4
  refine h v' w' ⟨by rw [List.length_append, ints64_append]; exact h1, fun z hz => ?_⟩ h2 h3 h4
  rcases List.mem_append.1 hz with h5 | h5
  · exact hown.2 z h5
  · obtain ⟨_, _, _, _, _, _, _, h6⟩ := hsrc
    exact h6 z h5
end Go.Proofs.YtokfcgloogdeiaaGreatDoor
namespace Go.Proofs.YtokfcgloogdeiaaGreatDoor
set_option linter.unusedVariables false
set_option linter.unusedSimpArgs false
open Go.ChangeShapes Go.WideShapes Go.ChangeAt Go.RowKit

def cells2 (c l : Nat → Nat) (k : Nat) : List Value := (List.range k).flatMap fun i => [.int .u32 (c i), .int .i64 (l i)]
theorem cells2_succ (c l : Nat → Nat) (k : Nat) : cells2 c l (k + 1) = cells2 c l k ++ [.int .u32 (c k), .int .i64 (l k)] := by simp [cells2, List.range_succ]
theorem cells2_len (c l : Nat → Nat) (k : Nat) : (cells2 c l k).length = k * 2 := by
  induction k with
  | zero => rfl
  | succ k ih => rw [cells2_succ, List.length_append, ih]; simp; omega
theorem cells2_get (c l : Nat → Nat) (k i : Nat) (h : i < k) : (cells2 c l k)[i * 2]? = some (.int .u32 (c i)) ∧ (cells2 c l k)[i * 2 + 1]? = some (.int .i64 (l i)) := by
  induction k with
  | zero => omega
  | succ k ih =>
    rw [cells2_succ]
    by_cases e : i = k
    · subst e
      have := cells2_len c l i
      constructor
      · rw [List.getElem?_append_right (by omega), this]; simp
      · rw [List.getElem?_append_right (by omega), this, show i * 2 + 1 - i * 2 = 1 by omega]; simp
    · have := cells2_len c l k
      rw [List.getElem?_append_left (by omega), List.getElem?_append_left (by omega)]
      exact ih (by omega)
/-- v is a row of k words of the call's own -/
def OwnC (w : World) (v : Value) (c l : Nat → Nat) (k : Nat) : Prop := w.ownsRow 0 106 2 v k (cells2 c l k)
theorem OwnC.nil (w : World) (c l : Nat → Nat) : OwnC w (.slice none 0 0) c l 0 := World.ownsRow_nil w 0 _ 2
theorem OwnC.keep {w w' : World} {v : Value} {c l : Nat → Nat} {n : Nat} {S : List Nat} (h : OwnC w v c l n) (k : Keep S w w') (hb : ∀ b, v.ownBlock = some b → b ∉ S) : OwnC w' v c l n := by
  refine ⟨h.1, ?_⟩
  rcases h.2 with h2 | ⟨g, cap, cur, rfl, hb0, hh, r⟩
  · exact .inl h2
  · exact .inr ⟨g, cap, cur, rfl, hb0, (k.block g (lt_of_block hh) (hb g rfl)).trans hh, r⟩
theorem OwnC.lt {w : World} {v : Value} {c l : Nat → Nat} {n : Nat} (h : OwnC w v c l n) : ∀ b, v.ownBlock = some b → b < w.heap.size := fun b hb => (World.ownsRow.lt h b hb).2
theorem OwnC.sts {w : World} {v : Value} {c l : Nat → Nat} {n : Nat} (h : OwnC w v c l n) : Sts w v n 2 (fun i j => if j = 0 then .int .u32 (c i) else .int .i64 (l i)) := by
  rcases h.2 with ⟨rfl, hn⟩ | ⟨g, cap, cur, rfl, _, hh, hc, hm, hs, ht⟩
  · subst hn
    exact ⟨none, 0, rfl, by simp, by simp, fun _ => rfl, fun x hx => nomatch hx⟩
  · refine ⟨some ⟨g, 0, none⟩, cap, rfl, hc, hm, (fun h => nomatch h), fun x hx i hi j hj => ?_⟩
    obtain rfl : (⟨g, 0, none⟩ : Addr) = x := by simpa using hx
    have e : ∀ m, ((⟨g, 0, none⟩ : Addr).add m) = ⟨g, m, none⟩ := fun m => by cases m <;> simp [Addr.add]
    rw [e, cell_of_row w g _ cur _ (0, 0) hh]
    have h2 := cells2_get c l n i hi
    rw [← ht, List.getElem?_take, List.getElem?_take, if_pos (by omega), if_pos (by omega)] at h2
    obtain rfl | rfl : j = 0 ∨ j = 1 := by omega
    · simpa using h2.1
    · simpa using h2.2
theorem infoC : (Tryz.prog.info? 106).map (fun i => (i.zero.map (·.cells.size), i.size, i.bytes)) = some (some 2, 2, 16) := by kernel_rfl
/-- append of one word, as a step of a region that draws -/
theorem step_appendC {w : World} {ops : Array Oper} {o : Oper} {a : Act} {K : Act → World → Prop} {Q : Exit → Act → World → Prop} {E : Prop} (s x : Operand) (hgd : o.guard = none)
    (ho : o.op = .call { callee := .builtin .append, args := #[s, x], argTypes := #[83, 83] })
    (v : Value) (c l : Nat → Nat) (n : Nat) (hs : a.eval s = v) (hown : OwnC w v c l n) (g : Nat) (hx : a.eval x = .slice (some ⟨g, 0, none⟩) 1 1) (hsrc : Blk w g #[.int .u32 (c n), .int .i64 (l n)] 106) (hlen : n ≤ 100000)
    (h : ∀ v' w', OwnC w' v' c l (n + 1) → Keep v.ownBlock.toList w w' → (∀ b, v'.ownBlock = some b → v.ownBlock = some b ∨ b = w.heap.size) → K (a.put o.dst v') w') :
    if Region.wanted o (yielded ops a.tmps) = true then Oper.wp Tryz.prog o a w K Q else E := by
  have hw : Region.wanted o (yielded ops a.tmps) = true := by simp [Region.wanted, hgd]
  rw [if_pos hw]
  obtain ⟨i0, hi, hzz⟩ := Option.map_eq_some_iff.1 infoC
  simp only [Prod.mk.injEq] at hzz
  obtain ⟨hz, hz1, hz2⟩ := hzz
  obtain ⟨z, hz, hzc⟩ := Option.map_eq_some_iff.1 hz
  have hS : Src w 2 (.slice (some ⟨g, 0, none⟩) 1 1) 1 [.int .u32 (c n), .int .i64 (l n)] := by
    refine ⟨rfl, by simp [Value.oneCell'], .inr ⟨⟨g, 0, none⟩, 1, rfl, fun j u hu => ?_⟩⟩
    have e : ∀ m, ((⟨g, 0, none⟩ : Addr).add m) = ⟨g, m, none⟩ := fun m => by cases m <;> simp [Addr.add]
    rw [e]
    exact hsrc.cell j u (by simpa using hu)
  obtain ⟨v', w', hr, h2, h3, h4, h5⟩ := run_append_any (P := Tryz.prog) w 83 o.type 106 i0 z 2 16 Tryz.underlying83 hi hz hz1 hz2 hzc (by decide) v n (cells2 c l n) hown (.slice (some ⟨g, 0, none⟩) 1 1) 1 [.int .u32 (c n), .int .i64 (l n)] hS (by unfold maxLen; omega) (by omega)
  unfold Oper.wp execOp
  simp only [ho, resolve, invoke, builtin, Sem.run_bind, Sem.run_pure, Result.andThen_ok, List.map_toArray, List.map_cons, List.map_nil, hs, hx, hr]
  exact h v' w' (by unfold OwnC; rw [cells2_succ]; exact h2) ((Keep.refl _ _).grown h3 (fun k hk => .inl (by simp [hk]))) h4
end Go.Proofs.YtokfcgloogdeiaaGreatDoor
namespace Go.Proofs.YtokfcgloogdeiaaGreatDoor
set_option linter.unusedVariables false
set_option linter.unusedSimpArgs false
set_option maxRecDepth 100000
open Go.ChangeShapes Go.WideShapes Go.ChangeAt Go.RowKit

/-- a token: a byte, a distance, a length -/
structure Tk where
  lit : UInt8
  dist : Int
  len : Int
deriving DecidableEq
instance : Inhabited Tk := ⟨⟨0, 0, 0⟩⟩
def Tk.cells (t : Tk) : List Value := [.int .u8 t.lit.toNat, .int .i64 t.dist, .int .i64 t.len]
def Tk.wf (t : Tk) : Prop := (Lit.int .i64 t.dist).wf = true ∧ (Lit.int .i64 t.len).wf = true
instance (t : Tk) : Decidable t.wf := by unfold Tk.wf; infer_instance
def tcells (ts : List Tk) : List Value := ts.flatMap Tk.cells
theorem tcells_append (a b : List Tk) : tcells (a ++ b) = tcells a ++ tcells b := by simp [tcells]
theorem tcells_len (ts : List Tk) : (tcells ts).length = ts.length * 3 := by
  induction ts with
  | nil => rfl
  | cons t ts ih =>
    have : tcells (t :: ts) = t.cells ++ tcells ts := rfl
    rw [this, List.length_append, ih, List.length_cons]
    show 3 + _ = _
    omega
theorem tcells_get (ts : List Tk) (i : Nat) (h : i < ts.length) : (tcells ts)[i * 3]? = some (.int .u8 (ts[i]).lit.toNat) ∧ (tcells ts)[i * 3 + 1]? = some (.int .i64 (ts[i]).dist) ∧ (tcells ts)[i * 3 + 2]? = some (.int .i64 (ts[i]).len) := by
  induction ts generalizing i with
  | nil => simp at h
  | cons t ts ih =>
    have e : tcells (t :: ts) = t.cells ++ tcells ts := rfl
    have hl : t.cells.length = 3 := rfl
    cases i with
    | zero => rw [e]; exact ⟨rfl, rfl, rfl⟩
    | succ i =>
      have := ih i (by simpa using h)
      rw [e, List.getElem?_append_right (by omega), List.getElem?_append_right (by omega), List.getElem?_append_right (by omega), hl]
      rw [show (i + 1) * 3 - 3 = i * 3 by omega, show (i + 1) * 3 + 1 - 3 = i * 3 + 1 by omega, show (i + 1) * 3 + 2 - 3 = i * 3 + 2 by omega]
      simpa using this
/-- v is a slice of the tokens ts -/
def Ts (w : World) (v : Value) (ts : List Tk) : Prop :=
  ∃ a cap, v = .slice a ts.length cap ∧ ts.length ≤ cap ∧ cap ≤ maxLen ∧ (a = none → cap = 0) ∧ (∀ x, a = some x → ∀ j, j < ts.length * 3 → w.cell? (x.add j) = (tcells ts)[j]?) ∧ ∀ t ∈ ts, t.wf
theorem Ts.keep {w w' : World} {v : Value} {ts : List Tk} {S : List Nat} (h : Ts w v ts) (k : Keep S w w') (hb : ∀ b, v.ownBlock = some b → b ∉ S) : Ts w' v ts := by
  obtain ⟨a, cap, rfl, h1, h2, h3, h4, h5⟩ := h
  refine ⟨a, cap, rfl, h1, h2, h3, fun x hx j hj => ?_, h5⟩
  have hs := h4 x hx j hj
  obtain ⟨u, hu⟩ : ∃ u, (tcells ts)[j]? = some u := ⟨_, List.getElem?_eq_getElem (by rw [tcells_len]; exact hj)⟩
  rw [hu] at hs ⊢
  refine k.cell hs ?_
  subst hx
  have : (x.add j).block = x.block := by unfold Addr.add; split <;> rfl
  rw [this]; exact hb _ rfl
theorem Ts.drewN {w : World} {v : Value} {ts : List Tk} (h : Ts w v ts) (n : Nat) : Ts (w.drewN n) v ts := h.keep ((Keep.refl [] w).drewN _) (by simp)
theorem Ts.sh {w : World} {v : Value} {ts : List Tk} (h : Ts w v ts) : ∃ a cap, v = .slice a ts.length cap ∧ ts.length ≤ 9223372036854775807 := by
  obtain ⟨a, cap, rfl, h1, h2, _⟩ := h
  unfold maxLen at h2
  exact ⟨a, cap, rfl, by omega⟩
theorem Ts.at {w : World} {v : Value} {ts : List Tk} (h : Ts w v ts) (i : Nat) (hi : i < ts.length) : ∃ b off cap, v = .slice (some ⟨b, off, none⟩) ts.length cap ∧ w.cell? ⟨b, off + i * 3, none⟩ = some (.int .u8 (ts[i]).lit.toNat) ∧ w.cell? ⟨b, off + i * 3 + 1, none⟩ = some (.int .i64 (ts[i]).dist) ∧ w.cell? ⟨b, off + i * 3 + 2, none⟩ = some (.int .i64 (ts[i]).len) := by
  obtain ⟨a, cap, rfl, h1, h2, h3, h4, h5⟩ := h
  cases a with
  | none => have := h3 rfl; omega
  | some x =>
    obtain ⟨b, off, spot⟩ := x
    obtain ⟨g1, g2, g3⟩ := tcells_get ts i hi
    have c1 := h4 _ rfl (i * 3) (by omega)
    have c2 := h4 _ rfl (i * 3 + 1) (by omega)
    have c3 := h4 _ rfl (i * 3 + 2) (by omega)
    rw [g1] at c1; rw [g2] at c2; rw [g3] at c3
    have hspot : spot = none := by
      have c0 := h4 _ rfl 0 (by omega)
      have g0 := (tcells_get ts 0 (by omega)).1
      rw [Nat.zero_mul] at g0
      rw [g0] at c0
      simpa [Addr.add] using World.cell?_spot c0
    subst hspot
    have e : ∀ m, (⟨b, off, none⟩ : Addr).add m = ⟨b, off + m, none⟩ := fun m => by cases m <;> simp [Addr.add]
    rw [e] at c1 c2 c3
    exact ⟨b, off, cap, rfl, c1, by rw [Nat.add_assoc]; exact c2, by rw [Nat.add_assoc]; exact c3⟩
theorem Ts.wf {w : World} {v : Value} {ts : List Tk} (h : Ts w v ts) : ∀ t ∈ ts, t.wf := by
  obtain ⟨_, _, _, _, _, _, _, h5⟩ := h; exact h5
/-- v is a slice of tokens of the call's own -/
def OwnT (w : World) (v : Value) (ts : List Tk) : Prop := w.ownsRow 0 45 3 v ts.length (tcells ts) ∧ ∀ t ∈ ts, t.wf
theorem OwnT.nil (w : World) : OwnT w (.slice none 0 0) [] := ⟨World.ownsRow_nil w 0 _ 3, by simp⟩
theorem OwnT.keep {w w' : World} {v : Value} {ts : List Tk} {S : List Nat} (h : OwnT w v ts) (k : Keep S w w') (hb : ∀ b, v.ownBlock = some b → b ∉ S) : OwnT w' v ts := by
  refine ⟨⟨h.1.1, ?_⟩, h.2⟩
  rcases h.1.2 with h2 | ⟨g, cap, cur, rfl, hb0, hh, r⟩
  · exact .inl h2
  · exact .inr ⟨g, cap, cur, rfl, hb0, (k.block g (lt_of_block hh) (hb g rfl)).trans hh, r⟩
theorem OwnT.lt {w : World} {v : Value} {ts : List Tk} (h : OwnT w v ts) : ∀ b, v.ownBlock = some b → b < w.heap.size := fun b hb => (World.ownsRow.lt h.1 b hb).2
theorem OwnT.ts {w : World} {v : Value} {ts : List Tk} (h : OwnT w v ts) : Ts w v ts := by
  obtain ⟨h, hz⟩ := h
  rcases h.2 with ⟨rfl, hn⟩ | ⟨g, cap, cur, rfl, _, hh, hc, hm, hs, ht⟩
  · obtain rfl : ts = [] := List.eq_nil_of_length_eq_zero hn
    exact ⟨none, 0, rfl, by simp, by simp, fun _ => rfl, (fun x hx => nomatch hx), by simp⟩
  · refine ⟨some ⟨g, 0, none⟩, cap, rfl, hc, hm, (fun h => nomatch h), fun x hx j hj => ?_, hz⟩
    obtain rfl : (⟨g, 0, none⟩ : Addr) = x := by simpa using hx
    have e : (⟨g, 0, none⟩ : Addr).add j = ⟨g, j, none⟩ := by cases j <;> simp [Addr.add]
    rw [e, cell_of_row w g j cur _ (0, 0) hh, ← ht, List.getElem?_take, if_pos (by omega)]
    simp
theorem OwnT.blk {w : World} {v : Value} {ts : List Tk} (h : OwnT w v ts) (hn : v ≠ .slice none 0 0) : ∃ g c, v = .slice (some ⟨g, 0, none⟩) ts.length c := by
  rcases h.1.2 with ⟨h', _⟩ | ⟨g', cap', cur, h', _⟩
  · exact absurd h' hn
  · exact ⟨g', cap', h'⟩
theorem OwnT.free {w : World} {g n cap : Nat} {ts : List Tk} (h : OwnT w (.slice (some ⟨g, 0, none⟩) n cap) ts) (j : Nat) : w.frozen? ⟨g, j, none⟩ = false := by
  have hn : n = ts.length := by
    obtain ⟨_, _, e, _⟩ := h.ts
    simp only [Value.slice.injEq] at e; exact e.2.1
  subst hn
  exact h.1.frozenAt j
theorem tcells_set (ts : List Tk) (i : Nat) (h : i < ts.length) (n : Int) : tcells (ts.set i { ts[i] with len := n }) = (tcells ts).set (i * 3 + 2) (.int .i64 n) := by
  induction ts generalizing i with
  | nil => simp at h
  | cons t ts ih =>
    cases i with
    | zero => rfl
    | succ i =>
      have e1 : tcells (t :: ts) = t.cells ++ tcells ts := rfl
      have hl : t.cells.length = 3 := rfl
      rw [e1, List.set_append_right _ _ (by omega), hl, show (i + 1) * 3 + 2 - 3 = i * 3 + 2 by omega, ← ih i (by simpa using h)]
      rfl
/-- another length for a token -/
theorem OwnT.setLen {w : World} {g n cap : Nat} {ts : List Tk} (h : OwnT w (.slice (some ⟨g, 0, none⟩) n cap) ts) (i : Nat) (hi : i < ts.length) (x : Int) (hx : (Lit.int .i64 x).wf = true) : OwnT (w.setCell ⟨g, i * 3 + 2, none⟩ (.int .i64 x)) (.slice (some ⟨g, 0, none⟩) n cap) (ts.set i { ts[i] with len := x }) := by
  have hn : n = ts.length := by
    obtain ⟨_, _, e, _⟩ := h.ts
    simp only [Value.slice.injEq] at e; exact e.2.1
  subst hn
  refine ⟨?_, fun t ht => ?_⟩
  · rw [List.length_set, tcells_set ts i hi x]
    exact (h.1.stored (i * 3 + 2) (.int .i64 x)).1
  · rcases List.mem_or_eq_of_mem_set ht with h1 | h1
    · exact h.2 t h1
    · subst h1; exact ⟨(h.2 _ (List.getElem_mem hi)).1, hx⟩
theorem infoT : (Tryz.prog.info? 45).map (fun i => (i.zero.map (·.cells.size), i.size, i.bytes)) = some (some 3, 3, 24) := by kernel_rfl
/-- append of tokens -/
theorem wpList_appendT {w : World} {ops : Array Oper} {rest : List Oper} {o : Oper} {a : Act} {Q : Exit → Act → World → Prop} (s x : Operand) (hgd : o.guard = none)
    (ho : o.op = .call { callee := .builtin .append, args := #[s, x], argTypes := #[37, 37] })
    (v : Value) (ts : List Tk) (hs : a.eval s = v) (hown : OwnT w v ts) (g : Nat) (t : Tk) (hx : a.eval x = .slice (some ⟨g, 0, none⟩) 1 1) (hsrc : Blk w g t.cells.toArray 45) (hwf : t.wf) (hlen : ts.length ≤ 1000000)
    (h : ∀ v' w', OwnT w' v' (ts ++ [t]) → Keep v.ownBlock.toList w w' → (∀ b, v'.ownBlock = some b → v.ownBlock = some b ∨ b = w.heap.size) → v' ≠ .slice none 0 0 → wpList Tryz.prog ops Q rest (a.put o.dst v') w') : wpList Tryz.prog ops Q (o :: rest) a w := by
  obtain ⟨i0, hi, hzz⟩ := Option.map_eq_some_iff.1 infoT
  simp only [Prod.mk.injEq] at hzz
  obtain ⟨hz, hz1, hz2⟩ := hzz
  obtain ⟨z, hz, hzc⟩ := Option.map_eq_some_iff.1 hz
  have hS : Src w 3 (.slice (some ⟨g, 0, none⟩) 1 1) 1 t.cells := by
    refine ⟨rfl, by simp [Tk.cells, Value.oneCell'], .inr ⟨⟨g, 0, none⟩, 1, rfl, fun j u hu => ?_⟩⟩
    have e : ∀ m, ((⟨g, 0, none⟩ : Addr).add m) = ⟨g, m, none⟩ := fun m => by cases m <;> simp [Addr.add]
    rw [e]
    exact hsrc.cell j u (by simpa using hu)
  refine wpList_append_any hgd s x 37 ho 45 i0 z 3 24 Tryz.underlying37 hi hz hz1 hz2 hzc (by decide) v ts.length (tcells ts) hs hown.1 _ 1 t.cells hx hS (by unfold maxLen; omega) (by omega) ?_
  intro v' w' h1 h2 h3 h4
  have hO : OwnT w' v' (ts ++ [t]) := by
    refine ⟨by rw [List.length_append, tcells_append, show tcells [t] = t.cells from by simp [tcells]]; exact h1, fun y hy => ?_⟩
    rcases List.mem_append.1 hy with h5 | h5
    · exact hown.2 y h5
    · obtain rfl : y = t := by simpa using h5
      exact hwf
  refine h v' w' hO h2 h3 (fun e => ?_)
  obtain ⟨a', cap, e2, _⟩ := hO.ts.sh
  rw [e2] at e
  simp only [Value.slice.injEq] at e
  have := e.2.1
  simp at this
section
variable {H : Type} {enc : TypeId × Value → H} {W : World} {base base0 : Nat} {spare : Nat → Bool} {held : Bool} {v : Value} {d : DataW H} {p : List MemPlace}
theorem open_tks (hv : Value.okWide Tryz.prog W .any base0 37 v) (h : DataW.Trod enc Tryz.prog W base spare held 37 v d p) : ∃ ts, Ts W v ts := by
  obtain ⟨n, C, ⟨a, cap, rfl, h1, h2, h3, h4⟩, hf⟩ := open_sts Tryz.underlying37 Tryz.underlying45 (by kernel_rfl) (by kernel_rfl) hv h
  have key : ∀ i, ∃ t : Tk, i < n → t.wf ∧ C i 0 = .int .u8 t.lit.toNat ∧ C i 1 = .int .i64 t.dist ∧ C i 2 = .int .i64 t.len := fun i => by
    by_cases hi : i < n
    · obtain ⟨_, _, f0⟩ := hf i hi 0 _ rfl
      obtain ⟨_, _, f1⟩ := hf i hi 1 _ rfl
      obtain ⟨_, _, f2⟩ := hf i hi 2 _ rfl
      obtain ⟨z0, e0, w0⟩ := int_of_trod Tryz.underlying5 f0
      obtain ⟨z1, e1, w1⟩ := int_of_trod Tryz.underlying3 f1
      obtain ⟨z2, e2, w2⟩ := int_of_trod Tryz.underlying3 f2
      exact ⟨⟨UInt8.ofNat z0.toNat, z1, z2⟩, fun _ => ⟨⟨w1, w2⟩, by rw [e0, u8_of_wf w0], e1, e2⟩⟩
    · exact ⟨default, fun h => absurd h hi⟩
  obtain ⟨f, hF⟩ : ∃ f : Nat → Tk, ∀ i, i < n → (f i).wf ∧ C i 0 = .int .u8 (f i).lit.toNat ∧ C i 1 = .int .i64 (f i).dist ∧ C i 2 = .int .i64 (f i).len := ⟨fun i => Classical.choose (key i), fun i => Classical.choose_spec (key i)⟩
  refine ⟨(List.range n).map f, a, cap, by simp, by simpa using h1, h2, h3, fun x hx j hj => ?_, fun t ht => ?_⟩
  · have hj' : j < n * 3 := by simpa using hj
    obtain ⟨i, m, hi, hm, rfl⟩ : ∃ i m, i < n ∧ m < 3 ∧ j = i * 3 + m := ⟨j / 3, j % 3, by omega, by omega, by omega⟩
    have hil : i < ((List.range n).map f).length := by simpa using hi
    obtain ⟨g1, g2, g3⟩ := tcells_get _ i hil
    obtain ⟨_, s1, s2, s3⟩ := hF i hi
    simp only [List.getElem_map, List.getElem_range] at g1 g2 g3
    have hc := h4 x hx i hi m hm
    change W.cell? (x.add (i * 3 + m)) = _ at hc
    rw [hc]
    obtain rfl | rfl | rfl : m = 0 ∨ m = 1 ∨ m = 2 := by omega
    · rw [Nat.add_zero, g1, s1]
    · rw [g2, s2]
    · rw [g3, s3]
  · simp only [List.mem_map, List.mem_range] at ht
    obtain ⟨i, hi, rfl⟩ := ht
    exact (hF i hi).1
end
end Go.Proofs.YtokfcgloogdeiaaGreatDoor
namespace Go.Proofs.YtokfcgloogdeiaaGreatDoor
set_option linter.unusedVariables false
set_option linter.unusedSimpArgs false

/-- one token told -/
def HS.tk (s : HS) (t : Tk) : Nat × HS := if t.len = 0 then s.lit t.lit else s.copy t.dist t.len
/-- tokens told, one by one, up to the first error -/
def tellT : HS → List Tk → Nat × HS
  | s, [] => (0, s)
  | s, t :: ts => if (s.tk t).1 = 0 then tellT (s.tk t).2 ts else s.tk t
theorem tellT_append (s : HS) (a b : List Tk) : tellT s (a ++ b) = if (tellT s a).1 = 0 then tellT (tellT s a).2 b else tellT s a := by
  induction a generalizing s with
  | nil => simp [tellT]
  | cons t a ih =>
    rw [List.cons_append, tellT, tellT]
    by_cases h : (s.tk t).1 = 0
    · rw [if_pos h, if_pos h, ih]
    · rw [if_neg h, if_neg h, if_neg h]
/-- which windows may not be -/
def winBad (win most : Int) : Prop := win < 1 ∨ 65536 < win ∨ most < 0
instance (win most : Int) : Decidable (winBad win most) := by unfold winBad; infer_instance
/-- the error, and the bytes -/
def expT (ts : List Tk) (win most : Int) (nou : Bool) : Nat × List UInt8 :=
  if winBad win most then (2, []) else if (tellT ⟨win.toNat, most.toNat, nou, []⟩ ts).1 = 0 then (0, (tellT ⟨win.toNat, most.toNat, nou, []⟩ ts).2.b) else ((tellT ⟨win.toNat, most.toNat, nou, []⟩ ts).1, [])
def sz1 (t : Tk) : Nat := if t.len = 0 then 1 else t.len.toNat
def sumT (ts : List Tk) : Nat := (ts.map sz1).sum
def sizeT (ts : List Tk) : Nat := min 4611686018427387904 (sumT ts)
theorem sumT_append (a b : List Tk) : sumT (a ++ b) = sumT a + sumT b := by simp [sumT]
theorem HS.tk_ok {s : HS} {t : Tk} (h : (s.tk t).1 = 0) : (s.tk t).2.b.length = s.b.length + sz1 t ∧ (s.tk t).2.win = s.win ∧ (s.tk t).2.most = s.most ∧ (s.tk t).2.nou = s.nou := by
  unfold HS.tk sz1 at *
  by_cases h0 : t.len = 0
  · rw [if_pos h0] at h ⊢
    rw [if_pos h0]
    unfold HS.lit at *
    by_cases h1 : s.most ≤ s.b.length
    · rw [if_pos h1] at h; simp at h
    · rw [if_neg h1]; simp
  · rw [if_neg h0] at h ⊢
    rw [if_neg h0]
    unfold HS.copy at *
    by_cases h1 : t.dist < 1 ∨ t.len < 0
    · rw [if_pos h1] at h; simp at h
    rw [if_neg h1] at h ⊢
    by_cases h2 : (s.win : Int) < t.dist ∨ ((s.b.length : Int) < t.dist ∧ s.nou = false)
    · rw [if_pos h2] at h; simp at h
    rw [if_neg h2] at h ⊢
    by_cases h3 : (s.most : Int) - s.b.length < t.len
    · rw [if_pos h3] at h; simp at h
    rw [if_neg h3]
    exact ⟨cpy_len _ _ _, rfl, rfl, rfl⟩
theorem tellT_size {s : HS} {ts : List Tk} (h : (tellT s ts).1 = 0) : (tellT s ts).2.b.length = s.b.length + sumT ts := by
  induction ts generalizing s with
  | nil => simp [tellT, sumT]
  | cons t ts ih =>
    rw [tellT] at h ⊢
    by_cases h1 : (s.tk t).1 = 0
    · rw [if_pos h1] at h ⊢
      rw [ih h, (HS.tk_ok h1).1]
      simp [sumT]; omega
    · rw [if_neg h1] at h; exact absurd h h1
/-- with less room: the same, or it is no room -/
theorem HS.tk_less {s : HS} {t : Tk} (h : (s.tk t).1 = 0) (m : Nat) (hm : s.b.length ≤ m) :
    (s.b.length + sz1 t ≤ m → ({ s with most := m } : HS).tk t = (0, { (s.tk t).2 with most := m })) ∧ (m < s.b.length + sz1 t → (({ s with most := m } : HS).tk t).1 = 9) := by
  unfold HS.tk sz1 at *
  by_cases h0 : t.len = 0
  · rw [if_pos h0] at h ⊢
    rw [if_pos h0, if_pos h0]
    unfold HS.lit at *
    by_cases h1 : s.most ≤ s.b.length
    · rw [if_pos h1] at h; simp at h
    · rw [if_neg h1]
      refine ⟨fun h2 => ?_, fun h2 => ?_⟩
      · rw [if_neg (by dsimp only; omega)]
      · rw [if_pos (by dsimp only; omega)]
  · rw [if_neg h0] at h ⊢
    rw [if_neg h0, if_neg h0]
    unfold HS.copy at *
    by_cases h1 : t.dist < 1 ∨ t.len < 0
    · rw [if_pos h1] at h; simp at h
    rw [if_neg h1] at h ⊢
    by_cases h2 : (s.win : Int) < t.dist ∨ ((s.b.length : Int) < t.dist ∧ s.nou = false)
    · rw [if_pos h2] at h; simp at h
    rw [if_neg h2] at h ⊢
    by_cases h3 : (s.most : Int) - s.b.length < t.len
    · rw [if_pos h3] at h; simp at h
    rw [if_neg h3]
    refine ⟨fun h4 => ?_, fun h4 => ?_⟩
    · rw [if_neg h1, if_neg h2, if_neg (by dsimp only; omega)]
    · first | rw [if_neg h1, if_neg h2, if_pos (by dsimp only; omega)] | rw [if_pos (by dsimp only; omega)]
theorem tellT_less {s : HS} {ts : List Tk} (h : (tellT s ts).1 = 0) (m : Nat) (hm : s.b.length ≤ m) (hlt : m < s.b.length + sumT ts) : (tellT { s with most := m } ts).1 = 9 := by
  induction ts generalizing s with
  | nil => simp [sumT] at hlt; omega
  | cons t ts ih =>
    rw [tellT] at h ⊢
    by_cases h1 : (s.tk t).1 = 0
    · rw [if_pos h1] at h
      obtain ⟨g1, g2⟩ := HS.tk_less h1 m hm
      have hs : sumT (t :: ts) = sz1 t + sumT ts := by simp [sumT]
      by_cases h2 : s.b.length + sz1 t ≤ m
      · rw [g1 h2, if_pos rfl]
        have hk := (HS.tk_ok h1).1
        exact ih h (by omega) (by omega)
      · have h9 := g2 (by omega)
        rw [if_neg (by omega)]; exact h9
    · rw [if_neg h1] at h; exact absurd h h1
/-- the tokens that the first k bytes' runs are -/
def rn (b : List UInt8) : Nat → List Tk
  | 0 => []
  | k + 1 => if k = 0 ∨ b.getD k 0 ≠ b.getD (k - 1) 0 then rn b k ++ [⟨b.getD k 0, 0, 0⟩]
    else if ((rn b k).getLast?.getD default).len = 0 ∨ ((rn b k).getLast?.getD default).len = 258 then rn b k ++ [⟨0, 1, 1⟩]
    else (rn b k).set ((rn b k).length - 1) { (rn b k).getLast?.getD default with len := ((rn b k).getLast?.getD default).len + 1 }
def runs (b : List UInt8) : List Tk := rn b b.length
theorem set_last (l : List Tk) (t x : Tk) : (l ++ [t]).set ((l ++ [t]).length - 1) x = l ++ [x] := by
  rw [List.length_append, List.set_append_right _ _ (by simp)]; simp
theorem take_snoc (b : List UInt8) (k : Nat) (hk : k < b.length) : b.take (k + 1) = b.take k ++ [b.getD k 0] := by
  rw [List.take_succ_eq_append_getElem hk]; simp [hk]
/-- what is known of the runs of the first k bytes -/
structure Rn (b : List UInt8) (k : Nat) : Prop where
  tell : ∀ n, k ≤ n → tellT ⟨1, n, false, []⟩ (rn b k) = (0, ⟨1, n, false, b.take k⟩)
  sum : sumT (rn b k) = k
  len : (rn b k).length ≤ k
  last : k = 0 ∨ ∃ l t, rn b k = l ++ [t] ∧ (t.len = 0 ∨ (t.dist = 1 ∧ 1 ≤ t.len ∧ t.len ≤ 258))
theorem rn_all (b : List UInt8) (k : Nat) (hk : k ≤ b.length) : Rn b k := by
  induction k with
  | zero => exact ⟨fun n _ => by simp [rn, tellT], rfl, Nat.le_refl _, .inl rfl⟩
  | succ k ih =>
    have h := ih (by omega)
    have hts := take_snoc b k (by omega)
    have hlk : (b.take k).length = k := by rw [List.length_take]; omega
    by_cases h1 : k = 0 ∨ b.getD k 0 ≠ b.getD (k - 1) 0
    · have e : rn b (k + 1) = rn b k ++ [⟨b.getD k 0, 0, 0⟩] := by rw [rn, if_pos h1]
      refine ⟨fun n hn => ?_, ?_, ?_, .inr ⟨rn b k, _, e, .inl rfl⟩⟩
      · rw [e, tellT_append, h.tell n (by omega)]
        simp only [if_true]
        rw [tellT]
        have : (⟨1, n, false, b.take k⟩ : HS).tk ⟨b.getD k 0, 0, 0⟩ = (0, ⟨1, n, false, b.take (k + 1)⟩) := by
          unfold HS.tk HS.lit
          rw [if_pos rfl, if_neg (by simp only [hlk]; omega), hts]
        rw [this]; simp [tellT]
      · rw [e, sumT_append, h.sum]; rfl
      · rw [e, List.length_append]; have := h.len; simp; omega
    · have hk0 : k ≠ 0 := fun e => h1 (.inl e)
      have hbe : b.getD k 0 = b.getD (k - 1) 0 := Decidable.byContradiction fun e => h1 (.inr e)
      obtain ⟨l, t, hlt, ht⟩ : ∃ l t, rn b k = l ++ [t] ∧ (t.len = 0 ∨ (t.dist = 1 ∧ 1 ≤ t.len ∧ t.len ≤ 258)) := by
        rcases h.last with h2 | h2
        · exact absurd h2 hk0
        · exact h2
      have hlast : (rn b k).getLast?.getD default = t := by rw [hlt]; simp
      have hback : back1 (b.take k) 1 = b.getD k 0 := by
        unfold back1
        rw [if_pos (by omega), hlk, hbe]
        simp only [List.getD_eq_getElem?_getD]
        rw [List.getElem?_take_of_lt (by omega)]
      by_cases h2 : t.len = 0 ∨ t.len = 258
      · have e : rn b (k + 1) = rn b k ++ [⟨0, 1, 1⟩] := by rw [rn, if_neg h1, hlast, if_pos h2]
        refine ⟨fun n hn => ?_, ?_, ?_, .inr ⟨rn b k, _, e, .inr ⟨rfl, by decide, by decide⟩⟩⟩
        · rw [e, tellT_append, h.tell n (by omega)]
          simp only [if_true]
          rw [tellT]
          have : (⟨1, n, false, b.take k⟩ : HS).tk ⟨0, 1, 1⟩ = (0, ⟨1, n, false, b.take (k + 1)⟩) := by
            unfold HS.tk HS.copy
            rw [if_neg (by decide), if_neg (by decide), if_neg (by simp only [hlk]; omega), if_neg (by simp only [hlk]; omega)]
            show (0, (⟨1, n, false, cpy (b.take k) 1 1⟩ : HS)) = _
            rw [cpy, cpy, hback, hts]
          rw [this]; simp [tellT]
        · rw [e, sumT_append, h.sum]; rfl
        · rw [e, List.length_append]; have := h.len; simp; omega
      · have ht2 : t.dist = 1 ∧ 1 ≤ t.len ∧ t.len ≤ 258 := by
          rcases ht with h3 | h3
          · exact absurd (.inl h3) h2
          · exact h3
        have e : rn b (k + 1) = l ++ [{ t with len := t.len + 1 }] := by rw [rn, if_neg h1, hlast, if_neg h2, hlt, set_last]
        refine ⟨fun n hn => ?_, ?_, ?_, .inr ⟨l, _, e, .inr ⟨ht2.1, by show 1 ≤ t.len + 1; omega, by show t.len + 1 ≤ 258; omega⟩⟩⟩
        · have hT := h.tell n (by omega)
          rw [hlt, tellT_append] at hT
          rw [e, tellT_append]
          by_cases h4 : (tellT ⟨1, n, false, []⟩ l).1 = 0
          · rw [if_pos h4] at hT ⊢
            have hz := tellT_size h4
            generalize (tellT ⟨1, n, false, []⟩ l).2 = s1 at hT hz ⊢
            rw [tellT] at hT ⊢
            by_cases h5 : (s1.tk t).1 = 0
            · rw [if_pos h5] at hT
              simp only [tellT, Prod.mk.injEq, true_and] at hT
              have hk5 := HS.tk_ok h5
              rw [hT] at hk5
              obtain ⟨q1, q2, q3, q4⟩ := hk5
              have hs1 : sz1 t = t.len.toNat := by unfold sz1; rw [if_neg (by omega)]
              simp only [hlk] at q1
              have hcp : cpy s1.b 1 t.len.toNat = b.take k := by
                have h6 := hT
                unfold HS.tk HS.copy at h6
                rw [if_neg (by omega), ht2.1] at h6
                unfold HS.tk HS.copy at h5
                rw [if_neg (by omega), ht2.1] at h5
                by_cases g1 : (1 : Int) < 1 ∨ t.len < 0
                · omega
                rw [if_neg g1] at h5 h6
                by_cases g2 : (s1.win : Int) < 1 ∨ ((s1.b.length : Int) < 1 ∧ s1.nou = false)
                · rw [if_pos g2] at h5; simp at h5
                rw [if_neg g2] at h5 h6
                by_cases g3 : (s1.most : Int) - s1.b.length < t.len
                · rw [if_pos g3] at h5; simp at h5
                rw [if_neg g3] at h6
                exact congrArg HS.b h6
              have hnd : ¬ ((s1.b.length : Int) < 1 ∧ s1.nou = false) := by
                intro g
                unfold HS.tk HS.copy at h5
                rw [if_neg (by omega), ht2.1, if_neg (by omega), if_pos (.inr g)] at h5
                simp at h5
              have hfin : s1.tk { t with len := t.len + 1 } = (0, ⟨1, n, false, b.take (k + 1)⟩) := by
                unfold HS.tk HS.copy
                show (if t.len + 1 = 0 then _ else if t.dist < 1 ∨ t.len + 1 < 0 then _ else if (s1.win : Int) < t.dist ∨ _ then _ else if (s1.most : Int) - s1.b.length < t.len + 1 then _ else (0, { s1 with b := cpy s1.b t.dist.toNat (t.len + 1).toNat })) = _
                rw [if_neg (by omega), ht2.1, if_neg (by omega), if_neg (by
                  intro g
                  rcases g with g | g
                  · rw [← q2] at g; simp at g
                  · exact hnd g), if_neg (by rw [← q3]; simp only; omega)]
                rw [show (t.len + 1).toNat = t.len.toNat + 1 by omega, show (1 : Int).toNat = 1 from rfl, cpy, hcp, hback, ← hts]
                cases s1
                simp only at q2 q3 q4
                subst q2 q3 q4
                rfl
              rw [hfin]; simp [tellT]
            · rw [if_neg h5] at hT
              rw [hT] at h5; simp at h5
          · rw [if_neg h4] at hT
            rw [hT] at h4; simp at h4
        · have h5 := h.sum
          rw [hlt, sumT_append] at h5
          rw [e, sumT_append]
          have e1 : sumT [t] = t.len.toNat := by simp [sumT, sz1]; omega
          have e2 : sumT [{ t with len := t.len + 1 }] = (t.len + 1).toNat := by simp [sumT, sz1]; omega
          rw [e1] at h5; rw [e2]; omega
        · have h5 := h.len
          rw [hlt] at h5
          rw [e]; simp at h5 ⊢; omega
theorem runs_exp (b : List UInt8) (hb : b.length ≤ 65536000) : expT (runs b) 1 b.length false = (0, b) := by
  have h := (rn_all b b.length (Nat.le_refl _)).tell b.length (Nat.le_refl _)
  unfold expT runs
  rw [if_neg (by unfold winBad; omega)]
  show (if (tellT ⟨1, b.length, false, []⟩ (rn b b.length)).1 = 0 then _ else _) = _
  rw [if_pos (by rw [h])]
  show (0, (tellT ⟨1, b.length, false, []⟩ (rn b b.length)).2.b) = _
  rw [h, List.take_length]
theorem runs_size (b : List UInt8) (hb : b.length ≤ 65536000) : sizeT (runs b) = b.length := by
  unfold sizeT runs
  rw [(rn_all b b.length (Nat.le_refl _)).sum]; omega
end Go.Proofs.YtokfcgloogdeiaaGreatDoor
namespace Go.Proofs.YtokfcgloogdeiaaGreatDoor
set_option linter.unusedVariables false
set_option linter.unusedSimpArgs false
open Go.ChangeShapes Go.WideShapes Go.ChangeAt Go.RowKit

theorem ints64_get (l : List Int) (j : Nat) (h : j < l.length) : (ints64 l)[j]? = some (.int .i64 (zn l j)) := by simp [ints64, zn, h]
section
variable {w : World} {g n cap : Nat} {l : List Int}
theorem OwnI.sl (h : OwnI w (.slice (some ⟨g, 0, none⟩) n cap) l) : n = l.length ∧ l.length ≤ cap ∧ cap ≤ 9223372036854775807 ∧ g < w.heap.size := by
  have hn : n = l.length := by
    rcases h.1.2 with ⟨h', _⟩ | ⟨g', cap', cur, h', _⟩
    · simp at h'
    · simp only [Value.slice.injEq] at h'; exact h'.2.1
  obtain ⟨a, c, hv, h1, h2, _⟩ := h.is
  simp only [Value.slice.injEq] at hv
  obtain ⟨_, _, rfl⟩ := hv
  unfold maxLen at h2
  exact ⟨hn, h1, by omega, h.lt g rfl⟩
theorem OwnI.cell (h : OwnI w (.slice (some ⟨g, 0, none⟩) n cap) l) (j : Nat) (hj : j < l.length) : w.cell? ⟨g, j, none⟩ = some (.int .i64 (zn l j)) := by
  have hn := h.sl.1
  subst hn
  rw [h.1.cellAt j (by omega), ints64_get l j hj]
theorem OwnI.free (h : OwnI w (.slice (some ⟨g, 0, none⟩) n cap) l) (j : Nat) : w.frozen? ⟨g, j, none⟩ = false := by
  have hn := h.sl.1
  subst hn
  exact h.1.frozenAt j
theorem OwnI.store (h : OwnI w (.slice (some ⟨g, 0, none⟩) n cap) l) (j : Nat) (x : Int) (hx : (Lit.int .i64 x).wf = true) : OwnI (w.setCell ⟨g, j, none⟩ (.int .i64 x)) (.slice (some ⟨g, 0, none⟩) n cap) (l.set j x) := by
  have hn := h.sl.1
  subst hn
  refine ⟨?_, fun z hz => ?_⟩
  · have := (h.1.stored j (.int .i64 x)).1
    rw [List.length_set]
    have e : ints64 (l.set j x) = (ints64 l).set j (.int .i64 x) := by simp [ints64, List.map_set]
    rw [e]; exact this
  · rcases List.mem_or_eq_of_mem_set hz with h1 | h1
    · exact h.2 z h1
    · rw [h1]; exact hx
theorem OwnI.drewN (h : OwnI w (.slice (some ⟨g, 0, none⟩) n cap) l) (m : Nat) : OwnI (w.drewN m) (.slice (some ⟨g, 0, none⟩) n cap) l := h
theorem zn_wf (h : OwnI w (.slice (some ⟨g, 0, none⟩) n cap) l) (j : Nat) : (Lit.int .i64 (zn l j)).wf = true := by
  unfold zn
  by_cases hj : j < l.length
  · rw [List.getD_eq_getElem?_getD, List.getElem?_eq_getElem hj]; exact h.2 _ (List.getElem_mem hj)
  · rw [List.getD_eq_getElem?_getD, List.getElem?_eq_none (by omega)]; decide
/-- a row of n zeros -/
theorem OwnI.made (w : World) (n : Nat) (hn : n ≤ 9223372036854775807) : OwnI (w.alloc (.cells (madeCells #[.int .i64 0] n) 3)) (.slice (some ⟨w.heap.size, 0, none⟩) n n) (List.replicate n 0) := by
  have h := World.ownsRow_lit (base := 0) (e := 3) (size := 1) w (madeCells #[.int .i64 0] n) n (Nat.zero_le _) (by unfold maxLen; omega) (by simp [size_madeCells])
  rw [toList_madeCells_one] at h
  refine ⟨by simpa [ints64] using h, fun z hz => ?_⟩
  rw [(List.mem_replicate.1 hz).2]; decide
theorem OwnI.made0 (w : World) (c : Nat) (hc : c ≤ 9223372036854775807) : OwnI (w.alloc (.cells (madeCells #[.int .i64 0] c) 3)) (.slice (some ⟨w.heap.size, 0, none⟩) 0 c) [] :=
  ⟨World.ownsRow_made w _ c (Nat.zero_le _) (by unfold maxLen; omega) (by simp [size_madeCells]), by simp⟩
theorem run_make_intsC (w : World) (n c : Nat) (hn : n ≤ c) (hc : c ≤ 35184372088832) : (Instr.makeSlice 38 (.int .i64 (n : Int)) (.int .i64 (c : Int))).run Tryz.prog w = .ok (.slice (some ⟨w.heap.size, 0, none⟩) n c) (w.alloc (.cells (madeCells #[.int .i64 0] c) 3)) := by
  obtain ⟨i, hi, hz0, hz1, hz2⟩ := info_parts info64
  have := run_make (P := Tryz.prog) (w := w) 38 3 i (.int .i64 0) Tryz.underlying38 hi hz0 .i64 .i64 n c (by omega) (by omega) (by rw [hz2]; omega) (by omega)
  rw [this, hz1]
  simp [Value.cells]
end
theorem zn_set (l : List Int) (j : Nat) (x : Int) (k : Nat) (hj : j < l.length) : zn (l.set j x) k = if k = j then x else zn l k := by
  unfold zn
  rw [List.getD_eq_getElem?_getD, List.getD_eq_getElem?_getD, List.getElem?_set]
  by_cases h : j = k
  · subst h; simp [hj]
  · rw [if_neg h, if_neg (fun e => h e.symm)]
/-- two numbers exchanged -/
def xch (l : List Int) (i j : Nat) : List Int := (l.set i (zn l j)).set j (zn l i)
theorem xch_len (l : List Int) (i j : Nat) : (xch l i j).length = l.length := by simp [xch]
theorem xch_at (l : List Int) (i j k : Nat) (hi : i < l.length) (hj : j < l.length) : zn (xch l i j) k = if k = j then zn l i else if k = i then zn l j else zn l k := by
  unfold xch
  rw [zn_set _ _ _ _ (by simpa using hj)]
  by_cases h : k = j
  · simp [h]
  · rw [if_neg h, if_neg h, zn_set _ _ _ _ hi]
theorem xch_perm (l : List Int) (i j : Nat) (hi : i < l.length) (hj : j < l.length) : (xch l i j).Perm l := by
  have h := (Array.swap_perm (xs := l.toArray) (i := i) (j := j) (by simpa using hi) (by simpa using hj)).toList
  have e : (l.toArray.swap i j (by simpa using hi) (by simpa using hj)).toList = xch l i j := by
    simp [Array.swap_def, xch, zn, hi, hj]
  rwa [e] at h
/-- from w0 on the row of block g alone has turned; it holds the numbers of z0 in some order, now zs -/
structure SS (w0 : World) (g n cap : Nat) (z0 : List Int) (w : World) (zs : List Int) : Prop where
  own : OwnI w (.slice (some ⟨g, 0, none⟩) n cap) zs
  keep : Keep [g] w0 w
  perm : zs.Perm z0
section
variable {w0 w : World} {g n cap : Nat} {z0 zs : List Int}
theorem SS.len (h : SS w0 g n cap z0 w zs) : zs.length = n := h.own.sl.1.symm
theorem SS.drewN (h : SS w0 g n cap z0 w zs) (m : Nat) : SS w0 g n cap z0 (w.drewN m) zs := ⟨h.own, h.keep.drewN m, h.perm⟩
theorem SS.drew (h : SS w0 g n cap z0 w zs) : SS w0 g n cap z0 w.drew zs := ⟨h.own, h.keep.drew, h.perm⟩
theorem SS.cell (h : SS w0 g n cap z0 w zs) (j : Nat) (hj : j < n) : w.cell? ⟨g, j, none⟩ = some (.int .i64 (zn zs j)) := h.own.cell j (by rw [h.len]; exact hj)
theorem SS.free (h : SS w0 g n cap z0 w zs) (j : Nat) : w.frozen? ⟨g, j, none⟩ = false := h.own.free j
theorem SS.xch (h : SS w0 g n cap z0 w zs) (i j : Nat) (hi : i < n) (hj : j < n) : SS w0 g n cap z0 ((w.setCell ⟨g, i, none⟩ (.int .i64 (zn zs j))).setCell ⟨g, j, none⟩ (.int .i64 (zn zs i))) (xch zs i j) := by
  have hl := h.len
  refine ⟨(h.own.store i _ (zn_wf h.own j)).store j _ (zn_wf h.own i), (h.keep.setCell (.inl (by simp)) _).setCell (.inl (by simp)) _, (xch_perm zs i j (by omega) (by omega)).trans h.perm⟩
/-- behind the first store of an exchange the second place still holds something -/
theorem SS.c2 (h : SS w0 g n cap z0 w zs) (i j : Nat) (hj : j < n) (hij : i ≠ j) (x : Value) : (w.setCell ⟨g, i, none⟩ x).cell? ⟨g, j, none⟩ = some (.int .i64 (zn zs j)) := by
  rw [World.cell?_setCell_other _ _ _ _ (by intro e; simp only [Addr.mk.injEq] at e; omega)]
  exact h.cell j hj
end
end Go.Proofs.YtokfcgloogdeiaaGreatDoor
namespace Go.Proofs.YtokfcgloogdeiaaGreatDoor
set_option linter.unusedVariables false
set_option linter.unusedSimpArgs false
open Go.ChangeShapes Go.WideShapes Go.ChangeAt Go.RowKit

theorem under64 : Tryz.prog.underlying 38 = some (.slice (Tryz.prog.elem 38)) ∧ Tryz.prog.elem 38 = 3 := by
  have h := Tryz.underlying38
  constructor
  · simp [Program.elem, h]
  · simp [Program.elem, h]
theorem size64 (w : World) : (Go.sizeOf 3).run Tryz.prog w = .ok 1 w := by
  obtain ⟨i, hi, hz0, hz1, hz2⟩ := info_parts info64
  simp [Go.sizeOf, typeInfo, hi, hz1]
theorem addr_block' (x : Addr) (i : Nat) : (x.add i).block = x.block := by unfold Addr.add; split <;> rfl
theorem Is.cutOf {w : World} {a : Option Addr} {l : List Int} {cap : Nat} (h : Is .i64 w (.slice a l.length cap) l) (i m : Nat) (hi : i ≤ l.length) (hm : l.length ≤ m) (hmc : m ≤ cap) :
    Is .i64 w (sliced a i l.length m 1) (l.drop i) ∧ (∀ b, (sliced a i l.length m 1).ownBlock = some b → (Value.slice a l.length cap).ownBlock = some b) := by
  obtain ⟨a', cap', hv, h1, h2, h3, h4, h5⟩ := h
  simp only [Value.slice.injEq] at hv
  obtain ⟨rfl, _, rfl⟩ := hv
  have e : (l.drop i).length = l.length - i := by simp
  unfold sliced
  constructor
  · refine ⟨_, m - i, by rw [e], by rw [e]; omega, by omega, ?_, fun x hx k hk => ?_, fun z hz => h5 z (List.mem_of_mem_drop hz)⟩
    · intro hn
      split at hn
      · omega
      · have : a = none := by simpa using hn
        have := h3 this; omega
    · rw [e] at hk
      have hne : ¬ m = i := by omega
      rw [if_neg hne] at hx
      cases a with
      | none => simp at hx
      | some y =>
        obtain rfl : y.add (i * 1) = x := by simpa using hx
        rw [Go.Deep.add_add, show i * 1 + k = i + k by omega, h4 y rfl (i + k) (by omega)]
        simp
  · intro b hb
    split at hb
    · cases a with
      | none => simp [Value.ownBlock] at hb
      | some y => simpa [Value.ownBlock] using hb
    · cases a with
      | none => simp [Value.ownBlock] at hb
      | some y => simpa [Value.ownBlock, addr_block'] using hb
/-- v[x:] -/
theorem Is.from {w : World} {v : Value} {l : List Int} (h : Is .i64 w v l) (i : Nat) (x : Int) (hx : x = i) (hi : i ≤ l.length) :
    ∃ v', (∀ W, (Instr.slice 38 v (some (.int .i64 x)) none none).run Tryz.prog W = .ok v' W) ∧ Is .i64 w v' (l.drop i) ∧ ∀ b, v'.ownBlock = some b → v.ownBlock = some b := by
  subst hx
  obtain ⟨a, cap, rfl, h1, h2, _⟩ := id h
  unfold maxLen at h2
  obtain ⟨k1, k2⟩ := h.cutOf i cap hi (by omega) (Nat.le_refl _)
  exact ⟨_, fun W => by rw [run_slice_l W _ _ _ _ under64.1 .i64 _ (by omega) (by omega), under64.2, size64]; rfl, k1, k2⟩
end Go.Proofs.YtokfcgloogdeiaaGreatDoor
namespace Go.Proofs.YtokfcgloogdeiaaGreatDoor
set_option linter.unusedVariables false
set_option linter.unusedSimpArgs false
open Go.ChangeShapes Go.WideShapes Go.ChangeAt Go.RowKit

/-- at most n tokens, none longer than long -/
def fewT (ts : List Tk) (n : Nat) (long : Int) : List Tk := (ts.take n).map fun t => if long < t.len then { t with len := long } else t
theorem fewT_succ (ts : List Tk) (k : Nat) (long : Int) (hk : k < ts.length) : fewT ts (k + 1) long = fewT ts k long ++ [if long < (ts[k]).len then { ts[k] with len := long } else ts[k]] := by
  unfold fewT
  rw [List.take_succ_eq_append_getElem hk, List.map_append]; rfl
theorem fewT_len (ts : List Tk) (n : Nat) (long : Int) : (fewT ts n long).length ≤ n := by
  unfold fewT; simp; omega
set_option maxRecDepth 100000 in
set_option maxHeartbeats 2000000 in
theorem reffew8_c (w : World) (v : Value) (ts : List Tk) (n : Nat) (long : Int) (hn : n ≤ 1000) (hlw : (Lit.int .i64 long).wf = true) (h : Ts w v ts) : Calls Tryz.prog 38 #[v, .int .i64 n, .int .i64 long] w fun e w' => ∃ v', e = .returned v' ∧ OwnT w' v' (fewT ts n long) ∧ Keep [] w w' ∧ ∀ b, v'.ownBlock = some b → w.heap.size ≤ b := by
  have HI := Lib.hid (fun w' (k : Keep [] w w') i hi => (h.keep k (by simp)).at i hi)
  have HWF := Lib.hid h.wf
  obtain ⟨a, cap, rfl, hl⟩ := h.sh
  clear h
  go_enter Tryz.func38, Tryz.ntmps38
  go_wp2_with fail
  go_loopw [7, 8] (fun ov i wr => ∃ (k : Nat) (a7 : Option Addr) (n7 c7 : Nat), k ≤ ts.length ∧ k ≤ n ∧ i = .int .i64 k ∧ ov = .slice a7 n7 c7 ∧ Hid (OwnT wr (.slice a7 n7 c7) (fewT ts k long)) ∧ Hid (Keep [] w wr) ∧ Hid (∀ b, (Value.slice a7 n7 c7).ownBlock = some b → w.heap.size ≤ b)) (fun _ i _ => n - (intOf i).toNat)
  case atStart => exact ⟨0, none, 0, 0, by omega, by omega, rfl, rfl, by unfold Hid fewT; simp; exact OwnT.nil w, Keep.refl _ _, fun b hb => by simp [Value.ownBlock] at hb⟩
  case round =>
    obtain ⟨k, a7, n7, c7, hk, hkn, rfl, rfl, HO, HK, HB⟩ := hrel
    by_cases hlt : k < ts.length ∧ k < n
    · obtain ⟨hl1, hl2⟩ := hlt
      have z1 : (k : Int) < (ts.length : Int) := by omega
      have z2 : (k : Int) < (n : Int) := by omega
      obtain ⟨b, off, cap1, hv, e1, e2, e3⟩ := HI.out wr HK.out k hl1
      simp only [Value.slice.injEq] at hv
      obtain ⟨rfl, h2, rfl⟩ := hv
      clear h2
      have HFS := Lib.hid (fewT_succ ts k long hl1)
      have HW := Lib.hid (HWF.out _ (List.getElem_mem hl1))
      generalize ts[k] = t at e1 e2 e3 HFS HW
      by_cases hgt : long < t.len
      · have hgt1 : t.len > long := hgt
        rw [if_pos hgt] at HFS
        have HWT : Hid (Tk.wf { t with len := long }) := ⟨HW.out.1, hlw⟩
        have hFL := fewT_len ts k long
        have hS : ∀ A, Blk ((wr.alloc A).alloc (.cells ({ t with len := long } : Tk).cells.toArray 45)) (wr.heap.size + 1) ({ t with len := long } : Tk).cells.toArray 45 := fun A => by
          have := Blk.new (wr.alloc A) ({ t with len := long } : Tk).cells.toArray 45
          simpa using this
        have HSS := Lib.hid hS
        clear hS
        go_wp2_with (at_builtin; (refine wpList_appendT (.tmp 31) (.tmp 33) rfl rfl (.slice a7 n7 c7) (fewT ts k long) rfl (HO.out.keep (((Keep.refl [] wr).alloc _).alloc _) (by simp)) (wr.heap.size + 1) ({ t with len := long } : Tk) rfl (HSS.out _) HWT.out (by omega) ?_); (intro v8 w8 o8 k8 b8 z8); (obtain ⟨g8, c8, hv8⟩ := o8.blk z8); (subst hv8))
        have HO8 : Hid (OwnT w8 (.slice (some ⟨g8, 0, none⟩) ((fewT ts k long).length + 1) c8) (fewT ts (k + 1) long)) := by unfold Hid; rw [HFS.out]; rw [List.length_append] at o8; exact o8
        have HK8 : Hid (Keep [] w w8) := (((HK.out.alloc _).alloc _)).trans k8 (fun x hx => .inr (HB.out x (by simpa using hx)))
        have HB8 : Hid (∀ b, (Value.slice (some ⟨g8, 0, none⟩) ((fewT ts k long).length + 1) c8).ownBlock = some b → w.heap.size ≤ b) := fun b hb => by
          rcases b8 b hb with h | h
          · exact HB.out b h
          · have := HK.out.size; rw [h]; simp; omega
        clear o8 k8 b8 z8 HO HK HB HFS HSS hFL
        generalize (fewT ts k long).length + 1 = m8 at HO8 HB8 ⊢
        go_roundw
        case rel => exact ⟨k + 1, _, _, _, by omega, by omega, by go_num, rfl, HO8, HK8, HB8⟩
        case measure => simp [intOf]; omega
      · have hgt1 : ¬ t.len > long := hgt
        rw [if_neg hgt] at HFS
        have HWT := HW
        have hFL := fewT_len ts k long
        have hS : ∀ A, Blk ((wr.alloc A).alloc (.cells t.cells.toArray 45)) (wr.heap.size + 1) t.cells.toArray 45 := fun A => by
          have := Blk.new (wr.alloc A) t.cells.toArray 45
          simpa using this
        have HSS := Lib.hid hS
        clear hS
        go_wp2_with (at_builtin; (refine wpList_appendT (.tmp 31) (.tmp 33) rfl rfl (.slice a7 n7 c7) (fewT ts k long) rfl (HO.out.keep (((Keep.refl [] wr).alloc _).alloc _) (by simp)) (wr.heap.size + 1) t rfl (HSS.out _) HWT.out (by omega) ?_); (intro v8 w8 o8 k8 b8 z8); (obtain ⟨g8, c8, hv8⟩ := o8.blk z8); (subst hv8))
        have HO8 : Hid (OwnT w8 (.slice (some ⟨g8, 0, none⟩) ((fewT ts k long).length + 1) c8) (fewT ts (k + 1) long)) := by unfold Hid; rw [HFS.out]; rw [List.length_append] at o8; exact o8
        have HK8 : Hid (Keep [] w w8) := (((HK.out.alloc _).alloc _)).trans k8 (fun x hx => .inr (HB.out x (by simpa using hx)))
        have HB8 : Hid (∀ b, (Value.slice (some ⟨g8, 0, none⟩) ((fewT ts k long).length + 1) c8).ownBlock = some b → w.heap.size ≤ b) := fun b hb => by
          rcases b8 b hb with h | h
          · exact HB.out b h
          · have := HK.out.size; rw [h]; simp; omega
        clear o8 k8 b8 z8 HO HK HB HFS HSS hFL
        generalize (fewT ts k long).length + 1 = m8 at HO8 HB8 ⊢
        go_roundw
        case rel => exact ⟨k + 1, _, _, _, by omega, by omega, by go_num, rfl, HO8, HK8, HB8⟩
        case measure => simp [intOf]; omega
    · have HE : Hid (fewT ts k long = fewT ts n long) := by
        unfold Hid fewT
        by_cases h1 : k < n
        · rw [List.take_of_length_le (i := k) (by omega), List.take_of_length_le (i := n) (by omega)]
        · rw [show k = n by omega]
      have HEO := HO
      unfold Hid at HEO
      rw [HE.out] at HEO
      have HF := Lib.hid HEO
      clear HEO HO
      by_cases h1 : k < ts.length
      · have z1 : (k : Int) < (ts.length : Int) := by omega
        have z2 : ¬ (k : Int) < (n : Int) := by omega
        clear hlt h1
        go_wp2_with fail
        go_ret
        exact ⟨_, rfl, HF.out, HK.out, HB.out⟩
      · have z1 : ¬ (k : Int) < (ts.length : Int) := by omega
        clear hlt h1
        go_wp2_with fail
        go_ret
        exact ⟨_, rfl, HF.out, HK.out, HB.out⟩
end Go.Proofs.YtokfcgloogdeiaaGreatDoor
namespace Go.Proofs.YtokfcgloogdeiaaGreatDoor
set_option linter.unusedVariables false
set_option linter.unusedSimpArgs false

/-- a copy of n bytes as several of most bytes each, the last of what is left -/
def pcs (d : Int) (most : Nat) (n : Nat) : List Tk := if h : n = 0 ∨ most = 0 then [] else ⟨0, d, (min n most : Nat)⟩ :: pcs d most (n - most)
termination_by n
decreasing_by omega
theorem pcs_zero (d : Int) (most : Nat) : pcs d most 0 = [] := by rw [pcs, dif_pos (.inl rfl)]
theorem pcs_step (d : Int) (most n : Nat) (h : 1 ≤ n) (hm : 1 ≤ most) : pcs d most n = ⟨0, d, (min n most : Nat)⟩ :: pcs d most (n - most) := by rw [pcs, dif_neg (by omega)]
theorem pcs_len (d : Int) (most n : Nat) : (pcs d most n).length ≤ n := by
  induction n using Nat.strongRecOn with
  | _ n ih =>
    by_cases h : n = 0 ∨ most = 0
    · rw [pcs, dif_pos h]; simp
    · rw [pcs, dif_neg h]
      have := ih (n - most) (by omega)
      simp only [List.length_cons]; omega
/-- one byte more: the last piece is longer, or there is a piece more -/
theorem pcs_succ (n : Nat) (h : 1 ≤ n) : ∃ l r, pcs 1 258 n = l ++ [⟨0, 1, r⟩] ∧ 1 ≤ r ∧ r ≤ 258 ∧ pcs 1 258 (n + 1) = if r = 258 then pcs 1 258 n ++ [⟨0, 1, 1⟩] else l ++ [⟨0, 1, r + 1⟩] := by
  induction n using Nat.strongRecOn with
  | _ n ih =>
    by_cases h1 : n < 258
    · refine ⟨[], n, ?_, by omega, by omega, ?_⟩
      · rw [pcs_step _ _ _ h (by omega), show n - 258 = 0 by omega, pcs_zero, show min n 258 = n by omega]; rfl
      · rw [if_neg (by omega), pcs_step _ _ _ (by omega) (by omega), show n + 1 - 258 = 0 by omega, pcs_zero, show min (n + 1) 258 = n + 1 by omega]
        simp
    · by_cases h2 : n = 258
      · subst h2
        refine ⟨[], 258, ?_, by omega, by omega, ?_⟩
        · rw [pcs_step _ _ _ h (by omega), pcs_zero]; rfl
        · rw [if_pos rfl, pcs_step _ _ _ (by omega) (by omega), pcs_step 1 258 258 (by omega) (by omega)]
          show _ :: pcs 1 258 1 = _
          rw [pcs_step 1 258 1 (by omega) (by omega), pcs_zero]; rfl
      · obtain ⟨l, r, e, r1, r2, e2⟩ := ih (n - 258) (by omega) (by omega)
        have e3 : pcs 1 258 n = ⟨0, 1, 258⟩ :: pcs 1 258 (n - 258) := by rw [pcs_step _ _ _ h (by omega), show min n 258 = 258 by omega]; rfl
        have e4 : pcs 1 258 (n + 1) = ⟨0, 1, 258⟩ :: pcs 1 258 (n - 258 + 1) := by rw [pcs_step _ _ _ (by omega) (by omega), show min (n + 1) 258 = 258 by omega, show n + 1 - 258 = n - 258 + 1 by omega]; rfl
        refine ⟨⟨0, 1, 258⟩ :: l, r, by rw [e3, e]; rfl, r1, r2, ?_⟩
        rw [e4, e2, e3]
        split <;> rfl
/-- a run's tokens -/
theorem rn_run (b : List UInt8) (k m : Nat) (hs : k = 0 ∨ b.getD k 0 ≠ b.getD (k - 1) 0) (hm : ∀ i, i ≤ m → b.getD (k + i) 0 = b.getD k 0) : rn b (k + 1 + m) = rn b k ++ ⟨b.getD k 0, 0, 0⟩ :: pcs 1 258 m := by
  induction m with
  | zero => rw [pcs_zero, Nat.add_zero, rn, if_pos hs]
  | succ m ih =>
    have ih' := ih (fun i hi => hm i (by omega))
    have e1 := hm (m + 1) (by omega)
    have e2 := hm m (by omega)
    have hne : ¬ (k + 1 + m = 0 ∨ b.getD (k + 1 + m) 0 ≠ b.getD (k + 1 + m - 1) 0) := by
      rw [show k + 1 + m = k + (m + 1) by omega, show k + (m + 1) - 1 = k + m by omega, e1, e2]; simp
    rw [← Nat.add_assoc, rn, if_neg hne, ih']
    by_cases h0 : m = 0
    · subst h0
      rw [pcs_zero, if_pos (by simp)]
      rw [pcs_step 1 258 (0 + 1) (by omega) (by omega), pcs_zero]
      simp
    · obtain ⟨l, r, p1, r1, r2, p2⟩ := pcs_succ m (by omega)
      have hl : ((rn b k ++ ⟨b.getD k 0, 0, 0⟩ :: pcs 1 258 m).getLast?.getD default) = ⟨0, 1, r⟩ := by rw [p1, ← List.cons_append, ← List.append_assoc, List.getLast?_append]; rfl
      rw [hl, p2]
      by_cases hr : r = 258
      · rw [if_pos (.inr hr), if_pos hr]; simp
      · rw [if_neg (by show ¬ (r = 0 ∨ r = 258); omega), if_neg hr, p1]
        have e : rn b k ++ ⟨b.getD k 0, 0, 0⟩ :: (l ++ [⟨0, 1, r⟩]) = (rn b k ++ ⟨b.getD k 0, 0, 0⟩ :: l) ++ [⟨0, 1, r⟩] := by simp
        rw [e, set_last]; simp
theorem tellT_cut (s : HS) (ts : List Tk) (k : Nat) (hk : k < ts.length) (h : (tellT s (ts.take k)).1 = 0) : tellT s (ts.take (k + 1)) = (tellT s (ts.take k)).2.tk ts[k] := by
  rw [List.take_succ_eq_append_getElem hk, tellT_append, if_pos h, tellT]
  split
  · rename_i h1; rw [tellT]; exact Prod.ext h1.symm rfl
  · rfl
/-- the first error stays -/
theorem tellT_err (s : HS) (ts : List Tk) (k : Nat) (h : (tellT s (ts.take k)).1 ≠ 0) : tellT s ts = tellT s (ts.take k) := by
  conv => lhs; rw [← List.take_append_drop k ts]
  rw [tellT_append, if_neg h]
theorem sumT_take (ts : List Tk) (k : Nat) (hk : k < ts.length) : sumT (ts.take (k + 1)) = sumT (ts.take k) + sz1 ts[k] := by
  rw [List.take_succ_eq_append_getElem hk, sumT_append]; simp [sumT]
theorem sumT_le (ts : List Tk) (k : Nat) : sumT (ts.take k) ≤ sumT ts := by
  conv => rhs; rw [← List.take_append_drop k ts]
  rw [sumT_append]; omega
end Go.Proofs.YtokfcgloogdeiaaGreatDoor
namespace Go.Proofs.YtokfcgloogdeiaaGreatDoor
set_option linter.unusedVariables false
set_option linter.unusedSimpArgs false
open Go.ChangeShapes Go.WideShapes Go.ChangeAt Go.RowKit

theorem wf0 : (Lit.int .i64 0).wf = true := by decide
theorem wf1 : (Lit.int .i64 1).wf = true := by decide
def lastT (ts : List Tk) : Tk := ts.getLast?.getD default
theorem lastT_get (ts : List Tk) (h : 0 < ts.length) : ts[ts.length - 1] = lastT ts := by
  unfold lastT
  rw [List.getLast?_eq_getElem?, List.getElem?_eq_getElem (by omega)]; rfl
def rnew (b : List UInt8) (k : Nat) : Prop := k = 0 ∨ b.getD k 0 ≠ b.getD (k - 1) 0
theorem rn_new (b : List UInt8) (k : Nat) (h : rnew b k) : rn b (k + 1) = rn b k ++ [⟨b.getD k 0, 0, 0⟩] := by rw [rn]; exact if_pos h
theorem rn_one (b : List UInt8) (k : Nat) (h : ¬ rnew b k) (h2 : (lastT (rn b k)).len = 0 ∨ (lastT (rn b k)).len = 258) : rn b (k + 1) = rn b k ++ [⟨0, 1, 1⟩] := by rw [rn]; exact (if_neg h).trans (if_pos h2)
theorem rn_more (b : List UInt8) (k : Nat) (h : ¬ rnew b k) (h2 : ¬ ((lastT (rn b k)).len = 0 ∨ (lastT (rn b k)).len = 258)) (h0 : 0 < (rn b k).length) : rn b (k + 1) = (rn b k).set ((rn b k).length - 1) { (rn b k)[(rn b k).length - 1] with len := (lastT (rn b k)).len + 1 } := by
  rw [lastT_get _ h0, rn]; exact (if_neg h).trans (if_neg h2)
theorem rn_pos (b : List UInt8) (k : Nat) (hk : k ≤ b.length) (h : 0 < k) : 0 < (rn b k).length := by
  rcases (rn_all b k hk).last with h1 | ⟨l, t, h1, _⟩
  · omega
  · rw [h1]; simp
theorem rn_lastlen (b : List UInt8) (k : Nat) (hk : k ≤ b.length) (h : 0 < k) : 0 ≤ (lastT (rn b k)).len ∧ (lastT (rn b k)).len ≤ 258 := by
  rcases (rn_all b k hk).last with h1 | ⟨l, t, h1, h2⟩
  · omega
  · have : lastT (rn b k) = t := by unfold lastT; rw [h1]; simp
    rw [this]; omega
end Go.Proofs.YtokfcgloogdeiaaGreatDoor
