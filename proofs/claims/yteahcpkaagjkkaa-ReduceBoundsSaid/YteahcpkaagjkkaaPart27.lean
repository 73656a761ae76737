/- Texts put together: Fol9 Fol10 -/
import Derived.Test.YteahcpkaagjkkaaPart23
import Derived.Test.YteahcpkaagjkkaaPart25
import Derived.Test.YteahcpkaagjkkaaPart24
import Derived.Test.YteahcpkaagjkkaaPart26
import Derived.Test.YteahcpkaagjkkaaPart28
namespace Go.Proofs.Yteahcpkaagjkkaa
open Sg
set_option linter.unusedVariables false
set_option linter.unusedSimpArgs false
set_option maxRecDepth 100000
open Go.ChangeShapes Go.WideShapes Go.ChangeAt Go.RowKit Go.Shelf

theorem isC.of_cell {W : World} {p : Addr} {u : Value} (h : W.cell? p = some u) : isC W p.block := by
  unfold World.cell? at h
  cases e : W.heap[p.block]? with
  | none => rw [e] at h; cases h
  | some o =>
    cases o with
    | cells c t q => exact ⟨c, t, q, e⟩
    | _ => rw [e] at h; cases h
theorem Bs.isC {W : World} {v : Value} {l : List UInt8} (h : Bs W v l) (hl : l ≠ []) : ∀ b, v.ownBlock = some b → isC W b := by
  rcases h.cases with ⟨h1, _⟩ | ⟨h1, b2, off, cap, rfl, _, _, _, hc⟩
  · exact absurd h1 hl
  · intro b hb
    have : b2 = b := by simpa [Value.ownBlock] using hb
    subst this
    exact isC.of_cell (hc 0 h1)
theorem OwnB.isC {W : World} {v : Value} {l : List UInt8} (h : OwnB W v l) : ∀ b, v.ownBlock = some b → isC W b := by
  intro b hb
  rcases h.2 with ⟨rfl, _⟩ | ⟨g, cap, cur, rfl, _, hh, _⟩
  · simp [Value.ownBlock] at hb
  · simp only [Value.ownBlock, Option.some.injEq] at hb
    subst hb
    exact ⟨_, _, _, hh⟩
theorem Blk.isC {W : World} {b : Nat} {cs : Array Value} {t : TypeId} (h : Blk W b cs t) : isC W b := ⟨_, _, _, h⟩
theorem Rd.isC {W : World} {r : Nat} {v : Value} {s : RS} (h : Rd W r v s) : isC W r ∧ ∀ b, v.ownBlock = some b → isC W b := by
  refine ⟨Blk.isC h.1, fun b hb => ?_⟩
  rcases h.2.1.2 with ⟨rfl, _⟩ | ⟨g, cap, cur, rfl, _, hh, _⟩
  · simp [Value.ownBlock] at hb
  · simp only [Value.ownBlock, Option.some.injEq] at hb
    subst hb
    exact ⟨_, _, _, hh⟩
/-- a row that is no cells is none of these -/
theorem isC.not {W : World} {x : Nat} (h : isC W x) {row : Option Nat} (hr : ∀ y, row = some y → ∃ o : Obj, W.heap[y]? = some o ∧ o.isCells = false) : x ∉ row.toList := fun hm => by
  obtain ⟨o, ho, hf⟩ := hr x (by simpa [eq_comm] using hm)
  obtain ⟨a, b, c, h3⟩ := h
  rw [h3] at ho
  have := Option.some.inj ho
  subst this
  simp [Obj.isCells] at hf
/-- rows of bytes in the block q, from the block N on; those below m are empty -/
def SG (W : World) (q N m : Nat) (f : Nat → List UInt8) : Prop := ∃ cs, Blk W q cs 66 ∧ cs.size = 256 ∧ ∀ c, c < 256 → ∃ v, cs[c]? = some v ∧ Bs W v (f c) ∧ (∀ x, v.ownBlock = some x → N ≤ x) ∧ (c < m → v = .slice none 0 0)
theorem SG.keep {W W' : World} {q N m : Nat} {f : Nat → List UInt8} {S : List Nat} (h : SG W q N m f) (k : Keep S W W') (hq : q ∉ S) (hS : ∀ x ∈ S, x < N) : SG W' q N m f := by
  obtain ⟨cs, h1, h2, h3⟩ := h
  refine ⟨cs, h1.keep k hq, h2, fun c hc => ?_⟩
  obtain ⟨v, a, b, d, e⟩ := h3 c hc
  exact ⟨v, a, b.keep k (fun x hx hm => by have := d x hx; have := hS x hm; omega), d, e⟩
theorem SG.grown {W W' : World} {q N m : Nat} {f : Nat → List UInt8} {row : Option Nat} (h : SG W q N m f) (hg : W.grownBy W' row) (hr : ∀ y, row = some y → ∃ o : Obj, W.heap[y]? = some o ∧ o.isCells = false) : SG W' q N m f := by
  obtain ⟨cs, h1, h2, h3⟩ := h
  refine ⟨cs, h1.keep (keepRow hg) (h1.isC.not hr), h2, fun c hc => ?_⟩
  obtain ⟨v, a, b, d, e⟩ := h3 c hc
  exact ⟨v, a, b.keep' (keepRow hg) (fun hne x hx => (b.isC hne x hx).not hr), d, e⟩
theorem SG.set {W : World} {q N m : Nat} {f : Nat → List UInt8} (h : SG W q N m f) (hqN : q < N) (c : Nat) (v : Value) (l : List UInt8) (hv : Bs W v l) (hN : ∀ x, v.ownBlock = some x → N ≤ x) (m' : Nat) (hm : m' ≤ m) (hc : m' ≤ c) : SG (W.setCell ⟨q, c, none⟩ v) q N m' (fun i => if i = c then l else f i) := by
  obtain ⟨cs, h1, h2, h3⟩ := h
  have KC : Keep [q] W (W.setCell ⟨q, c, none⟩ v) := (Keep.refl [q] W).setCell (by simp) _
  refine ⟨_, h1.set c v, by simp [h2], fun i hi => ?_⟩
  rw [Array.getElem?_setIfInBounds, h2]
  by_cases e : i = c
  · subst e
    rw [if_pos rfl, if_pos hi]
    exact ⟨v, rfl, by show Bs _ v (if i = i then l else f i); rw [if_pos rfl]; exact hv.keep KC (by intro b hb; have := hN b hb; simp; omega), hN, fun h => by omega⟩
  · rw [if_neg (fun h => e h.symm)]
    obtain ⟨u, a, b, d, g⟩ := h3 i hi
    exact ⟨u, a, by show Bs _ u (if i = c then l else f i); rw [if_neg e]; exact b.keep KC (by intro z hz; have := d z hz; simp; omega), d, fun h => g (by omega)⟩
theorem SG.cell {W : World} {q N m : Nat} {f : Nat → List UInt8} (h : SG W q N m f) (c : Nat) (hc : c < 256) (hm : c < m) : W.cell? ⟨q, c, none⟩ = some (.slice none 0 0) := by
  obtain ⟨cs, h1, h2, h3⟩ := h
  obtain ⟨v, a, b, d, e⟩ := h3 c hc
  rw [← e hm]; exact h1.cell c _ a
theorem SG.free {W : World} {q N m : Nat} {f : Nat → List UInt8} (h : SG W q N m f) (c : Nat) : W.frozen? ⟨q, c, none⟩ = false := by
  obtain ⟨cs, h1, _⟩ := h; exact h1.free c
theorem SG.lower {W : World} {q N m : Nat} {f f' : Nat → List UInt8} (h : SG W q N m f) (m' : Nat) (hm : m' ≤ m) (e : ∀ c, c < 256 → f c = f' c) : SG W q N m' f' := by
  obtain ⟨cs, h1, h2, h3⟩ := h
  exact ⟨cs, h1, h2, fun c hc => by
    obtain ⟨v, a, b, d, g⟩ := h3 c hc
    exact ⟨v, a, by rw [← e c hc]; exact b, d, fun h => g (by omega)⟩⟩
/-- between the rounds of GetSets: the reader at r (its row in v), the sets at q -/
structure GI (w1 W : World) (r q : Nat) (v : Value) (st : RS) (k : Nat) : Prop where
  kb : KB [r, q] w1.heap.size w1 W
  rd : Rd W r v (gsF st k).2.2
  e0 : (gsF st k).1 = 0
  sg : SG W q w1.heap.size (256 - k) (gsF st k).2.1
theorem GI.grown {w1 W W' : World} {r q : Nat} {v : Value} {st : RS} {k : Nat} {row : Option Nat} (h : GI w1 W r q v st k) (hg : W.grownBy W' row) (hr : ∀ y, row = some y → w1.heap.size ≤ y ∧ ∃ o : Obj, W.heap[y]? = some o ∧ o.isCells = false) : GI w1 W' r q v st k := by
  have hr2 : ∀ y, row = some y → ∃ o : Obj, W.heap[y]? = some o ∧ o.isCells = false := fun y e => (hr y e).2
  exact ⟨h.kb.grown h.kb.size hg (fun x e => .inr (hr x e).1), h.rd.keep (keepRow hg) (h.rd.isC.1.not hr2) (fun b hb => (h.rd.isC.2 b hb).not hr2), h.e0, h.sg.grown hg hr2⟩
/-- left by a return: the answer lies in the results' blocks -/
structure GX (w1 W : World) (r q p2 p3 : Nat) (v : Value) (st : RS) (Z : Array Value) : Prop where
  kb : KB [r, q, p2, p3] w1.heap.size w1 W
  rd : Rd W r v (gs14 st).2.2
  e0 : (gs14 st).1 = 4
  f0 : (gs14 st).2.1 = fun _ => []
  b2 : Blk W p2 Z 66
  b3 : Blk W p3 #[.int .i64 4] 25
theorem GX.grown {w1 W W' : World} {r q p2 p3 : Nat} {v : Value} {st : RS} {Z : Array Value} {row : Option Nat} (h : GX w1 W r q p2 p3 v st Z) (hg : W.grownBy W' row) (hr : ∀ y, row = some y → w1.heap.size ≤ y ∧ ∃ o : Obj, W.heap[y]? = some o ∧ o.isCells = false) : GX w1 W' r q p2 p3 v st Z := by
  have hr2 : ∀ y, row = some y → ∃ o : Obj, W.heap[y]? = some o ∧ o.isCells = false := fun y e => (hr y e).2
  exact ⟨h.kb.grown h.kb.size hg (fun x e => .inr (hr x e).1), h.rd.keep (keepRow hg) (h.rd.isC.1.not hr2) (fun b hb => (h.rd.isC.2 b hb).not hr2), h.e0, h.f0, h.b2.keep (keepRow hg) (h.b2.isC.not hr2), h.b3.keep (keepRow hg) (h.b3.isC.not hr2)⟩
theorem wpIn_loadA {F : Fence} {n : Nat} {P : Program} {op : Oper} {a : Act} {w : World} {K : Act → World → Prop} {Q : Exit → Act → World → Prop} (ty : TypeId) (x : Operand) (ho : op.op = .load ty x)
    (g : Nat) (hx : a.eval x = .pointer (some ⟨g, 0, none⟩)) (c : Array Value) (h : (Instr.loadAt ty (.pointer (some ⟨g, 0, none⟩))).run P w = .ok (.agg c) w)
    (hk : K (a.put op.dst (.agg c)) w) : op.wpIn F n P a w K Q := by
  unfold Oper.wpIn
  rw [Oper.semAt_eq _ _ _ (fun c h => by rw [ho] at h; cases h)]
  refine ⟨fun f hf => ?_, ?_⟩
  · unfold Oper.about at hf; rw [ho] at hf; simp at hf
  · unfold execOp
    simp only [ho, hx, Sem.run_bind, Sem.run_pure, Result.andThen_ok, h]
    exact hk
theorem wpIn_storeA {F : Fence} {n : Nat} {P : Program} {op : Oper} {a : Act} {w w' : World} {K : Act → World → Prop} {Q : Exit → Act → World → Prop} (ty : TypeId) (x y : Operand) (ho : op.op = .store ty x y)
    (g : Nat) (hx : a.eval x = .pointer (some ⟨g, 0, none⟩)) (c : Array Value) (hy : a.eval y = .agg c) (h : (Instr.storeAt ty (.pointer (some ⟨g, 0, none⟩)) (.agg c)).run P w = .ok () w')
    (hk : K (a.put op.dst undef) w') : op.wpIn F n P a w K Q := by
  unfold Oper.wpIn
  rw [Oper.semAt_eq _ _ _ (fun c h => by rw [ho] at h; cases h)]
  refine ⟨fun f hf => ?_, ?_⟩
  · unfold Oper.about at hf; rw [ho] at hf; simp at hf
  · unfold execOp
    simp only [ho, hx, hy, Sem.run_bind, Sem.run_pure, Result.andThen_ok, h]
    exact hk
theorem loadErr {W : World} {p : Addr} {u : Value} (h : W.cell? p = some u) : (loadVar 25 p).run Try.prog W = .ok u W := by
  go_simp
/-- two results that lie in cells of their own: an array and a number -/
theorem results_cells2 {P : Program} {fn : Func} {p u : Tmp} {ty ty2 : TypeId} (h : fn.results = #[.cell p ty, .cell u ty2]) (tmps : Array Value) {w : World} {g g2 : Nat} {c : Array Value} {t : TypeId} {x : Value} (hp : tmps.getD p undef = .pointer (some ⟨g, 0, none⟩)) (hu2 : tmps.getD u undef = .pointer (some ⟨g2, 0, none⟩)) (hb : Blk w g c t)
    (d : TypeDesc) (hu : P.underlying ty = some d) (hd : d.isRow = true) (hi : (P.info? ty).map (·.size) = some c.size)
    (hx : (loadVar ty2 ⟨g2, 0, none⟩).run P w = .ok x w) : (results fn tmps).run P w = .ok (.tuple #[.agg c, x]) w := by
  have hl := run_loadVar_mid (P := P) w g 0 ty c.toList d (fun j v hv => by rw [Nat.zero_add]; exact hb.cell j v (by simpa using hv)) hu hd (by simpa using hi)
  simp only [results, h]
  have hp' : tmps[p]?.getD undef = .pointer (some ⟨g, 0, none⟩) := by simpa using hp
  have hu' : tmps[u]?.getD undef = .pointer (some ⟨g2, 0, none⟩) := by simpa using hu2
  simp [Sem.run_bind, Result.andThen, hp', hu', asAddr, hl, hx]
end Go.Proofs.Yteahcpkaagjkkaa
namespace Go.Proofs.Yteahcpkaagjkkaa
open Sg
set_option linter.unusedVariables false
set_option linter.unusedSimpArgs false
set_option maxRecDepth 100000
open Go.ChangeShapes Go.WideShapes Go.ChangeAt Go.RowKit Go.Shelf
attribute [local go_sem] Oper.semAt_some

theorem KB.mono {S S' : List Nat} {n : Nat} {A B : World} (h : KB S n A B) (hs : ∀ x ∈ S, x ∈ S') : KB S' n A B := ⟨h.os, h.tape, h.output, h.size, fun k h1 h2 => h.block k h1 (fun hm => h2 (hs k hm))⟩
/-- sets as a value, in blocks from N on -/
def SVn (w : World) (V : Value) (f : Nat → List UInt8) (N : Nat) : Prop := ∃ cs, V = .agg cs ∧ cs.size = 256 ∧ ∀ c, c < 256 → ∃ v, cs[c]? = some v ∧ Bs w v (f c) ∧ (∀ x, v.ownBlock = some x → N ≤ x)
set_option maxHeartbeats 4000000 in
theorem fol_getsets (w : World) (r : Nat) (v : Value) (st : RS) (H : Rd w r v st) :
    Calls Try.prog 43 #[.pointer (some ⟨r, 0, none⟩)] w fun e w' => ∃ V, e = .returned (.tuple #[V, .int .i64 (gs14 st).1]) ∧ Rd w' r v (gs14 st).2.2 ∧ Keep [r] w w' ∧ SVn w' V (gs14 st).2.1 w.heap.size := by
  have hz := (zero_of_info (P := Try.prog) fsetsInfo).1
  have hz1 : ∀ v ∈ zset.toList, v.oneCell' = true := by
    intro v hv; simp [zset] at hv; rw [hv]; rfl
  have hzs : zset.size = 256 := by simp [zset]
  have hzc : ∀ c, c < 256 → zset[c]? = some (.slice none 0 0) := fun c hc => by simp [zset, hc]
  have hrlt := H.1.lt
  have hvlt := H.2.1.lt
  have HH := Lib.hid H
  clear H
  generalize zset = Z at hz hz1 hzs hzc
  have HZ1 := Lib.hid hz1; have HZS := Lib.hid hzs; have HZC := Lib.hid hzc
  clear hz1 hzs hzc
  refine (callsIn_wide (n := 5)).1 ?_
  refine callsIn_of_wp_marks Try.func43 rfl trivial ?_ rfl
  simp only [Try.ntmps43, List.size_toArray, List.length_cons, List.length_nil, Nat.reduceAdd, Nat.reduceSub, Array.replicate_succ, Array.replicate_zero, List.push_toArray, List.append_toArray, List.nil_append, List.cons_append]
  gi_wp2_with fail
  refine ⟨trivial, (callsIn_wide.2 (backB_c _ _ _ _)).mono ?_⟩
  rintro e w' ⟨rfl, rfl⟩
  simp only [World.size_alloc] at *
  have a0 := Blk.new w #[.pointer (some ⟨r, 0, none⟩)] 42
  have ka : Keep [] w (w.alloc (.cells #[.pointer (some ⟨r, 0, none⟩)] 42)) := (Keep.refl [] w).alloc _
  have za : (w.alloc (.cells #[.pointer (some ⟨r, 0, none⟩)] 42)).heap.size = w.heap.size + 1 := by simp
  generalize w.alloc (.cells #[.pointer (some ⟨r, 0, none⟩)] 42) = wa at a0 ka za ⊢
  have a1 := Blk.new wa Z 66
  have kb : Keep [] wa (wa.alloc (.cells Z 66)) := (Keep.refl [] wa).alloc _
  have zb : (wa.alloc (.cells Z 66)).heap.size = w.heap.size + 2 := by simp [za]
  rw [za] at a1
  generalize wa.alloc (.cells Z 66) = wb at a1 kb zb ⊢
  have a2 := Blk.new wb #[.int .i64 0] 25
  have kc : Keep [] wb (wb.alloc (.cells #[.int .i64 0] 25)) := (Keep.refl [] wb).alloc _
  have zc : (wb.alloc (.cells #[.int .i64 0] 25)).heap.size = w.heap.size + 3 := by simp [zb]
  rw [zb] at a2
  generalize wb.alloc (.cells #[.int .i64 0] 25) = wc at a2 kc zc ⊢
  have a3 := Blk.new wc Z 66
  have kd : Keep [] wc (wc.alloc (.cells Z 66)) := (Keep.refl [] wc).alloc _
  have zd : (wc.alloc (.cells Z 66)).heap.size = w.heap.size + 4 := by simp [zc]
  rw [zc] at a3
  generalize wc.alloc (.cells Z 66) = wd at a3 kd zd ⊢
  obtain ⟨bw, hbw⟩ : ∃ x, w.heap.size = x := ⟨_, rfl⟩
  obtain ⟨p2, hp2⟩ : ∃ x, bw + 1 = x := ⟨_, rfl⟩
  obtain ⟨p3, hp3⟩ : ∃ x, bw + 2 = x := ⟨_, rfl⟩
  obtain ⟨q, hq⟩ : ∃ x, bw + 3 = x := ⟨_, rfl⟩
  obtain ⟨bq, hbq⟩ : ∃ x, bw + 4 = x := ⟨_, rfl⟩
  simp only [show w.heap.size + 1 + 1 + 1 = w.heap.size + 3 from rfl, show w.heap.size + 1 + 1 = w.heap.size + 2 from rfl, hbw, hp2, hp3, hq] at a0 a1 a2 a3 za zb zc zd hrlt hvlt ⊢
  have a4 := Blk.new wd #[.slice (some ⟨q, 0, none⟩) 256 256] 121
  have ke : Keep [] wd (wd.alloc (.cells #[.slice (some ⟨q, 0, none⟩) 256 256] 121)) := (Keep.refl [] wd).alloc _
  have ze : (wd.alloc (.cells #[.slice (some ⟨q, 0, none⟩) 256 256] 121)).heap.size = bw + 5 := by simp [zd]
  have e3 : p2 + 1 = p3 := by omega
  have e4 : p3 + 1 = q := by omega
  have e5 : q + 1 = bq := by omega
  simp only [hbw, hp2, e3, e4, e5]
  rw [zd, hbq] at a4
  have K1 : Keep [] w (wd.alloc (.cells #[.slice (some ⟨q, 0, none⟩) 256 256] 121)) := (((ka.trans kb (by simp)).trans kc (by simp)).trans kd (by simp)).trans ke (by simp)
  have b0 := ((((a0.keep kb (by simp)).keep kc (by simp)).keep kd (by simp)).keep ke (by simp))
  have b2 := (((a1.keep kc (by simp)).keep kd (by simp)).keep ke (by simp))
  have b3 := ((a2.keep kd (by simp)).keep ke (by simp))
  have b4 := a3.keep ke (by simp)
  clear ka kb kc kd ke a0 a1 a2 a3 za zb zc zd e3 e4 e5
  generalize wd.alloc (.cells #[.slice (some ⟨q, 0, none⟩) 256 256] 121) = w1 at *
  have HZ : Hid (w.heap.size = bw ∧ p2 = bw + 1 ∧ p3 = bw + 2 ∧ q = bw + 3 ∧ bq = bw + 4 ∧ w1.heap.size = bw + 5 ∧ r < bw ∧ ∀ b, v.ownBlock = some b → b < bw) := ⟨hbw, by omega, by omega, by omega, by omega, ze, hrlt, hvlt⟩
  have HK1 := Lib.hid K1; have HB0 := Lib.hid b0; have HB2 := Lib.hid b2; have HB3 := Lib.hid b3; have HBQ := Lib.hid a4
  have HR1 : Hid (Rd w1 r v st) := HH.out.keep K1 (by simp) (by simp)
  have HS1 : Hid (SG w1 q w1.heap.size 256 (fun _ => [])) := ⟨Z, b4, HZS.out, fun c hc => ⟨_, HZC.out c hc, Bs.nil _, by simp [Value.ownBlock], fun _ => rfl⟩⟩
  have HI0 : Hid (GI w1 w1 r q v st 0) := ⟨KB.refl _ _ _, by rw [gsF]; exact HR1.out, by rw [gsF], by rw [gsF]; exact HS1.out⟩
  have hqw : q < w1.heap.size := by omega
  have hnb : bw ∉ [r, q] ∧ bq ∉ [r, q] := by simp; omega
  have hlt2 : bw < w1.heap.size ∧ bq < w1.heap.size := by omega
  clear K1 b0 b2 b3 b4 a4 hbw hp2 hp3 hq hbq ze hrlt hvlt HH
  gi_wp2_with fail
  refine range_stepsL (gf := 91) (lb := #[.pointer (some ⟨bq, 0, none⟩)]) rfl (enters_of Try.func91 (by kernel_rfl) rfl)
    (fun k W => GI w1 W r q v st k) (fun W => GX w1 W r q p2 p3 v st Z)
    (backBL_steps bq q 256 (by omega) (.slice none 0 0) w1 _ (fun k W' h => h.kb.cell (HBQ.out.cell 0 _ rfl) hlt2.2 hnb.2) (fun k W' h j hj => h.sg.cell j (by omega) (by omega)))
    (fun _ _ => trivial) (fun _ _ _ _ _ _ _ => trivial) ?hps
    (fun k W W' row h hg hr => h.grown hg hr) (fun _ W W' row h hg hr => h.grown hg hr) HI0.out
    (fun j => { tmps := #[.pointer (some ⟨r, 0, none⟩), .pointer (some ⟨bw, 0, none⟩), .pointer (some ⟨p2, 0, none⟩), .pointer (some ⟨p3, 0, none⟩), .pointer (some ⟨q, 0, none⟩), .int .i64 j, undef, undef, .slice (some ⟨q, 0, none⟩) 256 256, .func (.func 91) #[] #[.pointer (some ⟨bq, 0, none⟩)], .int .i64 j, .slice none 0 0, undef, undef, undef, undef, undef, undef, undef, undef, undef, undef, undef, undef, undef, undef, undef, undef, undef, undef, undef, undef, undef, undef, undef, undef, undef, undef, undef], defers := [] }) ?assign ?body ?done ?left
  case hps => intro x; rfl
  case assign =>
    intro l x W KK hK
    gi_wp2
    exact hK
  case body =>
    intro l k j W hx hT
    obtain ⟨hk, hj⟩ := down_get 256 k j hx
    have hj256 : j < 256 := by omega
    have hj257 : (j : Int) < 256 := by omega
    have hjk : 255 - k = j := by omega
    have hkb := hT.kb
    have c0 : W.cell? ⟨bw, 0, none⟩ = some (.pointer (some ⟨r, 0, none⟩)) := hkb.cell (HB0.out.cell 0 _ rfl) hlt2.1 hnb.1
    have hz' := HZ.out
    have bb2 : Blk W p2 Z 66 := (hkb.block p2 (by omega) (by simp; omega)).trans HB2.out
    have bb3 : Blk W p3 #[.int .i64 0] 25 := (hkb.block p3 (by omega) (by simp; omega)).trans HB3.out
    have hsg := hT.sg
    have HRC := Lib.hid hT.rd.isC
    have hnx : gsF st (k + 1) = (if 32 < ((gsF st k).2.2.bits 6).1 then (4, fun _ => [], ((gsF st k).2.2.bits 6).2)
      else (0, fun i => if i = j then (((gsF st k).2.2.bits 6).2.byt ((gsF st k).2.2.bits 6).1).1 else (gsF st k).2.1 i, (((gsF st k).2.2.bits 6).2.byt ((gsF st k).2.2.bits 6).1).2)) := by
      rw [gsF, if_neg (by rw [hT.e0]; simp), hjk]
    have hform := gs14_form st (k + 1) (by omega)
    have HB6 := bits_c W r v _ 6 hT.rd
    have h6 := bits_lt (gsF st k).2.2 6
    have e6 : ((6 : Nat) : Int) = 6 := rfl
    rw [e6] at h6
    obtain ⟨f0, hf0⟩ : ∃ f0, (gsF st k).2.1 = f0 := ⟨_, rfl⟩
    rw [hf0] at hnx hsg
    generalize (gsF st k).2.2.bits 6 = B at HB6 h6 hnx
    obtain ⟨n, st1⟩ := B
    dsimp only at HB6 h6 hnx
    have HB6 := Lib.hid HB6; have HNX := Lib.hid hnx; have HFM := Lib.hid hform; have HSG := Lib.hid hsg; have HKB := Lib.hid hkb
    have HBB2 := Lib.hid bb2; have HBB3 := Lib.hid bb3
    have hnw : IntKind.i64.wrap (n : Int) = n := by rw [IntKind.wrap_i64]; omega
    clear hz' hnx hform hsg hkb hT hf0 bb2 bb3 hx hj
    by_cases hn : 32 < n
    · have y1 : decide ((32 : Int) < (n : Int)) = true := by simp; omega
      have y1' : decide (32 < n) = true := by simpa using hn
      have hx := HNX.out
      rw [if_pos hn] at hx
      have hfm := HFM.out (by rw [hx]; simp)
      rw [hx] at hfm
      have HF2 := Lib.hid hfm
      clear hn hx hfm HNX HFM
      gi_wp2_with fail
      refine ⟨trivial, CallsIn.inRound l ((callsIn_wide.2 HB6.out).mono ?_)⟩
      rintro e W1 ⟨rfl, hR1, k1⟩
      have hz' := HZ.out
      have bb2 := HBB2.out.keep k1 (by simp; omega)
      have bb3 := HBB3.out.keep k1 (by simp; omega)
      have hst := Blk.storeC (P := Try.prog) bb2 Z rfl HZ1.out
      have KS : Keep [p2] W1 (W1.setRow p2 Z) := Keep.setRow _
      have d2 : Blk (W1.setRow p2 Z) p2 Z 66 := bb2.setRow Z
      have d3 := bb3.keep KS (by simp; omega)
      have c3 := d3.cell 0 _ rfl
      have f3 := d3.free 0
      simp only [List.getElem_toArray, List.getElem_cons_zero, List.getElem_cons_succ] at c3
      have HR1' := Lib.hid hR1
      clear hz' HB6 c0 hR1
      gi_wp2_with fail
      have hz' := HZ.out
      have KF : Keep [p2, p3] W1 ((W1.setRow p2 Z).setCell ⟨p3, 0, none⟩ (.int .i64 4)) := (KS.mono (by simp)).setCell (by simp) _
      have e2 : Blk ((W1.setRow p2 Z).setCell ⟨p3, 0, none⟩ (.int .i64 4)) p2 Z 66 := d2.keep ((Keep.refl [p3] _).setCell (by simp) _) (by simp; omega)
      have e3 : Blk ((W1.setRow p2 Z).setCell ⟨p3, 0, none⟩ (.int .i64 4)) p3 #[.int .i64 4] 25 := by simpa using d3.set 0 (.int .i64 4)
      have KW : Keep [r, p2, p3] W ((W1.setRow p2 Z).setCell ⟨p3, 0, none⟩ (.int .i64 4)) := (k1.mono (by simp)).trans KF (fun z hz => .inl (by simp at hz; simp [hz]))
      have hrW : isC W r := HRC.out.1
      refine ⟨KeepsFrom.of_keep _ KW (fun x hx => ?_), ⟨?_, ?_, by rw [HF2.out], by rw [HF2.out], e2, e3⟩⟩
      · simp at hx
        rcases hx with rfl | rfl | rfl
        · exact hrW
        · exact HBB2.out.isC
        · exact HBB3.out.isC
      · exact (HKB.out.mono (S' := [r, q, p2, p3]) (by simp)).trans (KB.of_keep KW HKB.out.size (fun x hx => .inl (by simp at hx; simp; omega)))
      · rw [HF2.out]
        exact HR1'.out.keep KF (by simp; omega) (fun b hb hm => by have := hz'.2.2.2.2.2.2.2 b hb; simp at hm; omega)
    · have y1 : decide ((32 : Int) < (n : Int)) = false := by simp; omega
      have y1' : decide (32 < n) = false := by simpa using hn
      have hx := HNX.out
      rw [if_neg hn] at hx
      have HX := Lib.hid hx
      have hn32 : n ≤ 32 := by omega
      clear hn hx HNX HFM
      gi_wp2_with fail
      refine ⟨trivial, CallsIn.inRound l ((callsIn_wide.2 HB6.out).mono ?_)⟩
      rintro e W1 ⟨rfl, hR1, k1⟩
      have hz' := HZ.out
      have hsg1 := HSG.out.keep k1 (by simp; omega) (by simp; omega)
      obtain ⟨cs0, s1, s2, s3⟩ := hsg1
      obtain ⟨v0, m1, m2, m3, m4⟩ := s3 j hj256
      have m5 := m4 (by omega)
      subst m5
      have hset : cs0.setIfInBounds j (.slice none 0 0) = cs0 := by
        apply Array.ext_getElem?
        intro i
        rw [Array.getElem?_setIfInBounds]
        by_cases e : j = i
        · subst e; rw [if_pos rfl, if_pos (by omega), m1]
        · rw [if_neg e]
      have HS1' := Lib.hid s1; have HS3 := Lib.hid s3; have HST := Lib.hid hset
      have HR1' := Lib.hid hR1; have HK1' := Lib.hid k1
      have HC0 : Hid (∀ W', Keep [r, q] W1 W' → W'.cell? ⟨bw, 0, none⟩ = some (.pointer (some ⟨r, 0, none⟩))) := fun W' kw => kw.cell (k1.cell c0 (by simp; omega)) (by simp; omega)
      clear hz' HB6 c0 hR1 k1 s1 s3 m1 m2 m3 m4 hset
      gi_wp2_with fail
      gi_loopw [19] (fun iv wr => ∃ (m : Nat) (vc : Value), m ≤ n ∧ iv = .int .i64 m ∧ Hid (Blk wr q (cs0.setIfInBounds j vc) 66) ∧ Hid (OwnB wr vc (st1.byt m).1) ∧ Hid (Rd wr r v (st1.byt m).2) ∧ Hid (Keep [r, q] W1 wr) ∧ Hid (∀ x, vc.ownBlock = some x → W1.heap.size ≤ x) ∧ Hid (KeepsFrom w1.heap.size W1 wr)) (fun iv _ => n - (intOf iv).toNat)
      case atStart => exact ⟨0, .slice none 0 0, Nat.zero_le _, rfl, by unfold Hid; rw [HST.out]; exact HS1'.out, OwnB.nil _, HR1'.out, Keep.refl _ _, by simp [Hid, Value.ownBlock], KeepsFrom.refl _ _⟩
      case round =>
        obtain ⟨m, vc, hm, rfl, HQ, HO, HR, HK, HV, HF⟩ := hrel
        by_cases hlt : m < n
        · have hmz : (m : Int) < (n : Int) := by omega
          have hz' := HZ.out
          have cq := HQ.out.cell j vc (by rw [Array.getElem?_setIfInBounds, if_pos rfl, if_pos (by omega)])
          have c0 := HC0.out wr HK.out
          obtain ⟨av, nv, cv, rfl⟩ := HO.out.shape
          clear hz'
          gi_wp2_with fail
          refine regionIn_round (by kernel_rfl) (by kernel_rfl) ?_
          have hR2 := HR.out.keep ((Keep.refl [] wr).drew) (by simp) (by simp)
          have HB8 := bits_c wr.drew r v _ 8 hR2
          have h8 := bits_lt (st1.byt m).2 8
          have e8 : ((8 : Nat) : Int) = 8 := rfl
          rw [e8] at h8
          have hby : st1.byt (m + 1) = ((st1.byt m).1 ++ [UInt8.ofNat ((st1.byt m).2.bits 8).1], ((st1.byt m).2.bits 8).2) := rfl
          have hbl := st1.byt_len m
          have HRd := HR
          generalize (st1.byt m).2.bits 8 = B at HB8 h8 hby
          obtain ⟨z, st5⟩ := B
          dsimp only at HB8 h8 hby
          have hz8 : IntKind.u8.wrap (z : Int) = z := by rw [IntKind.wrap_u8]; omega
          have HB8 := Lib.hid HB8; have HBY := Lib.hid hby
          have yz : (UInt8.ofNat z).toNat = z := by rw [UInt8.toNat_ofNat']; omega
          have hs9 : IntKind.i64.wrap ((m : Int) + 1) = ((m + 1 : Nat) : Int) := by rw [IntKind.wrap_i64]; omega
          generalize (st1.byt m).1 = lb at HO hbl HBY
          have H5 : Hid (∀ w5, Rd w5 r v st5 → Keep [r] wr.drew w5 → w5.cell? ⟨q, j, none⟩ = some (.slice av nv cv) ∧ w5.cell? ⟨bw, 0, none⟩ = some (.pointer (some ⟨r, 0, none⟩)) ∧
              Hid (Hid (OwnB (w5.alloc (.cells #[.int .u8 z] 5)) (.slice av nv cv) lb) ∧ Hid (Bs (w5.alloc (.cells #[.int .u8 z] 5)) (.slice (some ⟨w5.heap.size, 0, none⟩) 1 1) [UInt8.ofNat z]) ∧ Hid (lb.length + [UInt8.ofNat z].length ≤ 140737488355328) ∧
                Hid (∀ v6 w6, OwnB w6 v6 (lb ++ [UInt8.ofNat z]) → Keep (Value.slice av nv cv).ownBlock.toList (w5.alloc (.cells #[.int .u8 z] 5)) w6 → (∀ b, v6.ownBlock = some b → (Value.slice av nv cv).ownBlock = some b ∨ b = (w5.alloc (.cells #[.int .u8 z] 5)).heap.size) →
                  w6.cell? ⟨q, j, none⟩ = some (.slice av nv cv) ∧ w6.frozen? ⟨q, j, none⟩ = false ∧ Hid (∃ (m' : Nat) (vc : Value), m' ≤ n ∧ Value.int .i64 ((m + 1 : Nat) : Int) = .int .i64 m' ∧ Hid (Blk (w6.setCell ⟨q, j, none⟩ v6) q (cs0.setIfInBounds j vc) 66) ∧ Hid (OwnB (w6.setCell ⟨q, j, none⟩ v6) vc (st1.byt m').1) ∧ Hid (Rd (w6.setCell ⟨q, j, none⟩ v6) r v (st1.byt m').2) ∧ Hid (Keep [r, q] W1 (w6.setCell ⟨q, j, none⟩ v6)) ∧ Hid (∀ x, vc.ownBlock = some x → W1.heap.size ≤ x) ∧ Hid (KeepsFrom w1.heap.size W1 (w6.setCell ⟨q, j, none⟩ v6)))))) := by
            intro w5 h5 k5
            have hz' := HZ.out
            have hW1 : w1.heap.size ≤ W1.heap.size := by have := HKB.out.size; have := HK1'.out.size; omega
            have k15 : Keep [r, q] W1 w5 := (HK.out.drew).trans k5 (fun x hx => .inl (by simp at hx; simp [hx]))
            have hov : ∀ b, (Value.slice av nv cv).ownBlock = some b → W1.heap.size ≤ b := HV.out
            have kd5 : Keep [r] wr w5 := ((Keep.refl [] wr).drew.nil (S := [r])).trans k5 (fun x hx => .inl hx)
            have cq5 := kd5.cell cq (by simp; omega)
            have c05 := kd5.cell c0 (by simp; omega)
            have ho5 := HO.out.keep kd5 (fun b hb hm => by have := hov b hb; simp at hm; omega)
            have KA5 : Keep [] w5 (w5.alloc (.cells #[.int .u8 z] 5)) := (Keep.refl [] w5).alloc _
            have hn1 := Bs.new1 w5 (UInt8.ofNat z)
            rw [yz] at hn1
            refine ⟨cq5, c05, ho5.keep KA5 (by simp), hn1, by unfold Hid; simp; omega, fun v6 w6 ho6 hk6 hb6 => ?_⟩
            have hw5 : W1.heap.size ≤ w5.heap.size := k15.size
            have hnq : ∀ x ∈ (Value.slice av nv cv).ownBlock.toList, W1.heap.size ≤ x := fun x hx => hov x (by simpa using hx)
            have bq5 := (HQ.out.keep kd5 (by simp; omega)).keep KA5 (by simp)
            have bq6 := bq5.keep hk6 (fun hm => by have := hnq _ hm; omega)
            have cq6 := bq6.cell j (.slice av nv cv) (by rw [Array.getElem?_setIfInBounds, if_pos rfl, if_pos (by omega)])
            have hv6 : ∀ x, v6.ownBlock = some x → W1.heap.size ≤ x := fun x hx => by
              rcases hb6 x hx with h | h
              · exact hov x h
              · rw [h]; simp; omega
            have KC : Keep [q] w6 (w6.setCell ⟨q, j, none⟩ v6) := (Keep.refl [q] w6).setCell (by simp) _
            have k16 : Keep [r, q] W1 w6 := (k15.trans KA5 (by simp)).trans hk6 (fun x hx => .inr (hnq x hx))
            have hr6 := (h5.keep KA5 (by simp) (by simp)).keep hk6 (fun hm => by have := hnq _ hm; omega) (fun b hb hm => by have := hnq _ hm; have := hz'.2.2.2.2.2.2.2 b hb; omega)
            have kwr : Keep (r :: q :: (Value.slice av nv cv).ownBlock.toList) wr (w6.setCell ⟨q, j, none⟩ v6) :=
              (((kd5.mono (by simp)).trans KA5 (by simp)).trans hk6 (fun x hx => .inl (by simp at hx; simp [hx]))).trans KC (fun x hx => .inl (by simp at hx; simp [hx]))
            refine ⟨cq6, bq6.free j, m + 1, v6, by omega, rfl, ?_, ?_, ?_, ?_, hv6, ?_⟩
            · have := bq6.set j v6
              unfold Hid; simpa using this
            · rw [HBY.out]
              exact ho6.keep KC (fun b hb hm => by have := hv6 b hb; simp at hm; omega)
            · rw [HBY.out]
              exact hr6.keep KC (by simp; omega) (fun b hb hm => by have := hz'.2.2.2.2.2.2.2 b hb; simp at hm; omega)
            · exact k16.setCell (by simp) _
            · refine HF.out.trans (KeepsFrom.of_keep _ kwr (fun x hx => ?_))
              rcases List.mem_cons.1 hx with rfl | hx
              · exact HRd.out.isC.1
              · rcases List.mem_cons.1 hx with rfl | hx
                · exact HQ.out.isC
                · exact HO.out.isC x (by simpa using hx)
          clear hby hR2 h8 hbl
          refine anyIn_take 0 (some 21) (v := ?vv1) rfl rfl (by kernel_rfl) (by kernel_rfl) (by kernel_rfl) (fun _ _ _ h => h) ⟨Or.inl ⟨by rfl, ?hy1⟩, fun _ => rfl⟩ ?rest1
          case hy1 =>
            intro w
            go_simp
            try with_reducible rfl
          try simp only [Act.put, List.setIfInBounds_toArray, List.set_cons_zero, List.set_cons_succ]
          refine anyIn_take 1 (some 22) (v := ?vv2) rfl rfl (by kernel_rfl) (by kernel_rfl) (by kernel_rfl) (fun _ _ _ h => h) ⟨Or.inl ⟨by rfl, ?hy2⟩, fun _ => rfl⟩ ?rest2
          case hy2 =>
            intro w
            go_simp
            try with_reducible rfl
          try simp only [Act.put, List.setIfInBounds_toArray, List.set_cons_zero, List.set_cons_succ]
          refine anyIn_take 2 (some 23) (v := ?vv3) rfl rfl (by kernel_rfl) (by kernel_rfl) (by kernel_rfl) (fun _ _ _ h => h) ⟨Or.inl ⟨by rfl, ?hy3⟩, fun _ => rfl⟩ ?rest3
          case hy3 =>
            intro w
            go_simp
            try with_reducible rfl
          try simp only [Act.put, List.setIfInBounds_toArray, List.set_cons_zero, List.set_cons_succ]
          refine wpAnyIn_ready (rs := [3, 4]) (by kernel_rfl) (by simp) ?_
          refine AllReadyIn.cons rfl (fun K hK => ?_) (AllReadyIn.cons rfl (fun K hK => ?_) AllReadyIn.nil)
          · go_simp
            refine hK _ _ ?_; clear hK K
            try simp only [Act.put, List.setIfInBounds_toArray, List.set_cons_zero, List.set_cons_succ]
            refine wpAnyIn_ready (rs := [4]) (by kernel_rfl) (by simp) ?_
            refine AllReadyIn.cons rfl (fun K hK => ?_) AllReadyIn.nil
            go_simp
            refine hK _ _ ?_; clear hK K
            try simp only [Act.put, List.setIfInBounds_toArray, List.set_cons_zero, List.set_cons_succ]
            refine wpAnyIn_ready (rs := [5]) (by kernel_rfl) (by simp) ?_
            refine AllReadyIn.cons rfl (fun K hK => ?_) AllReadyIn.nil
            go_simp
            refine ⟨trivial, (callsIn_wide.2 HB8.out).mono ?_⟩
            rintro e w5 ⟨rfl, h5, k5⟩
            obtain ⟨cq5, c05, HB5⟩ := H5.out w5 h5 k5
            have cq7 : (w5.alloc (.cells #[.int .u8 z] 5)).cell? ⟨q, j, none⟩ = some (.slice av nv cv) := by rw [World.cell?_alloc_lt _ _ _ (World.block_lt_of_cell? _ _ cq5)]; exact cq5
            refine hK _ _ ?_; clear hK K
            try simp only [Act.put, List.setIfInBounds_toArray, List.set_cons_zero, List.set_cons_succ]
            refine anyIn_take 6 (some 27) (v := ?vv4) rfl rfl (by kernel_rfl) (by kernel_rfl) (by kernel_rfl) (fun _ _ _ h => h) ⟨Or.inl ⟨by rfl, ?hy4⟩, fun _ => rfl⟩ ?rest4
            case hy4 =>
              intro w
              go_simp
              try with_reducible rfl
            try simp only [Act.put, List.setIfInBounds_toArray, List.set_cons_zero, List.set_cons_succ]
            refine wpAnyIn_ready (rs := [7]) (by kernel_rfl) (by simp) ?_
            refine AllReadyIn.cons rfl (fun K hK => ?_) AllReadyIn.nil
            go_simp
            refine hK _ _ ?_; clear hK K
            try simp only [Act.put, List.setIfInBounds_toArray, List.set_cons_zero, List.set_cons_succ]
            obtain ⟨HO7, HN7, HLL, HA⟩ := HB5.out
            refine wpAnyIn_ready (rs := [8]) (by kernel_rfl) (by simp) ?_
            refine AllReadyIn.cons rfl (fun K hK => ?_) AllReadyIn.nil
            refine stepIn_appendB (.tmp 24) (.tmp 28) rfl rfl _ _ rfl HO7.out _ [UInt8.ofNat z] rfl HN7.out HLL.out ?_
            intro v6 w6 ho6 hk6 hb6 hz6
            obtain ⟨cq6, f6, HREL⟩ := HA.out v6 w6 ho6 hk6 hb6
            obtain ⟨a6, n6, cp6, rfl⟩ := ho6.shape
            refine hK _ _ ?_; clear hK K
            try simp only [Act.put, List.setIfInBounds_toArray, List.set_cons_zero, List.set_cons_succ]
            refine anyIn_take 9 (some 30) (v := ?vv5) rfl rfl (by kernel_rfl) (by kernel_rfl) (by kernel_rfl) (fun _ _ _ h => h) ⟨Or.inl ⟨by rfl, ?hy5⟩, fun _ => rfl⟩ ?rest5
            case hy5 =>
              intro w
              go_simp
              try with_reducible rfl
            try simp only [Act.put, List.setIfInBounds_toArray, List.set_cons_zero, List.set_cons_succ]
            refine wpAnyIn_ready (rs := [10]) (by kernel_rfl) (by simp) ?_
            refine AllReadyIn.cons rfl (fun K hK => ?_) AllReadyIn.nil
            go_simp
            refine hK _ _ ?_; clear hK K
            try simp only [Act.put, List.setIfInBounds_toArray, List.set_cons_zero, List.set_cons_succ]
            refine wpAnyIn_done (by kernel_rfl) ?_ _
            clear HO7 HN7 HLL HA HB8 H5 cq c0 cq5 c05 cq7 cq6 f6 ho6 hk6 hb6 hz6 h5 k5
            gi_wp2_with fail
            go_roundw
            case rel => exact HREL.out
            case measure => simp [intOf]; omega
          · go_simp
            refine hK _ _ ?_; clear hK K
            try simp only [Act.put, List.setIfInBounds_toArray, List.set_cons_zero, List.set_cons_succ]
            refine wpAnyIn_ready (rs := [3, 5]) (by kernel_rfl) (by simp) ?_
            refine AllReadyIn.cons rfl (fun K hK => ?_) (AllReadyIn.cons rfl (fun K hK => ?_) AllReadyIn.nil)
            · go_simp
              refine hK _ _ ?_; clear hK K
              try simp only [Act.put, List.setIfInBounds_toArray, List.set_cons_zero, List.set_cons_succ]
              refine wpAnyIn_ready (rs := [5]) (by kernel_rfl) (by simp) ?_
              refine AllReadyIn.cons rfl (fun K hK => ?_) AllReadyIn.nil
              go_simp
              refine ⟨trivial, (callsIn_wide.2 HB8.out).mono ?_⟩
              rintro e w5 ⟨rfl, h5, k5⟩
              obtain ⟨cq5, c05, HB5⟩ := H5.out w5 h5 k5
              have cq7 : (w5.alloc (.cells #[.int .u8 z] 5)).cell? ⟨q, j, none⟩ = some (.slice av nv cv) := by rw [World.cell?_alloc_lt _ _ _ (World.block_lt_of_cell? _ _ cq5)]; exact cq5
              refine hK _ _ ?_; clear hK K
              try simp only [Act.put, List.setIfInBounds_toArray, List.set_cons_zero, List.set_cons_succ]
              refine anyIn_take 6 (some 27) (v := ?vv6) rfl rfl (by kernel_rfl) (by kernel_rfl) (by kernel_rfl) (fun _ _ _ h => h) ⟨Or.inl ⟨by rfl, ?hy6⟩, fun _ => rfl⟩ ?rest6
              case hy6 =>
                intro w
                go_simp
                try with_reducible rfl
              try simp only [Act.put, List.setIfInBounds_toArray, List.set_cons_zero, List.set_cons_succ]
              refine wpAnyIn_ready (rs := [7]) (by kernel_rfl) (by simp) ?_
              refine AllReadyIn.cons rfl (fun K hK => ?_) AllReadyIn.nil
              go_simp
              refine hK _ _ ?_; clear hK K
              try simp only [Act.put, List.setIfInBounds_toArray, List.set_cons_zero, List.set_cons_succ]
              obtain ⟨HO7, HN7, HLL, HA⟩ := HB5.out
              refine wpAnyIn_ready (rs := [8]) (by kernel_rfl) (by simp) ?_
              refine AllReadyIn.cons rfl (fun K hK => ?_) AllReadyIn.nil
              refine stepIn_appendB (.tmp 24) (.tmp 28) rfl rfl _ _ rfl HO7.out _ [UInt8.ofNat z] rfl HN7.out HLL.out ?_
              intro v6 w6 ho6 hk6 hb6 hz6
              obtain ⟨cq6, f6, HREL⟩ := HA.out v6 w6 ho6 hk6 hb6
              obtain ⟨a6, n6, cp6, rfl⟩ := ho6.shape
              refine hK _ _ ?_; clear hK K
              try simp only [Act.put, List.setIfInBounds_toArray, List.set_cons_zero, List.set_cons_succ]
              refine anyIn_take 9 (some 30) (v := ?vv7) rfl rfl (by kernel_rfl) (by kernel_rfl) (by kernel_rfl) (fun _ _ _ h => h) ⟨Or.inl ⟨by rfl, ?hy7⟩, fun _ => rfl⟩ ?rest7
              case hy7 =>
                intro w
                go_simp
                try with_reducible rfl
              try simp only [Act.put, List.setIfInBounds_toArray, List.set_cons_zero, List.set_cons_succ]
              refine wpAnyIn_ready (rs := [10]) (by kernel_rfl) (by simp) ?_
              refine AllReadyIn.cons rfl (fun K hK => ?_) AllReadyIn.nil
              go_simp
              refine hK _ _ ?_; clear hK K
              try simp only [Act.put, List.setIfInBounds_toArray, List.set_cons_zero, List.set_cons_succ]
              refine wpAnyIn_done (by kernel_rfl) ?_ _
              clear HO7 HN7 HLL HA HB8 H5 cq c0 cq5 c05 cq7 cq6 f6 ho6 hk6 hb6 hz6 h5 k5
              gi_wp2_with fail
              go_roundw
              case rel => exact HREL.out
              case measure => simp [intOf]; omega
            · go_simp
              refine ⟨trivial, (callsIn_wide.2 HB8.out).mono ?_⟩
              rintro e w5 ⟨rfl, h5, k5⟩
              obtain ⟨cq5, c05, HB5⟩ := H5.out w5 h5 k5
              have cq7 : (w5.alloc (.cells #[.int .u8 z] 5)).cell? ⟨q, j, none⟩ = some (.slice av nv cv) := by rw [World.cell?_alloc_lt _ _ _ (World.block_lt_of_cell? _ _ cq5)]; exact cq5
              refine hK _ _ ?_; clear hK K
              try simp only [Act.put, List.setIfInBounds_toArray, List.set_cons_zero, List.set_cons_succ]
              refine anyIn_take 6 (some 27) (v := ?vv8) rfl rfl (by kernel_rfl) (by kernel_rfl) (by kernel_rfl) (fun _ _ _ h => h) ⟨Or.inl ⟨by rfl, ?hy8⟩, fun _ => rfl⟩ ?rest8
              case hy8 =>
                intro w
                go_simp
                try with_reducible rfl
              try simp only [Act.put, List.setIfInBounds_toArray, List.set_cons_zero, List.set_cons_succ]
              refine wpAnyIn_ready (rs := [3, 7]) (by kernel_rfl) (by simp) ?_
              refine AllReadyIn.cons rfl (fun K hK => ?_) (AllReadyIn.cons rfl (fun K hK => ?_) AllReadyIn.nil)
              · go_simp
                refine hK _ _ ?_; clear hK K
                try simp only [Act.put, List.setIfInBounds_toArray, List.set_cons_zero, List.set_cons_succ]
                refine wpAnyIn_ready (rs := [7]) (by kernel_rfl) (by simp) ?_
                refine AllReadyIn.cons rfl (fun K hK => ?_) AllReadyIn.nil
                go_simp
                refine hK _ _ ?_; clear hK K
                try simp only [Act.put, List.setIfInBounds_toArray, List.set_cons_zero, List.set_cons_succ]
                obtain ⟨HO7, HN7, HLL, HA⟩ := HB5.out
                refine wpAnyIn_ready (rs := [8]) (by kernel_rfl) (by simp) ?_
                refine AllReadyIn.cons rfl (fun K hK => ?_) AllReadyIn.nil
                refine stepIn_appendB (.tmp 24) (.tmp 28) rfl rfl _ _ rfl HO7.out _ [UInt8.ofNat z] rfl HN7.out HLL.out ?_
                intro v6 w6 ho6 hk6 hb6 hz6
                obtain ⟨cq6, f6, HREL⟩ := HA.out v6 w6 ho6 hk6 hb6
                obtain ⟨a6, n6, cp6, rfl⟩ := ho6.shape
                refine hK _ _ ?_; clear hK K
                try simp only [Act.put, List.setIfInBounds_toArray, List.set_cons_zero, List.set_cons_succ]
                refine anyIn_take 9 (some 30) (v := ?vv9) rfl rfl (by kernel_rfl) (by kernel_rfl) (by kernel_rfl) (fun _ _ _ h => h) ⟨Or.inl ⟨by rfl, ?hy9⟩, fun _ => rfl⟩ ?rest9
                case hy9 =>
                  intro w
                  go_simp
                  try with_reducible rfl
                try simp only [Act.put, List.setIfInBounds_toArray, List.set_cons_zero, List.set_cons_succ]
                refine wpAnyIn_ready (rs := [10]) (by kernel_rfl) (by simp) ?_
                refine AllReadyIn.cons rfl (fun K hK => ?_) AllReadyIn.nil
                go_simp
                refine hK _ _ ?_; clear hK K
                try simp only [Act.put, List.setIfInBounds_toArray, List.set_cons_zero, List.set_cons_succ]
                refine wpAnyIn_done (by kernel_rfl) ?_ _
                clear HO7 HN7 HLL HA HB8 H5 cq c0 cq5 c05 cq7 cq6 f6 ho6 hk6 hb6 hz6 h5 k5
                gi_wp2_with fail
                go_roundw
                case rel => exact HREL.out
                case measure => simp [intOf]; omega
              · go_simp
                refine hK _ _ ?_; clear hK K
                try simp only [Act.put, List.setIfInBounds_toArray, List.set_cons_zero, List.set_cons_succ]
                refine wpAnyIn_ready (rs := [3]) (by kernel_rfl) (by simp) ?_
                refine AllReadyIn.cons rfl (fun K hK => ?_) AllReadyIn.nil
                go_simp
                refine hK _ _ ?_; clear hK K
                try simp only [Act.put, List.setIfInBounds_toArray, List.set_cons_zero, List.set_cons_succ]
                obtain ⟨HO7, HN7, HLL, HA⟩ := HB5.out
                refine wpAnyIn_ready (rs := [8]) (by kernel_rfl) (by simp) ?_
                refine AllReadyIn.cons rfl (fun K hK => ?_) AllReadyIn.nil
                refine stepIn_appendB (.tmp 24) (.tmp 28) rfl rfl _ _ rfl HO7.out _ [UInt8.ofNat z] rfl HN7.out HLL.out ?_
                intro v6 w6 ho6 hk6 hb6 hz6
                obtain ⟨cq6, f6, HREL⟩ := HA.out v6 w6 ho6 hk6 hb6
                obtain ⟨a6, n6, cp6, rfl⟩ := ho6.shape
                refine hK _ _ ?_; clear hK K
                try simp only [Act.put, List.setIfInBounds_toArray, List.set_cons_zero, List.set_cons_succ]
                refine anyIn_take 9 (some 30) (v := ?vv10) rfl rfl (by kernel_rfl) (by kernel_rfl) (by kernel_rfl) (fun _ _ _ h => h) ⟨Or.inl ⟨by rfl, ?hy10⟩, fun _ => rfl⟩ ?rest10
                case hy10 =>
                  intro w
                  go_simp
                  try with_reducible rfl
                try simp only [Act.put, List.setIfInBounds_toArray, List.set_cons_zero, List.set_cons_succ]
                refine wpAnyIn_ready (rs := [10]) (by kernel_rfl) (by simp) ?_
                refine AllReadyIn.cons rfl (fun K hK => ?_) AllReadyIn.nil
                go_simp
                refine hK _ _ ?_; clear hK K
                try simp only [Act.put, List.setIfInBounds_toArray, List.set_cons_zero, List.set_cons_succ]
                refine wpAnyIn_done (by kernel_rfl) ?_ _
                clear HO7 HN7 HLL HA HB8 H5 cq c0 cq5 c05 cq7 cq6 f6 ho6 hk6 hb6 hz6 h5 k5
                gi_wp2_with fail
                go_roundw
                case rel => exact HREL.out
                case measure => simp [intOf]; omega
          -- END ROUND
        · obtain rfl : m = n := by omega
          clear hlt
          gi_wp2_with fail
          have hz' := HZ.out
          have hW1 : w1.heap.size ≤ W1.heap.size := by have := HKB.out.size; have := HK1'.out.size; omega
          have kW : Keep [r, q] W wr := (HK1'.out.mono (by simp)).trans HK.out (fun x hx => .inl hx)
          refine ⟨(KeepsFrom.of_keep _ HK1'.out (fun x hx => by have : x = r := by simpa using hx
                                                                subst this; exact HRC.out.1)).trans HF.out, trivial, ?_⟩
          refine ⟨HKB.out.trans (KB.of_keep kW HKB.out.size (fun x hx => .inl hx)), by rw [HX.out]; exact HR.out, by rw [HX.out], ?_⟩
          rw [HX.out]
          refine ⟨_, HQ.out, by simp [s2], fun c hc => ?_⟩
          rw [Array.getElem?_setIfInBounds, s2]
          by_cases e : c = j
          · subst e
            rw [if_pos rfl, if_pos hc]
            exact ⟨vc, rfl, by show Bs _ vc (if c = c then _ else _); rw [if_pos rfl]; exact HO.out.bs, fun x hx => by have := HV.out x hx; omega, fun h => by omega⟩
          · rw [if_neg (fun h => e h.symm)]
            obtain ⟨u, a, b, d, g⟩ := HS3.out c hc
            exact ⟨u, a, by show Bs _ u (if c = j then _ else _); rw [if_neg e]; exact b.keep HK.out (fun x hx hm => by have := d x hx; simp at hm; omega), d, fun h => g (by omega)⟩
  case done =>
    intro D W hD hT hK
    rw [down_len] at hT
    have hkb := hT.kb
    have c0 : W.cell? ⟨bw, 0, none⟩ = some (.pointer (some ⟨r, 0, none⟩)) := hkb.cell (HB0.out.cell 0 _ rfl) hlt2.1 hnb.1
    have hz' := HZ.out
    have bb2 : Blk W p2 Z 66 := (hkb.block p2 (by omega) (by simp; omega)).trans HB2.out
    have bb3 : Blk W p3 #[.int .i64 0] 25 := (hkb.block p3 (by omega) (by simp; omega)).trans HB3.out
    have HT := Lib.hid hT
    clear hz' hkb hT
    gi_wp2_with fail
    refine ⟨trivial, (callsIn_wide.2 (err_c W r v _ HT.out.rd)).mono ?_⟩
    rintro e W2 ⟨rfl, rfl⟩
    by_cases hE : (gsF st 256).2.2.E = 0
    · have hd := gs14_done st HT.out.e0 hE
      have y1 : (((gsF st 256).2.2.E : Int) != 0) = false := by rw [hE]; rfl
      obtain ⟨cs, q1, q2, q3⟩ := HT.out.sg
      have hld := Blk.load q1 _ Try.underlying66 rfl (by rw [q2]; kernel_rfl)
      have hone : ∀ u ∈ cs.toList, u.oneCell' = true := by
        intro u hu
        obtain ⟨i, hi, rfl⟩ := List.getElem_of_mem hu
        have hi2 : i < 256 := by simp at hi; omega
        obtain ⟨vc, g1, g2, _⟩ := q3 i hi2
        obtain ⟨a, cp, rfl, _⟩ := g2.shape
        have : cs.toList[i] = .slice a ((gsF st 256).2.1 i).length cp := by
          have := Array.getElem?_eq_some_iff.1 g1
          simpa using this.2
        rw [this]; rfl
      have hst := Blk.storeC (P := Try.prog) bb2 cs (by rw [q2, HZS.out]) hone
      have KS : Keep [p2] W (W.setRow p2 cs) := Keep.setRow _
      have hz' := HZ.out
      have d2 : Blk (W.setRow p2 cs) p2 cs 66 := bb2.setRow cs
      have d3 := bb3.keep KS (by simp; omega)
      have c3 := d3.cell 0 _ rfl
      have f3 := d3.free 0
      simp only [List.getElem_toArray, List.getElem_cons_zero, List.getElem_cons_succ] at c3
      have HQ3 := Lib.hid q3
      have HD := Lib.hid hd
      clear hz' q3 hone hd
      gi_wp2_with fail
      refine wpIn_loadA _ _ rfl q rfl cs hld ?_
      gi_wp2_with fail
      have KF : Keep [p2, p3] W ((W.setRow p2 cs).setCell ⟨p3, 0, none⟩ (.int .i64 0)) := (KS.mono (by simp)).setCell (by simp) _
      have e2 : Blk ((W.setRow p2 cs).setCell ⟨p3, 0, none⟩ (.int .i64 0)) p2 cs 66 := d2.keep ((Keep.refl [p3] _).setCell (by simp) _) (by have := HZ.out; simp; omega)
      have e3 : Blk ((W.setRow p2 cs).setCell ⟨p3, 0, none⟩ (.int .i64 0)) p3 #[.int .i64 0] 25 := by simpa using d3.set 0 (.int .i64 0)
      generalize (W.setRow p2 cs).setCell ⟨p3, 0, none⟩ (.int .i64 0) = Wf at KF e2 e3 ⊢
      have hz' := HZ.out
      have hDW : D < W.heap.size := (Array.getElem?_eq_some_iff.1 hK).1
      have hDz : ∀ z ∈ (some D).toList, z ∈ [r] ∨ w.heap.size ≤ z := fun z hz => .inr (by simp at hz; omega)
      have hKf : Wf.heap[D]? = some (.deferred (some [])) := (KF.block D hDW (by simp; omega)).trans hK
      have hg := grownBy_putObj' Wf D (.deferred none)
      have hrow : ∀ y, some D = some y → ∃ o : Obj, Wf.heap[y]? = some o ∧ o.isCells = false := fun y e => by cases e; exact ⟨_, hKf, rfl⟩
      have KG := keepRow hg
      have hRf : Rd Wf r v (gsF st 256).2.2 := HT.out.rd.keep KF (by simp; omega) (fun b hb hm => by have := hz'.2.2.2.2.2.2.2 b hb; simp at hm; omega)
      have hRg := hRf.keep KG (hRf.isC.1.not hrow) (fun b hb => (hRf.isC.2 b hb).not hrow)
      have g2 := e2.keep KG (e2.isC.not hrow)
      have g3 := e3.keep KG (e3.isC.not hrow)
      have c9 := g3.cell 0 _ rfl
      simp only [List.getElem_toArray, List.getElem_cons_zero, List.getElem_cons_succ] at c9
      refine ⟨by simp, .inl ⟨_, _, rfl, run_takeDeferred hKf, ?_⟩⟩
      refine ⟨_, results_cells2 rfl _ rfl rfl g2 _ Try.underlying66 rfl (by rw [q2]; kernel_rfl) (loadErr c9), ?_⟩
      rw [HD.out]
      refine ⟨.agg cs, rfl, hRg, ?_, ⟨cs, rfl, q2, fun c hc => ?_⟩⟩
      · have k1 : Keep [r, q] w1 W := HT.out.kb.keep
        exact (((HK1.out.nil (S := [r])).trans k1 (fun z hz => by simp at hz; rcases hz with h | h; exact .inl (by simp [h]); exact .inr (by omega))).trans KF (fun z hz => by simp at hz; exact .inr (by omega))).trans KG hDz
      · obtain ⟨vc, m1, m2, m3, m4⟩ := HQ3.out c hc
        have m5 := m2.keep KF (fun x hx hm => by have := m3 x hx; simp at hm; omega)
        exact ⟨vc, m1, m5.keep' KG (fun hne x hx => (m5.isC hne x hx).not hrow), fun x hx => by have := m3 x hx; omega⟩
    · have hd := gs14_err st 256 (Nat.le_refl _) HT.out.e0 hE
      have y1 : (((gsF st 256).2.2.E : Int) != 0) = true := by simp; omega
      have hst := Blk.storeC (P := Try.prog) bb2 Z rfl HZ1.out
      have KS : Keep [p2] W (W.setRow p2 Z) := Keep.setRow _
      have hz' := HZ.out
      have d2 : Blk (W.setRow p2 Z) p2 Z 66 := bb2.setRow Z
      have d3 := bb3.keep KS (by simp; omega)
      have c3 := d3.cell 0 _ rfl
      have f3 := d3.free 0
      simp only [List.getElem_toArray, List.getElem_cons_zero, List.getElem_cons_succ] at c3
      have HD := Lib.hid hd
      have HE := Lib.hid hE
      clear hz' hd hE
      gi_wp2_with fail
      have KF : Keep [p2, p3] W ((W.setRow p2 Z).setCell ⟨p3, 0, none⟩ (.int .i64 (gsF st 256).2.2.E)) := (KS.mono (by simp)).setCell (by simp) _
      have e2 : Blk ((W.setRow p2 Z).setCell ⟨p3, 0, none⟩ (.int .i64 (gsF st 256).2.2.E)) p2 Z 66 := d2.keep ((Keep.refl [p3] _).setCell (by simp) _) (by have := HZ.out; simp; omega)
      have e3 : Blk ((W.setRow p2 Z).setCell ⟨p3, 0, none⟩ (.int .i64 (gsF st 256).2.2.E)) p3 #[.int .i64 (gsF st 256).2.2.E] 25 := by simpa using d3.set 0 (.int .i64 (gsF st 256).2.2.E)
      generalize (W.setRow p2 Z).setCell ⟨p3, 0, none⟩ (.int .i64 (gsF st 256).2.2.E) = Wf at KF e2 e3 ⊢
      have hz' := HZ.out
      have hDW : D < W.heap.size := (Array.getElem?_eq_some_iff.1 hK).1
      have hDz : ∀ z ∈ (some D).toList, z ∈ [r] ∨ w.heap.size ≤ z := fun z hz => .inr (by simp at hz; omega)
      have hKf : Wf.heap[D]? = some (.deferred (some [])) := (KF.block D hDW (by simp; omega)).trans hK
      have hg := grownBy_putObj' Wf D (.deferred none)
      have hrow : ∀ y, some D = some y → ∃ o : Obj, Wf.heap[y]? = some o ∧ o.isCells = false := fun y e => by cases e; exact ⟨_, hKf, rfl⟩
      have KG := keepRow hg
      have hRf : Rd Wf r v (gsF st 256).2.2 := HT.out.rd.keep KF (by simp; omega) (fun b hb hm => by have := hz'.2.2.2.2.2.2.2 b hb; simp at hm; omega)
      have hRg := hRf.keep KG (hRf.isC.1.not hrow) (fun b hb => (hRf.isC.2 b hb).not hrow)
      have g2 := e2.keep KG (e2.isC.not hrow)
      have g3 := e3.keep KG (e3.isC.not hrow)
      have c9 := g3.cell 0 _ rfl
      simp only [List.getElem_toArray, List.getElem_cons_zero, List.getElem_cons_succ] at c9
      refine ⟨by simp, .inl ⟨_, _, rfl, run_takeDeferred hKf, ?_⟩⟩
      refine ⟨_, results_cells2 rfl _ rfl rfl g2 _ Try.underlying66 rfl (by rw [HZS.out]; kernel_rfl) (loadErr c9), ?_⟩
      rw [HD.out]
      refine ⟨.agg Z, rfl, hRg, ?_, ⟨Z, rfl, HZS.out, fun c hc => ⟨_, HZC.out c hc, Bs.nil _, by simp [Value.ownBlock]⟩⟩⟩
      have k1 : Keep [r, q] w1 W := HT.out.kb.keep
      exact (((HK1.out.nil (S := [r])).trans k1 (fun z hz => by simp at hz; rcases hz with h | h; exact .inl (by simp [h]); exact .inr (by omega))).trans KF (fun z hz => by simp at hz; exact .inr (by omega))).trans KG hDz
  case left =>
    intro D W hD hT hK
    have hg := grownBy_putObj' W D (.deferred none)
    have h3 := hT.grown hg (fun x e => by cases e; exact ⟨hD, _, hK, rfl⟩)
    have c9 := h3.b3.cell 0 _ rfl
    simp only [List.getElem_toArray, List.getElem_cons_zero, List.getElem_cons_succ] at c9
    have hz' := HZ.out
    have k1 : Keep [r, q, p2, p3] w1 (W.putObj D (.deferred none)) := h3.kb.keep
    have k2 : Keep [r] w (W.putObj D (.deferred none)) := (HK1.out.nil (S := [r])).trans k1 (fun z hz => by simp at hz; rcases hz with h | h; exact .inl (by simp [h]); exact .inr (by omega))
    have HH3 := Lib.hid h3
    clear h3 hT hz'
    refine ⟨by simp, .inl ⟨_, _, rfl, run_takeDeferred hK, ?_⟩⟩
    refine ⟨_, results_cells2 rfl _ rfl rfl HH3.out.b2 _ Try.underlying66 rfl (by rw [HZS.out]; kernel_rfl) (loadErr c9), ?_⟩
    refine ⟨.agg Z, by rw [HH3.out.e0]; rfl, HH3.out.rd, k2, ⟨Z, rfl, HZS.out, fun c hc => ⟨_, HZC.out c hc, by rw [HH3.out.f0]; exact Bs.nil _, by simp [Value.ownBlock]⟩⟩⟩
end Go.Proofs.Yteahcpkaagjkkaa
