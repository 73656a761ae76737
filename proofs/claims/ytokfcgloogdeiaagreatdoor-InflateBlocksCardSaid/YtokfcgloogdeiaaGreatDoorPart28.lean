/- Texts put together: InfOpen InfLaw2 RefInf7 RefInf8 RefInf9 -/
import Derived.Test.YtokfcgloogdeiaaGreatDoorPart2
import Derived.Test.YtokfcgloogdeiaaGreatDoorPart12
import Derived.Test.YtokfcgloogdeiaaGreatDoorPart8
import Derived.Test.YtokfcgloogdeiaaGreatDoorPart27
import Derived.Test.YtokfcgloogdeiaaGreatDoorPart1
import Derived.Test.YtokfcgloogdeiaaGreatDoorPart3
import Derived.Deep.RegionWith
import Derived.BigQuiet
import Derived.Test.YtokfcgloogdeiaaGreatDoorPart14
import Derived.Test.YtokfcgloogdeiaaGreatDoorPart16
namespace Go.Proofs.YtokfcgloogdeiaaGreatDoor
set_option linter.unusedVariables false
set_option linter.unusedSimpArgs false
set_option maxRecDepth 100000
open Go.ChangeShapes Go.WideShapes Go.ChangeAt Go.RowKit

/-- a slice's words -/
structure SlV where
  a : Option Addr
  n : Nat
  c : Nat
def SlV.val (s : SlV) : Value := .slice s.a s.n s.c
/-- a piece's cells -/
structure PcV where
  k : Int
  b : SlV
  t : SlV
  l : SlV
  d : SlV
def PcV.cells (x : PcV) : List Value := [.int .i64 x.k, x.b.val, x.t.val, x.l.val, x.d.val]
def EP : El PcV := ⟨5, 40, 33, 104, PcV.cells⟩
theorem EP_good : EP.Good where
  pos := by decide
  len := fun _ => rfl
  one := fun x u hu => by
    simp only [EP, PcV.cells, List.mem_cons, List.mem_nil_iff, or_false] at hu
    rcases hu with rfl | rfl | rfl | rfl | rfl <;> rfl
  info := by kernel_rfl
  under := Tryz.underlying33
  small := by decide
/-- what a piece's cells are -/
structure PcOk (w : World) (x : PcV) (p : Pc) : Prop where
  k : x.k = p.kind
  wf : (Lit.int .i64 p.kind).wf = true
  b : Bs w x.b.val p.bytes
  t : Ts w x.t.val p.toks
  l : Is .i64 w x.l.val p.lit
  d : Is .i64 w x.d.val p.dist
/-- a row of pieces -/
def Pcs (w : World) (v : Value) (ps : List Pc) : Prop := ∃ xs : List PcV, Gs EP w v xs ∧ xs.length = ps.length ∧ ∀ i (h1 : i < xs.length) (h2 : i < ps.length), PcOk w xs[i] ps[i]
section
variable {H : Type} {enc : TypeId × Value → H} {W : World} {base base0 : Nat} {spare : Nat → Bool} {held : Bool} {v : Value} {d : DataW H} {p : List MemPlace}
theorem is_of_trod {u : Value} {fuel : Nat} {y : DataW H × List MemPlace} (h : DataW.trod enc Tryz.prog W base spare held fuel 38 [u] = some y) : ∃ zs, Is .i64 W u zs := by
  rcases open_ints Tryz.underlying38 Tryz.underlying3 (by kernel_rfl) h with ⟨hcs, _⟩ | ⟨x, l, c, zs, hcs, _, hl, hm, hz, _, hcell, hwz⟩
  · obtain rfl : u = .slice none 0 0 := by simpa using hcs
    exact ⟨[], none, 0, rfl, by simp, by simp [maxLen], fun _ => rfl, (fun x hx => nomatch hx), by simp⟩
  · obtain rfl : u = .slice (some x) l c := by simpa using hcs
    have hlz : l ≤ zs.length := by rw [hz]; split <;> omega
    have e : (zs.take l).length = l := by simp; omega
    refine ⟨zs.take l, some x, c, by rw [e], by rw [e]; exact hl, hm, (fun h => nomatch h), fun y hy i hi => ?_, fun z hz' => hwz z (List.mem_of_mem_take hz')⟩
    obtain rfl : x = y := by simpa using hy
    rw [e] at hi
    rw [hcell i (by omega)]
    simp [List.getD_eq_getElem?_getD, List.getElem?_eq_getElem (show i < zs.length by omega)]
open Go.Deep in
theorem sts_of_trod {t e : TypeId} {fs : Array Field} (ht : Tryz.prog.underlying t = some (.slice e)) (he : Tryz.prog.underlying e = some (.struct fs)) (hone : oneCellFields Tryz.prog fs = true) (hC : Tryz.prog.cellsOf e = fs.size)
    {u : Value} {fuel : Nat} {y : DataW H × List MemPlace} (hf : DataW.trod enc Tryz.prog W base spare held fuel t [u] = some y) :
    ∃ n C, Sts W u n fs.size C ∧ ∀ i, i < n → ∀ j f, fs[j]? = some f → ∃ (fuel : Nat) (y : DataW H × List MemPlace), DataW.trod enc Tryz.prog W base spare held fuel f.type [C i j] = some y := by
  rcases open_slice ht hf with ⟨hcs, _⟩ | ⟨a, len, cap, m, n, D, Pl, hcs, hb, hl, hm, hmm, hx, hi⟩
  · obtain rfl : u = .slice none 0 0 := by simpa using hcs
    exact ⟨0, fun _ _ => undef, ⟨none, 0, rfl, by simp, by simp [maxLen], fun _ => rfl, (fun x hx => nomatch hx)⟩, fun i hi => absurd hi (by omega)⟩
  · obtain rfl : u = .slice (some a) len cap := by simpa using hcs
    have key : ∀ i, ∃ (Ci : Nat → Value), i < len → (∀ j, j < fs.size → W.cell? (a.add (i * fs.size + j)) = some (Ci j)) ∧ ∀ j f, fs[j]? = some f → ∃ (fuel : Nat) (y : DataW H × List MemPlace), DataW.trod enc Tryz.prog W base spare held fuel f.type [Ci j] = some y := by
      intro i
      by_cases him : i < len
      · have hm2 : i < m := by rw [hmm]; split <;> omega
        obtain ⟨cs', hc, ht'⟩ := hi i hm2
        rw [hC] at hc
        obtain ⟨ys, n', hn', hy, hlen, hyl, hf⟩ := DataW.trod_struct he ht'
        obtain ⟨_, hcl, hat⟩ := World.cells?_some hc
        refine ⟨fun j => cs'.getD j undef, fun _ => ⟨fun j hj => ?_, fun j f hj => ?_⟩⟩
        · have hcell := hat j hj
          have hv : cs'[j]? = some (cs'[j]'(by omega)) := List.getElem?_eq_getElem (by omega)
          rw [← Go.Deep.add_add, hcell]; simp only [List.getD_eq_getElem?_getD]; rw [hv]; rfl
        · obtain ⟨ho, hk⟩ := hone_of hone j f hj
          have hjl : j < fs.size := (Array.getElem?_eq_some_iff.1 hj).1
          have h1 := hf j f hj
          rw [ho, hk] at h1
          have hone' : (cs'.drop j).take 1 = [cs'.getD j undef] := by
            rw [List.drop_eq_getElem_cons (by omega), List.getD_eq_getElem?_getD, List.getElem?_eq_getElem (by omega)]
            rfl
          rw [hone'] at h1
          have hys : ys[j]? = some (ys[j]'(by omega)) := List.getElem?_eq_getElem (by omega)
          exact ⟨_, _, h1.trans hys⟩
      · exact ⟨fun _ => undef, fun h => absurd h him⟩
    refine ⟨len, fun i => Classical.choose (key i), ⟨some a, cap, rfl, hl, hm, (fun h => nomatch h), fun x hx i hi j hj => ?_⟩, fun i hi => (Classical.choose_spec (key i) hi).2⟩
    obtain rfl : a = x := by simpa using hx
    exact (Classical.choose_spec (key i) hi).1 j hj
theorem ts_of_trod {u : Value} {fuel : Nat} {y : DataW H × List MemPlace} (h : DataW.trod enc Tryz.prog W base spare held fuel 37 [u] = some y) : ∃ ts, Ts W u ts := by
  obtain ⟨n, C, ⟨a, cap, rfl, h1, h2, h3, h4⟩, hf⟩ := sts_of_trod Tryz.underlying37 Tryz.underlying45 (by kernel_rfl) (by kernel_rfl) h
  have key : ∀ i, ∃ t : Tk, i < n → t.wf ∧ C i 0 = .int .u8 t.lit.toNat ∧ C i 1 = .int .i64 t.dist ∧ C i 2 = .int .i64 t.len := fun i => by
    by_cases hi : i < n
    · obtain ⟨_, _, f0⟩ := hf i hi 0 _ rfl
      obtain ⟨_, _, f1⟩ := hf i hi 1 _ rfl
      obtain ⟨_, _, f2⟩ := hf i hi 2 _ rfl
      obtain ⟨z0, e0, w0⟩ := int_of_trod Tryz.underlying5 f0
      obtain ⟨z1, e1, w1⟩ := int_of_trod Tryz.underlying3 f1
      obtain ⟨z2, e2, w2⟩ := int_of_trod Tryz.underlying3 f2
      exact ⟨⟨UInt8.ofNat z0.toNat, z1, z2⟩, fun _ => ⟨⟨w1, w2⟩, by rw [e0, u8_of_wf w0], e1, e2⟩⟩
    · exact ⟨default, fun h => absurd h hi⟩
  obtain ⟨f, hF⟩ : ∃ f : Nat → Tk, ∀ i, i < n → (f i).wf ∧ C i 0 = .int .u8 (f i).lit.toNat ∧ C i 1 = .int .i64 (f i).dist ∧ C i 2 = .int .i64 (f i).len := ⟨fun i => Classical.choose (key i), fun i => Classical.choose_spec (key i)⟩
  refine ⟨(List.range n).map f, a, cap, by simp, by simpa using h1, h2, h3, fun x hx j hj => ?_, fun t ht => ?_⟩
  · have hj' : j < n * 3 := by simpa using hj
    obtain ⟨i, m, hi, hm, rfl⟩ : ∃ i m, i < n ∧ m < 3 ∧ j = i * 3 + m := ⟨j / 3, j % 3, by omega, by omega, by omega⟩
    have hil : i < ((List.range n).map f).length := by simpa using hi
    obtain ⟨g1, g2, g3⟩ := tcells_get _ i hil
    obtain ⟨_, s1, s2, s3⟩ := hF i hi
    simp only [List.getElem_map, List.getElem_range] at g1 g2 g3
    have hc := h4 x hx i hi m hm
    change W.cell? (x.add (i * 3 + m)) = _ at hc
    rw [hc]
    obtain rfl | rfl | rfl : m = 0 ∨ m = 1 ∨ m = 2 := by omega
    · rw [Nat.add_zero, g1, s1]
    · rw [g2, s2]
    · rw [g3, s3]
  · simp only [List.mem_map, List.mem_range] at ht
    obtain ⟨i, hi, rfl⟩ := ht
    exact (hF i hi).1
theorem Bs.slv {w : World} {v : Value} {l : List UInt8} (h : Bs w v l) : ∃ s : SlV, v = s.val := by
  obtain ⟨a, c, hv, _⟩ := h.shape
  exact ⟨⟨a, l.length, c⟩, hv⟩
theorem Is.slv {w : World} {v : Value} {l : List Int} (h : Is .i64 w v l) : ∃ s : SlV, v = s.val := by
  obtain ⟨a, c, hv, _⟩ := h.sh
  exact ⟨⟨a, l.length, c⟩, hv⟩
theorem Ts.slv {w : World} {v : Value} {l : List Tk} (h : Ts w v l) : ∃ s : SlV, v = s.val := by
  obtain ⟨a, c, hv, _⟩ := h
  exact ⟨⟨a, l.length, c⟩, hv⟩
theorem open_pcs (hv : Value.okWide Tryz.prog W .any base0 33 v) (h : DataW.Trod enc Tryz.prog W base spare held 33 v d p) : ∃ ps, Pcs W v ps := by
  obtain ⟨n, C, ⟨a, cap, rfl, h1, h2, h3, h4⟩, hf⟩ := open_sts Tryz.underlying33 Tryz.underlying40 (by kernel_rfl) (by kernel_rfl) hv h
  have key : ∀ i, ∃ (x : PcV) (q : Pc), i < n → PcOk W x q ∧ C i 0 = .int .i64 x.k ∧ C i 1 = x.b.val ∧ C i 2 = x.t.val ∧ C i 3 = x.l.val ∧ C i 4 = x.d.val := fun i => by
    by_cases hi : i < n
    · obtain ⟨_, _, f0⟩ := hf i hi 0 _ rfl
      obtain ⟨_, _, f1⟩ := hf i hi 1 _ rfl
      obtain ⟨_, _, f2⟩ := hf i hi 2 _ rfl
      obtain ⟨_, _, f3⟩ := hf i hi 3 _ rfl
      obtain ⟨_, _, f4⟩ := hf i hi 4 _ rfl
      obtain ⟨z0, e0, w0⟩ := int_of_trod Tryz.underlying3 f0
      obtain ⟨l1, g1⟩ := bs_of_trod f1
      obtain ⟨l2, g2⟩ := ts_of_trod f2
      obtain ⟨l3, g3⟩ := is_of_trod f3
      obtain ⟨l4, g4⟩ := is_of_trod f4
      obtain ⟨s1, e1⟩ := g1.slv
      obtain ⟨s2, e2⟩ := g2.slv
      obtain ⟨s3, e3⟩ := g3.slv
      obtain ⟨s4, e4⟩ := g4.slv
      rw [e1] at g1; rw [e2] at g2; rw [e3] at g3; rw [e4] at g4
      exact ⟨⟨z0, s1, s2, s3, s4⟩, ⟨z0, l1, l2, l3, l4⟩, fun _ => ⟨⟨rfl, w0, g1, g2, g3, g4⟩, e0, e1, e2, e3, e4⟩⟩
    · exact ⟨⟨0, ⟨none, 0, 0⟩, ⟨none, 0, 0⟩, ⟨none, 0, 0⟩, ⟨none, 0, 0⟩⟩, ⟨0, [], [], [], []⟩, fun h => absurd h hi⟩
  obtain ⟨f, g, hF⟩ : ∃ (f : Nat → PcV) (g : Nat → Pc), ∀ i, i < n → PcOk W (f i) (g i) ∧ C i 0 = .int .i64 (f i).k ∧ C i 1 = (f i).b.val ∧ C i 2 = (f i).t.val ∧ C i 3 = (f i).l.val ∧ C i 4 = (f i).d.val :=
    ⟨fun i => Classical.choose (key i), fun i => Classical.choose (Classical.choose_spec (key i)), fun i => Classical.choose_spec (Classical.choose_spec (key i))⟩
  refine ⟨(List.range n).map g, (List.range n).map f, ⟨a, cap, by simp, by simpa using h1, h2, h3, fun x hx j hj => ?_⟩, by simp, fun i i1 i2 => ?_⟩
  · have hj' : j < n * 5 := by simpa [EP] using hj
    obtain ⟨i, m, hi, hm, rfl⟩ : ∃ i m, i < n ∧ m < 5 ∧ j = i * 5 + m := ⟨j / 5, j % 5, by omega, by omega, by omega⟩
    have hil : i < ((List.range n).map f).length := by simpa using hi
    have hg := El.cells_get EP_good ((List.range n).map f) i m hil hm
    obtain ⟨_, s0, s1, s2, s3, s4⟩ := hF i hi
    have hc := h4 x hx i hi m hm
    change W.cell? (x.add (i * 5 + m)) = _ at hc
    rw [hc]
    rw [show (i * 5 + m) = i * EP.sz + m from rfl, hg]
    simp only [List.getElem_map, List.getElem_range]
    obtain rfl | rfl | rfl | rfl | rfl : m = 0 ∨ m = 1 ∨ m = 2 ∨ m = 3 ∨ m = 4 := by omega
    · exact congrArg some s0
    · exact congrArg some s1
    · exact congrArg some s2
    · exact congrArg some s3
    · exact congrArg some s4
  · simp only [List.getElem_map, List.getElem_range]
    exact (hF i (by simpa using i1)).1
end
end Go.Proofs.YtokfcgloogdeiaaGreatDoor
namespace Go.Proofs.YtokfcgloogdeiaaGreatDoor
set_option linter.unusedVariables false
set_option linter.unusedSimpArgs false
set_option maxRecDepth 100000
open Go.ChangeShapes Go.WideShapes Go.ChangeAt Go.RowKit

/-- Cut answers one slice in all worlds -/
theorem cut_fix (w0 : World) (v : Value) (l : List UInt8) (n : Nat) (hn : n ≤ 9223372036854775807) (h0 : Bs w0 v l) : ∃ s : SlV, (∀ w, Bs w v l → Bs w s.val (l.take n)) ∧ ∀ w, Bs w v l → Calls Tryz.prog 6 #[v, .int .i64 n] w fun e w' => e = .returned s.val ∧ w = w' := by
  obtain ⟨a, cap, rfl, h1, h2, -⟩ := h0
  unfold maxLen at h2
  by_cases hl : n < l.length
  · have e : (l.take n).length = n := by rw [List.length_take]; omega
    refine ⟨⟨a, n, cap⟩, fun w h => ?_, fun w h => ?_⟩
    · obtain ⟨a', cap', hv, h1, h2, h3, h4⟩ := h
      simp only [Value.slice.injEq] at hv
      obtain ⟨rfl, _, rfl⟩ := hv
      refine ⟨a, cap, by rw [e]; rfl, by omega, h2, h3, fun x hx i hi => ?_⟩
      rw [e] at hi
      rw [h4 x hx i (by omega)]; simp
    · clear h
      show Calls Tryz.prog 6 #[.slice a l.length cap, .int .i64 n] w fun e w' => e = .returned (.slice a n cap) ∧ w = w'
      go_enter Tryz.func6, Tryz.ntmps6
      go_wp2
      go_ret
      exact ⟨rfl, rfl⟩
  · have ht : Hid (l.take n = l) := List.take_of_length_le (by omega)
    refine ⟨⟨a, l.length, cap⟩, fun w h => by rw [ht.out]; exact h, fun w h => ?_⟩
    clear h
    show Calls Tryz.prog 6 #[.slice a l.length cap, .int .i64 n] w fun e w' => e = .returned (.slice a l.length cap) ∧ w = w'
    go_enter Tryz.func6, Tryz.ntmps6
    go_wp2
    go_ret
    exact ⟨rfl, rfl⟩
theorem ints_fix (w0 : World) (v : Value) (zs : List Int) (n : Nat) (hn : n ≤ 9223372036854775807) (h0 : Is .i64 w0 v zs) : ∃ s : SlV, (∀ w, Is .i64 w v zs → Is .i64 w s.val (zs.take n)) ∧ ∀ w, Calls Tryz.prog 39 #[v, .int .i64 n] w fun e w' => e = .returned s.val ∧ w = w' := by
  obtain ⟨a, cap, rfl, h1, h2, -⟩ := h0
  unfold maxLen at h2
  by_cases hl : n < zs.length
  · have e : (zs.take n).length = n := by rw [List.length_take]; omega
    refine ⟨⟨a, n, cap⟩, fun w h => ?_, fun w => ?_⟩
    · obtain ⟨a', cap', hv, h1, h2, h3, h4, h5⟩ := h
      simp only [Value.slice.injEq] at hv
      obtain ⟨rfl, _, rfl⟩ := hv
      refine ⟨a, cap, by rw [e]; rfl, by omega, h2, h3, fun x hx i hi => ?_, fun z hz => h5 z (List.mem_of_mem_take hz)⟩
      rw [e] at hi
      rw [h4 x hx i (by omega)]; simp
    · show Calls Tryz.prog 39 #[.slice a zs.length cap, .int .i64 n] w fun e w' => e = .returned (.slice a n cap) ∧ w = w'
      go_enter Tryz.func39, Tryz.ntmps39
      go_wp2
      go_ret
      exact ⟨rfl, rfl⟩
  · have ht : Hid (zs.take n = zs) := List.take_of_length_le (by omega)
    refine ⟨⟨a, zs.length, cap⟩, fun w h => by rw [ht.out]; exact h, fun w => ?_⟩
    show Calls Tryz.prog 39 #[.slice a zs.length cap, .int .i64 n] w fun e w' => e = .returned (.slice a zs.length cap) ∧ w = w'
    go_enter Tryz.func39, Tryz.ntmps39
    go_wp2
    go_ret
    exact ⟨rfl, rfl⟩
/-- a piece that isn't too long -/
def fwP (p : Pc) : Pc := ⟨if (p.lit.take 286).length < 257 ∨ (p.dist.take 32).length < 1 then max 0 (min p.kind 1) else p.kind, p.bytes.take 100, fewT p.toks 25 70000, p.lit.take 286, p.dist.take 32⟩
/-- a row of pieces of one's own, a row of tokens of one's own -/
def Ob.pcs (v : Value) (xs : List PcV) : Ob where
  P w bs := bs = v.ownBlock.toList ∧ OwnG EP w v xs
  keep := fun ⟨h1, h2⟩ k hb => ⟨h1, h2.keep k (fun b hb' => hb b (by rw [h1]; simp [hb']))⟩
  lt := fun {w bs} ⟨h1, h2⟩ b hb => by subst h1; exact h2.lt b (by simpa using hb)
def Ob.tks (v : Value) (ts : List Tk) : Ob where
  P w bs := bs = v.ownBlock.toList ∧ OwnT w v ts
  keep := fun ⟨h1, h2⟩ k hb => ⟨h1, h2.keep k (fun b hb' => hb b (by rw [h1]; simp [hb']))⟩
  lt := fun {w bs} ⟨h1, h2⟩ b hb => by subst h1; exact h2.lt b (by simpa using hb)
/-- an element's cells stand for a piece, in all worlds that hold the old memory; its tokens are in a row of their own -/
structure FwE (W : World) (x : PcV) (o : SlV × List Tk) (p : Pc) : Prop where
  k : x.k = (fwP p).kind
  wf : (Lit.int .i64 (fwP p).kind).wf = true
  b : ∀ w, Keep [] W w → Bs w x.b.val (fwP p).bytes
  t : x.t = o.1
  ts : o.2 = (fwP p).toks
  l : ∀ w, Keep [] W w → Is .i64 w x.l.val (fwP p).lit
  d : ∀ w, Keep [] W w → Is .i64 w x.d.val (fwP p).dist
def tkO (o : SlV × List Tk) : Ob := Ob.tks o.1.val o.2
theorem kindP_wf (p : Pc) (h : (Lit.int .i64 p.kind).wf = true) : (Lit.int .i64 (fwP p).kind).wf = true := by
  unfold fwP
  dsimp only
  split
  · simp [Lit.wf, IntKind.min, IntKind.max, IntKind.bits, IntKind.signed]; omega
  · exact h
theorem at_mid (Ps Qs : List Ob) (B : Ob) : ((Ps ++ [B]) ++ Qs)[Ps.length]? = some B := by simp
theorem at_end (Ps : List Ob) (B : Ob) : (Ps ++ [B])[Ps.length]? = some B := by simp
theorem set_mid (Ps Qs : List Ob) (B C : Ob) : ((Ps ++ [B]) ++ Qs).set Ps.length C = (Ps ++ [C]) ++ Qs := by
  rw [List.set_append_left _ _ (by simp), List.set_append_right _ _ (Nat.le_refl _)]; simp
theorem OwnT.slv {w : World} {v : Value} {l : List Tk} (h : OwnT w v l) : ∃ s : SlV, v = s.val := h.ts.slv
set_option maxHeartbeats 8000000 in
theorem few18_c (W : World) (v : Value) (ps : List Pc) (h : Pcs W v ps) : Calls Tryz.prog 13 #[v] W fun e w' => ∃ v', e = .returned v' ∧ Pcs w' v' ((ps.take 5).map fwP) ∧ Keep [] W w' := by
  obtain ⟨xs0, hg, hl, hx⟩ := h
  obtain ⟨a, c, rfl, _⟩ := hg.sh
  rw [hl] at hg ⊢
  have HG := Lib.hid hg; have HX := Lib.hid hx; have HL := Lib.hid hl
  clear hg hx hl
  go_enter Tryz.func13, Tryz.ntmps13
  go_wp2_with fail
  go_loopw [3, 4] (fun ov iv wr => ∃ (k : Nat) (xs : List PcV) (os : List (SlV × List Tk)) (a7 : Option Addr) (c7 : Nat), k ≤ ps.length ∧ k ≤ 5 ∧ iv = .int .i64 k ∧ ov = .slice a7 k c7 ∧ Hid (xs.length = k) ∧ Hid (os.length = k) ∧
      Hid (∀ i (h1 : i < xs.length) (h2 : i < os.length) (h3 : i < ps.length), FwE W xs[i] os[i] ps[i]) ∧ Hid (St W wr (Ob.pcs (.slice a7 k c7) xs :: os.map tkO)))
    (fun _ iv _ => 5 - (intOf iv).toNat)
  case atStart =>
    refine ⟨0, [], [], none, 0, Nat.zero_le _, by omega, rfl, rfl, rfl, rfl, fun i h1 => by simp at h1, ?_⟩
    exact (St.nil W).push (Ob.pcs (.slice none 0 0) []) [] ⟨rfl, OwnG.nil _ _⟩ (Keep.refl _ _) (by simp)
  case round =>
    obtain ⟨k, xs, os, a7, c7, hk, hk5, rfl, rfl, HXL, HOL, HF, HS⟩ := hrel
    by_cases hlt : k < ps.length ∧ k < 5
    · obtain ⟨hlt, hlt5⟩ := hlt
      have t1 : decide ((k : Int) < (ps.length : Int)) = true := by simp; omega
      have t2 : decide ((k : Int) < 5) = true := by simp; omega
      have z1 : (k : Int) < (ps.length : Int) := by omega
      have z2 : (k : Int) < 5 := by omega
      have hk0 : k < xs0.length := by have := HL.out; omega
      have HPK := Lib.hid (HX.out k hk0 hlt)
      obtain ⟨b, off, cap, hv, hcell⟩ := HG.out.at EP_good k hk0
      simp only [Value.slice.injEq] at hv
      obtain ⟨rfl, hv2, rfl⟩ := hv
      have hcell2 : ∀ j, j < 5 → wr.cell? ⟨b, off + (k * 5 + j), none⟩ = xs0[k].cells[j]? := fun j hj => by
        have hc := hcell j hj
        have hj' : j < xs0[k].cells.length := hj
        rw [show (EP.enc xs0[k]) = xs0[k].cells from rfl, List.getElem?_eq_getElem hj'] at hc
        rw [List.getElem?_eq_getElem hj']
        exact HS.out.kp.cell hc (by simp)
      have c0 := hcell2 0 (by omega)
      have c1 := hcell2 1 (by omega)
      have c2 := hcell2 2 (by omega)
      have c3 := hcell2 3 (by omega)
      have c4 := hcell2 4 (by omega)
      clear hv2 hcell hcell2
      have hfk := kindP_wf ps[k] HPK.out.wf
      obtain ⟨p, hp⟩ : ∃ p, ps[k] = p := ⟨_, rfl⟩
      obtain ⟨x, hxk⟩ : ∃ x, xs0[k] = x := ⟨_, rfl⟩
      have hpk := HPK.out
      rw [hp, hxk] at hpk
      rw [hp] at hfk
      rw [hxk] at c0 c1 c2 c3 c4
      have e0 : wr.cell? ⟨b, off + k * 5, none⟩ = some (.int .i64 x.k) := c0
      have e1 : wr.cell? ⟨b, off + k * 5 + 1, none⟩ = some x.b.val := by rw [Nat.add_assoc]; exact c1
      have e2 : wr.cell? ⟨b, off + k * 5 + 2, none⟩ = some x.t.val := by rw [Nat.add_assoc]; exact c2
      have e3 : wr.cell? ⟨b, off + k * 5 + 3, none⟩ = some x.l.val := by rw [Nat.add_assoc]; exact c3
      have e4 : wr.cell? ⟨b, off + k * 5 + 4, none⟩ = some x.d.val := by rw [Nat.add_assoc]; exact c4
      clear c0 c1 c2 c3 c4
      obtain ⟨xk, ⟨ba, bn, bc⟩, ⟨ta, tn, tc⟩, ⟨la, ln, lc⟩, ⟨da, dn, dc⟩⟩ := x
      obtain ⟨pk, pw, pb, pt, pl, pd⟩ := hpk
      have pk : xk = p.kind := pk
      subst pk
      simp only [SlV.val] at e1 e2 e3 e4 pb pt pl pd
      have HP := Lib.hid hp
      obtain ⟨sb, fb1, fb2⟩ := cut_fix W (.slice ba bn bc) p.bytes 100 (by decide) pb
      obtain ⟨sl, fl1, fl2⟩ := ints_fix W (.slice la ln lc) p.lit 286 (by decide) pl
      obtain ⟨sd, fd1, fd2⟩ := ints_fix W (.slice da dn dc) p.dist 32 (by decide) pd
      obtain ⟨sba, sbn, sbc⟩ := sb
      obtain ⟨sla, sln', slc⟩ := sl
      obtain ⟨sda, sdn, sdc⟩ := sd
      simp only [SlV.val] at fb1 fb2 fl1 fl2 fd1 fd2
      have hft := fun w (k : Keep [] W w) => reffew8_c w (.slice ta tn tc) p.toks 25 70000 (by decide) (by decide) (pt.keep k (by simp))
      have e100 : ((100 : Nat) : Int) = 100 := rfl
      have e286 : ((286 : Nat) : Int) = 286 := rfl
      have e32 : ((32 : Nat) : Int) = 32 := rfl
      have e25 : ((25 : Nat) : Int) = 25 := rfl
      rw [e100] at fb2
      rw [e286] at fl2
      rw [e32] at fd2
      rw [e25] at hft
      clear e100 e286 e32 e25
      have HB := Lib.hid (fun w (k : Keep [] W w) => fb1 w (pb.keep k (by simp)))
      have HCB := Lib.hid (fun w (k : Keep [] W w) => fb2 w (pb.keep k (by simp)))
      have HLL := Lib.hid (fun w (k : Keep [] W w) => fl1 w (pl.keep k (by simp)))
      have HDD := Lib.hid (fun w (k : Keep [] W w) => fd1 w (pd.keep k (by simp)))
      have HCL := Lib.hid fl2
      have HCD := Lib.hid fd2
      have HFT := Lib.hid hft
      clear hft
      have HFK := Lib.hid hfk
      clear fb1 fb2 fl1 fl2 fd1 fd2 HPK hp hxk pb pt pl pd hfk
      have s2 := HS.out.pushBox #[.int .i64 p.kind, .slice ba bn bc, .slice ta tn tc, .slice la ln lc, .slice da dn dc] 40
      obtain ⟨q, hq⟩ : ∃ q, wr.heap.size = q := ⟨_, rfl⟩
      have HQ := Lib.hid hq
      rw [hq] at s2
      have HS2 := Lib.hid s2
      clear s2 hq HS
      go_upto_region 6 with fail
      rw [HQ.out]
      generalize wr.alloc (.cells #[.int .i64 p.kind, .slice ba bn bc, .slice ta tn tc, .slice la ln lc, .slice da dn dc] 40) = w5 at HS2 ⊢
      have HS2 : Hid (St W w5 ((Ob.pcs (.slice a7 k c7) xs :: os.map tkO) ++ [Ob.box q #[.int .i64 p.kind, .slice ba bn bc, .slice ta tn tc, .slice la ln lc, .slice da dn dc] 40])) := HS2.out
      clear e0 e1 e2 e3 e4
      obtain ⟨Ps, hPs⟩ : ∃ Ps, Ob.pcs (.slice a7 k c7) xs :: os.map tkO = Ps := ⟨_, rfl⟩
      rw [hPs] at HS2
      have HPs := Lib.hid hPs
      clear hPs
      go_cut [] (fun wx => ∃ st : SlV, St W wx ((Ps ++ [Ob.box q #[.int .i64 p.kind, .slice sba sbn sbc, st.val, .slice la ln lc, .slice da dn dc] 40]) ++ [Ob.tks st.val (fewT p.toks 25 70000)]))
      case first =>
        have b5 := HS2.out.blk Ps.length (at_end ..)
        have c1 := b5.cell 1 _ rfl
        have c2 := b5.cell 2 _ rfl
        have K5 := Lib.hid (HS2.out.kp.drew)
        clear b5
        go_region_with (first
          | (go_at_call 6; (with_reducible refine (HCB.out _ (by first | exact K6.out | exact K5.out)).mono ?_); (rintro e wA ⟨rfl, rfl⟩))
          | (go_at_call 38; (with_reducible refine (HFT.out _ K5.out).mono ?_); (rintro e w6 ⟨v6, rfl, ho, k6, f6⟩); (obtain ⟨⟨a6, n6, c6⟩, rfl⟩ := ho.slv); (have s6 := HS2.out.push (Ob.tks (SlV.val ⟨a6, n6, c6⟩) (fewT p.toks 25 70000)) _ ⟨rfl, ho⟩ (((Keep.refl [] w5).drew).trans k6 (by simp)) (fun b hb => f6 b (by simpa using hb))); (simp only [SlV.val]); (have K6 := Lib.hid s6.kp); (have b6 := s6.blk Ps.length (at_mid ..)); (have d1 := b6.cell 1 _ rfl); (have d2 := b6.cell 2 _ rfl); (have f1 := b6.free 1); (have f2 := b6.free 2); (have s7 := s6.setBox Ps.length (at_mid ..) 1 (.slice sba sbn sbc)); (rw [set_mid] at s7); (have d3 := (s7.blk Ps.length (at_mid ..)).cell 2 _ rfl); (have f3 := (s7.blk Ps.length (at_mid ..)).free 2); (have s8 := s7.setBox Ps.length (at_mid ..) 2 (.slice a6 n6 c6)); (rw [set_mid] at s8); (have HS8 := Lib.hid s8); (clear s6 s7 s8 b6 ho k6 f6)))
        all_goals
          go_wp2_with fail
          go_meet
          exact ⟨⟨a6, n6, c6⟩, HS8.out⟩
      case rest =>
      clear HS2 HFT HCB
      obtain ⟨⟨a6, n6, c6⟩, h6⟩ := hcut
      simp only [SlV.val] at h6
      have h6 : St W wc ((Ps ++ [Ob.box q #[.int .i64 p.kind, .slice sba sbn sbc, .slice a6 n6 c6, .slice la ln lc, .slice da dn dc] 40]) ++ [Ob.tks (.slice a6 n6 c6) (fewT p.toks 25 70000)]) := h6
      have HS6 := Lib.hid h6
      have b6 := h6.blk Ps.length (at_mid ..)
      have c3 := b6.cell 3 _ rfl
      have c4 := b6.cell 4 _ rfl
      have hlL : sln' = (p.lit.take 286).length := by obtain ⟨a, c, hv, _⟩ := (HLL.out W (Keep.refl _ _)).sh; simp only [Value.slice.injEq] at hv; exact hv.2.1
      have hlD : sdn = (p.dist.take 32).length := by obtain ⟨a, c, hv, _⟩ := (HDD.out W (Keep.refl _ _)).sh; simp only [Value.slice.injEq] at hv; exact hv.2.1
      have HlL := Lib.hid hlL; have HlD := Lib.hid hlD
      clear h6 b6 hlL hlD
      go_upto_region 7 with fail
      go_cut [] (fun wx => St W wx ((Ps ++ [Ob.box q #[.int .i64 p.kind, .slice sba sbn sbc, .slice a6 n6 c6, .slice sla sln' slc, .slice sda sdn sdc] 40]) ++ [Ob.tks (.slice a6 n6 c6) (fewT p.toks 25 70000)]))
      case first =>
        have h6 := HS6.out.read ((Keep.refl [] wc).drew)
        have b6 := HS6.out.blk Ps.length (at_mid ..)
        have f3 := b6.free 3
        have f4 := b6.free 4
        have s7 := h6.setBox Ps.length (at_mid ..) 3 (.slice sla sln' slc)
        rw [set_mid] at s7
        have s8 := s7.setBox Ps.length (at_mid ..) 4 (.slice sda sdn sdc)
        rw [set_mid] at s8
        have HS8 := Lib.hid s8
        clear s7 s8 h6 b6
        go_region_with (first
          | (go_at_call 39; (with_reducible refine (HCL.out _).mono ?_); (rintro e wA ⟨rfl, rfl⟩))
          | (go_at_call 39; (with_reducible refine (HCD.out _).mono ?_); (rintro e wA ⟨rfl, rfl⟩)))
        all_goals
          go_wp2_with fail
          go_meet
          exact HS8.out
      case rest =>
      clear HS6 c3 c4 HCL HCD
      generalize wc = w8 at *
      have b8 := hcut.blk Ps.length (at_mid ..)
      have c0 := b8.cell 0 _ rfl
      have c3 := b8.cell 3 _ rfl
      have c4 := b8.cell 4 _ rfl
      have f0 := b8.free 0
      have HS8 := Lib.hid hcut
      have hkd : (fwP p).kind = if sln' < 257 ∨ sdn < 1 then max 0 (min p.kind 1) else p.kind := by unfold fwP; rw [HlL.out, HlD.out]
      obtain ⟨K, hK⟩ : ∃ K, (fwP p).kind = K := ⟨_, rfl⟩
      rw [hK] at hkd HFK
      have HK0 := Lib.hid hK
      have HKD := Lib.hid hkd
      have s9 := hcut.setBox Ps.length (at_mid ..) 0 (.int .i64 (max 0 (min p.kind 1)))
      rw [set_mid] at s9
      have HS9 := Lib.hid s9
      clear hkd hK b8 hcut s9
      obtain ⟨bz, hbz⟩ : ∃ bz : Bool, bz = true ↔ (sln' < 257 ∨ sdn < 1) := ⟨decide (sln' < 257 ∨ sdn < 1), decide_eq_true_iff⟩
      have HBZ := Lib.hid hbz
      clear hbz
      go_upto_region 8 with fail
      go_cut [45] (fun cv wx => cv = .bool bz ∧ wx = w8)
      case first =>
        by_cases h1 : sln' < 257
        · have hb : bz = true := HBZ.out.2 (.inl h1)
          subst hb
          have t5 : decide ((sln' : Int) < 257) = true := by simp; omega
          have t6 : decide (sln' < 257) = true := by simpa using h1
          clear h1
          go_wp2_with fail
          go_meet
          exact ⟨rfl, rfl⟩
        · have t5 : decide ((sln' : Int) < 257) = false := by simp; omega
          have t6 : decide (sln' < 257) = false := by simpa using h1
          by_cases h2 : sdn < 1
          · have hb : bz = true := HBZ.out.2 (.inr h2)
            subst hb
            have t7 : decide ((sdn : Int) < 1) = true := by simp; omega
            have t8 : decide (sdn < 1) = true := by simpa using h2
            clear h1 h2
            go_wp2_with fail
            go_meet
            exact ⟨rfl, rfl⟩
          · have hb : bz = false := by cases bz with | true => exact absurd (HBZ.out.1 rfl) (by omega) | false => rfl
            subst hb
            have t7 : decide ((sdn : Int) < 1) = false := by rw [decide_eq_false_iff_not]; omega
            have t8 : decide (sdn < 1) = false := by rw [decide_eq_false_iff_not]; exact h2
            clear h1 h2
            go_wp2_with fail
            go_meet
            exact ⟨rfl, rfl⟩
      case rest =>
      obtain ⟨rfl, hwc⟩ := hcut
      have h := hwc.symm; subst h
      clear hwc c3 c4
      go_upto_if 45 with fail
      go_cut [] (fun wx => St W wx ((Ps ++ [Ob.box q #[.int .i64 K, .slice sba sbn sbc, .slice a6 n6 c6, .slice sla sln' slc, .slice sda sdn sdc] 40]) ++ [Ob.tks (.slice a6 n6 c6) (fewT p.toks 25 70000)]))
      case first =>
        cases bz with
        | true =>
          have hk : K = max 0 (min p.kind 1) := by have := HKD.out; rw [if_pos (HBZ.out.1 rfl)] at this; exact this
          have HKE := Lib.hid hk
          clear hk HFK HK0
          go_wp2_with fail
          refine (within_c p.kind 0 1 _ (by omega)).mono ?_; rintro e wA ⟨rfl, rfl⟩
          go_wp2_with fail
          go_meet
          rw [HKE.out]
          exact HS9.out
        | false =>
          have hk : K = p.kind := by have := HKD.out; rw [if_neg (fun h => by simpa using HBZ.out.2 h)] at this; exact this
          have HKE := Lib.hid hk
          clear hk HFK HK0
          go_wp2_with fail
          go_meet
          rw [HKE.out]
          exact HS8.out
      case rest =>
      clear HS8 HS9 c0 f0 HKD HBZ
      obtain ⟨xn, hxn⟩ : ∃ xn : PcV, xn = ⟨K, ⟨sba, sbn, sbc⟩, ⟨a6, n6, c6⟩, ⟨sla, sln', slc⟩, ⟨sda, sdn, sdc⟩⟩ := ⟨_, rfl⟩
      have hxc : [Value.int .i64 K, .slice sba sbn sbc, .slice a6 n6 c6, .slice sla sln' slc, .slice sda sdn sdc] = EP.cells [xn] := by rw [hxn]; rfl
      have hfe : FwE W xn (⟨a6, n6, c6⟩, fewT p.toks 25 70000) p := by
        rw [hxn]
        exact ⟨HK0.out.symm, by rw [HK0.out]; exact HFK.out, HB.out, rfl, rfl, HLL.out, HDD.out⟩
      have HFE := Lib.hid hfe
      have b9 := hcut.blk Ps.length (at_mid ..)
      have c0 := b9.cell 0 _ rfl
      have c1 := b9.cell 1 _ rfl
      have c2 := b9.cell 2 _ rfl
      have c3 := b9.cell 3 _ rfl
      have c4 := b9.cell 4 _ rfl
      have s10 := hcut.read ((Keep.refl [] wc).alloc (.cells #[.int .i64 K, .slice sba sbn sbc, .slice a6 n6 c6, .slice sla sln' slc, .slice sda sdn sdc] 40))
      have hsrc : Gs EP (wc.alloc (.cells #[.int .i64 K, .slice sba sbn sbc, .slice a6 n6 c6, .slice sla sln' slc, .slice sda sdn sdc] 40)) (.slice (some ⟨wc.heap.size, 0, none⟩) 1 1) [xn] := Gs.lit EP_good [xn] 1 (Blk.new wc _ _) hxc rfl (by unfold maxLen; omega)
      rw [← HPs.out] at s10
      obtain ⟨bs0, ⟨rfl, hown⟩, -, hset⟩ := s10.focus 0 rfl
      have hlen1 : xs.length + [xn].length ≤ 140000000000 := by have := HXL.out; simp; omega
      have HSET := Lib.hid hset
      clear hxn hxc hfe b9 hset s10 hcut
      go_wp2_with (at_builtin; (refine wpList_appendG EP_good (.tmp 50) (.tmp 52) rfl rfl (.slice a7 k c7) xs rfl hown (.slice (some ⟨wc.heap.size, 0, none⟩) 1 1) [xn] rfl hsrc hlen1 ?_); (intro v' w' h1 h2 h3))
      have s11 := HSET.out w' (Ob.pcs v' (xs ++ [xn])) v'.ownBlock.toList ⟨rfl, h1⟩ h2 (fun b hb => by
        rcases h3 b (by simpa using hb) with h | h
        · exact .inl (by simp [h])
        · exact .inr (by omega))
      have s12 : St W w' (Ob.pcs v' (xs ++ [xn]) :: (os ++ [((⟨a6, n6, c6⟩ : SlV), fewT p.toks 25 70000)]).map tkO) := by
        have := St.cut (Ob.pcs v' (xs ++ [xn]) :: os.map tkO) [_] [Ob.tks (.slice a6 n6 c6) (fewT p.toks 25 70000)] s11
        rw [List.map_append]
        exact this
      have HS12 := Lib.hid s12
      have hl1 : (xs ++ [xn]).length = k + 1 := by have := HXL.out; simp; omega
      rcases h1.shape with ⟨_, hne⟩ | ⟨g, cg, rfl, _, _⟩
      · rw [hne] at hl1; simp at hl1
      rw [hl1] at HS12 ⊢
      have HL1 := Lib.hid hl1
      clear h1 h2 h3 s11 s12 hl1 c0 c1 c2 c3 c4 hsrc hown hlen1
      go_wp2_with fail
      go_roundw
      case rel =>
        refine ⟨k + 1, by omega, by omega, by first | rfl | simp, xs ++ [xn], os ++ [((⟨a6, n6, c6⟩ : SlV), fewT p.toks 25 70000)], some ⟨g, 0, none⟩, cg, by first | rfl | exact ⟨rfl, rfl⟩ | simp, HL1.out, ?_, ?_, HS12.out⟩
        · show (os ++ [_]).length = k + 1
          have := HOL.out; simp; omega
        · intro i i1 i2 i3
          have e1 := HXL.out
          have e2 := HOL.out
          by_cases hik : i < k
          · rw [List.getElem_append_left (by omega), List.getElem_append_left (by omega)]
            exact HF.out i (by omega) (by omega) i3
          · have hl1 := HL1.out
            obtain rfl : i = k := by omega
            rw [List.getElem_append_right (by omega), List.getElem_append_right (by omega)]
            simp only [e1, e2, Nat.sub_self, List.getElem_singleton]
            rw [HP.out]
            exact HFE.out
      case measure => simp [intOf]; omega
    · have hex : decide ((k : Int) < (ps.length : Int)) = false ∨ (decide ((k : Int) < (ps.length : Int)) = true ∧ decide ((k : Int) < 5) = false) := by
        by_cases h1 : k < ps.length
        · exact .inr ⟨by simp; omega, by rw [decide_eq_false_iff_not]; omega⟩
        · exact .inl (by rw [decide_eq_false_iff_not]; omega)
      have hP : Pcs wr (.slice a7 k c7) ((ps.take 5).map fwP) := by
        have e1 := HXL.out
        have e2 := HOL.out
        have hkk : ((ps.take 5).map fwP).length = k := by simp; omega
        obtain ⟨bs, ⟨_, hown⟩, _⟩ := HS.out.get 0 rfl
        refine ⟨xs, hown.gs, by omega, fun i i1 i2 => ?_⟩
        have hi3 : i < ps.length := by omega
        obtain ⟨k1, k2, k3, k4, k5, k6, k7⟩ := HF.out i i1 (by omega) hi3
        have hpi : ((ps.take 5).map fwP)[i] = fwP ps[i] := by simp
        rw [hpi]
        have hoi : (Ob.pcs (.slice a7 k c7) xs :: os.map tkO)[i + 1]? = some (tkO (os[i]'(by omega))) := by
          rw [List.getElem?_cons_succ, List.getElem?_map, List.getElem?_eq_getElem (by omega)]; rfl
        obtain ⟨bs2, ⟨_, htk⟩, _⟩ := HS.out.get (i + 1) hoi
        exact ⟨k1, k2, k3 wr HS.out.kp, by rw [k4, ← k5]; exact htk.ts, k6 wr HS.out.kp, k7 wr HS.out.kp⟩
      have HP := Lib.hid hP
      have HK := Lib.hid HS.out.kp
      clear hP hlt
      rcases hex with t1 | ⟨t1, t2⟩
      · have z1 : ¬ (k : Int) < (ps.length : Int) := by simpa using t1
        go_wp2_with fail
        go_ret
        exact ⟨_, rfl, by first | exact HP.out | (have h := HP.out; rw [List.map_take] at h; exact h), HK.out⟩
      · have z1 : (k : Int) < (ps.length : Int) := by simpa using t1
        have z2 : ¬ (k : Int) < 5 := by simpa using t2
        go_wp2_with fail
        go_ret
        exact ⟨_, rfl, by first | exact HP.out | (have h := HP.out; rw [List.map_take] at h; exact h), HK.out⟩
end Go.Proofs.YtokfcgloogdeiaaGreatDoor
namespace Go.Proofs.YtokfcgloogdeiaaGreatDoor
set_option linter.unusedVariables false
set_option linter.unusedSimpArgs false
set_option maxRecDepth 100000
open Go.ChangeShapes Go.WideShapes Go.ChangeAt Go.RowKit

/-- words of a code, or none -/
def Ob.cdsN (v : Value) (L : List Nat) : Ob where
  P w bs := bs = v.ownBlock.toList ∧ Cds w v L ∧ (L ≠ [] ∨ v = .slice none 0 0)
  keep := fun ⟨h1, h2, h3⟩ k hb => ⟨h1, h2.keep k (fun b hb' => hb b (by rw [h1]; simp [hb'])), h3⟩
  lt := fun {w bs} ⟨h1, h2, h3⟩ b hb => by
    subst h1
    rcases h3 with h3 | h3
    · obtain ⟨bb, off, cp, hv, hc, _⟩ := h2.at 0 (List.length_pos_iff.2 h3)
      rw [hv] at hb
      simp [Value.ownBlock] at hb
      subst hb
      exact World.block_lt_of_cell? w _ hc
    · rw [h3] at hb; simp [Value.ownBlock] at hb
theorem St.cdsN {W w : World} {Ps : List Ob} (h : St W w Ps) (i : Nat) {v : Value} {L : List Nat} (hi : Ps[i]? = some (Ob.cdsN v L)) : Cds w v L := by
  obtain ⟨bs, ⟨_, h1, _⟩, _⟩ := h.get i hi; exact h1
theorem code_lt32 (L : List Nat) (i : Nat) (h : len L i ≤ 16) : code L i < 4294967296 := by
  have := code_lt L i
  have h2 : 2 ^ len L i ≤ 2 ^ 16 := Nat.pow_le_pow_right (by decide) h
  omega
theorem rword18_c {W w : World} {q : Nat} {bits : List Bool} {Ps : List Ob} (h : St W w Ps) (i j : Nat) (hi : Ps[i]? = some (Ob.rw q bits)) {v : Value} {L : List Nat} (hj : Ps[j]? = some (Ob.cdsN v L)) (hL : ∀ x ∈ L, x ≤ 16) (hn : L.length ≤ 1000) (hb : bits.length ≤ 1000000000) (s : Nat) (hs : s ≤ 100000) : Calls Tryz.prog 34 #[.pointer (some ⟨q, 0, none⟩), v, .int .i64 s] w fun e w' =>
    e = .returned (.tuple #[]) ∧ St W w' (Ps.set i (Ob.rw q (bits ++ wordB L s))) := by
  have hc := h.cdsN j hj
  obtain ⟨a, c, rfl, _⟩ := hc.shape
  by_cases hlt : s < L.length
  · obtain ⟨b, o, cp, hv, c1, c2⟩ := hc.at s hlt
    simp only [Value.slice.injEq] at hv
    obtain ⟨rfl, -, rfl⟩ := hv
    have hle : len L s ≤ 16 := by rw [len_get L s hlt]; exact hL _ (List.getElem_mem hlt)
    have HP := Lib.hid (st_rput (h.read ((Keep.refl [] w).drew)) i hi (code L s) (len L s) (code_lt32 L s hle) (by omega) (by omega))
    have hw : wordB L s = bitsOf (code L s) (len L s) := by unfold wordB; rw [if_pos hlt]
    rw [hw]
    have t1 : decide (s < L.length) = true := decide_eq_true hlt
    have t1' : decide ((s : Int) < (L.length : Int)) = true := decide_eq_true (by omega)
    have hlt' : (s : Int) < (L.length : Int) := by omega
    obtain ⟨cd, hcd⟩ : ∃ cd, code L s = cd := ⟨_, rfl⟩
    obtain ⟨ln, hln⟩ : ∃ ln, len L s = ln := ⟨_, rfl⟩
    rw [hcd] at c1 HP ⊢
    rw [hln] at c2 HP ⊢
    clear hcd hln hw hle
    go_enter Tryz.func34, Tryz.ntmps34
    go_wp2_with fail
    go_still_tail 11, (by kernel_rfl)
    change wpList _ _ _ _ _ w.drew
    clear c1 c2
    generalize w.drew = w1 at *
    go_wp2_with fail
    refine HP.out.mono ?_; rintro e w2 ⟨rfl, hS⟩
    have HS := Lib.hid hS
    clear HP hS
    go_wp2_with fail
    go_end0
    exact ⟨rfl, HS.out⟩
  · have hw : wordB L s = [] := by unfold wordB; rw [if_neg hlt]
    rw [hw, List.append_nil]
    have t1 : decide (s < L.length) = false := decide_eq_false hlt
    have t1' : decide ((s : Int) < (L.length : Int)) = false := decide_eq_false (by omega)
    have hset : Ps.set i (Ob.rw q bits) = Ps := by
      apply List.ext_getElem?
      intro k
      by_cases e : i = k
      · subst e
        have hl : i < Ps.length := by
          rcases Nat.lt_or_ge i Ps.length with h | h
          · exact h
          · rw [List.getElem?_eq_none h] at hi; cases hi
        rw [List.getElem?_set_self hl, hi]
      · rw [List.getElem?_set_ne e]
    rw [hset]
    have HS := Lib.hid h
    clear hw hset hlt h
    go_enter Tryz.func34, Tryz.ntmps34
    go_wp2_with fail
    go_end0
    exact ⟨rfl, HS.out⟩
end Go.Proofs.YtokfcgloogdeiaaGreatDoor
namespace Go.Proofs.YtokfcgloogdeiaaGreatDoor
set_option linter.unusedVariables false
set_option linter.unusedSimpArgs false
set_option maxRecDepth 100000
open Go.ChangeShapes Go.WideShapes Go.ChangeAt Go.RowKit

/-- pieces that aren't too long -/
structure WfP (p : Pc) : Prop where
  b : p.bytes.length ≤ 100
  t : p.toks.length ≤ 25
  l : p.kind = 2 → 257 ≤ p.lit.length ∧ p.lit.length ≤ 286 ∧ 1 ≤ p.dist.length ∧ p.dist.length ≤ 32
theorem Lw_le (zs : List Int) : ∀ x ∈ Lw zs, x ≤ 16 := by
  intro x hx
  unfold Lw at hx
  by_cases h : werr zs = 0
  · rw [if_pos h] at hx; exact may_Ln (werr_ok h).1 x hx
  · rw [if_neg h] at hx; simp at hx
theorem Lw_len (zs : List Int) : (Lw zs).length ≤ zs.length := by
  unfold Lw; split
  · rw [Ln_length]; exact Nat.le_refl _
  · simp
theorem Pc.LL_le (p : Pc) : (∀ x ∈ p.LL, x ≤ 16) ∧ (∀ x ∈ p.LD, x ≤ 16) := by
  unfold Pc.LL Pc.LD
  by_cases h : p.kind = 2
  · rw [if_pos h, if_pos h]; exact ⟨Lw_le _, Lw_le _⟩
  · rw [if_neg h, if_neg h]; exact ⟨fix_werr.1.2, fix_werr.2.2⟩
theorem wordB_len (L : List Nat) (hL : ∀ x ∈ L, x ≤ 16) (s : Nat) : (wordB L s).length ≤ 16 := by
  unfold wordB
  by_cases h : s < L.length
  · rw [if_pos h, bitsOf_length, len_get L s h]; exact hL _ (List.getElem_mem h)
  · rw [if_neg h]; simp
theorem lcOf_le18 (n : Int) (large : Bool) : (lcOf n large).1 ≤ 1000 ∧ (lcOf n large).2.1 ≤ 16 := by
  unfold lcOf
  by_cases h : n = 258 ∧ large = false
  · rw [if_pos h]; decide
  · rw [if_neg h]
    cases hf : (List.range 29).find? (lcHit n large) with
    | none => exact ⟨Nat.zero_le _, Nat.zero_le _⟩
    | some k =>
      have hk : k < 29 := by have := List.mem_of_find?_eq_some hf; simpa using this
      exact ⟨by dsimp only; omega, (lenOf_le18 _ _).2⟩
theorem dcOf_le18 (n : Int) (large : Bool) : (dcOf n large).1 ≤ 1000 ∧ (dcOf n large).2.1 ≤ 16 := by
  unfold dcOf
  cases hf : (List.range 32).find? (dcHit n large) with
  | none => exact ⟨Nat.zero_le _, Nat.zero_le _⟩
  | some k =>
    have hk : k < 32 := by have := List.mem_of_find?_eq_some hf; simpa using this
    have := dstOf_le18 (k : Int) large
    exact ⟨by dsimp only; omega, by dsimp only; omega⟩
theorem lcOf_lt (n : Int) (large : Bool) : (lcOf n large).2.2.1 < 4294967296 := by
  by_cases h : (lcOf n large).2.2.2 = true
  · obtain ⟨b, _, _, h3⟩ := lcOf_stand n large h
    have h2 : 2 ^ (lcOf n large).2.1 ≤ 2 ^ 16 := Nat.pow_le_pow_right (by decide) (lcOf_le18 n large).2
    omega
  · unfold lcOf at h ⊢
    by_cases h1 : n = 258 ∧ large = false
    · rw [if_pos h1]; decide
    · rw [if_neg h1] at h ⊢
      cases hf : (List.range 29).find? (lcHit n large) with
      | none => show 0 < 4294967296; decide
      | some k => rw [hf] at h; simp at h
theorem dcOf_lt (n : Int) (large : Bool) : (dcOf n large).2.2.1 < 4294967296 := by
  by_cases h : (dcOf n large).2.2.2 = true
  · obtain ⟨b, _, _, h3⟩ := dcOf_stand n large h
    have h2 : 2 ^ (dcOf n large).2.1 ≤ 2 ^ 16 := Nat.pow_le_pow_right (by decide) (dcOf_le18 n large).2
    omega
  · unfold dcOf at h ⊢
    cases hf : (List.range 32).find? (dcHit n large) with
    | none => show 0 < 4294967296; decide
    | some k => rw [hf] at h; simp at h
theorem tokB_len (large : Bool) (LL LD : List Nat) (h1 : ∀ x ∈ LL, x ≤ 16) (h2 : ∀ x ∈ LD, x ≤ 16) (t : Tk) : (tokB large LL LD t).length ≤ 100 := by
  have a := wordB_len LL h1
  have b := wordB_len LD h2
  unfold tokB
  by_cases h : t.len = 0
  · rw [if_pos h]; have := a t.lit.toNat; omega
  · rw [if_neg h]
    simp only [List.length_append, bitsOf_length]
    have := a (lcOf t.len large).1
    have := b (dcOf t.dist large).1
    have := (lcOf_le18 t.len large).2
    have := (dcOf_le18 t.dist large).2
    omega
theorem toksB_len18 (large : Bool) (LL LD : List Nat) (h1 : ∀ x ∈ LL, x ≤ 16) (h2 : ∀ x ∈ LD, x ≤ 16) (ts : List Tk) : (ts.flatMap (tokB large LL LD)).length ≤ 100 * ts.length := by
  induction ts with
  | nil => simp
  | cons t ts ih => rw [List.flatMap_cons, List.length_append, List.length_cons]; have := tokB_len large LL LD h1 h2 t; omega
theorem pcB_len18 (large last : Bool) (bits : List Bool) (p : Pc) (hp : WfP p) : (pcB large last bits p).length ≤ bits.length + 10000 := by
  have h0 : (hdB last bits p).length = bits.length + 3 := by unfold hdB; simp [bitsOf_length]
  have h1 := toksB_len18 large p.LL p.LD p.LL_le.1 p.LL_le.2 p.toks
  have h2 := wordB_len p.LL p.LL_le.1 256
  have h3 := hp.t
  unfold pcB
  by_cases g1 : p.kind ≤ 0
  · rw [if_pos g1]
    simp only [List.length_append, bitsOf_length, pad8_length, b8_length]
    have := hp.b; omega
  · rw [if_neg g1]
    by_cases g2 : 2 < p.kind
    · rw [if_pos g2]; omega
    · rw [if_neg g2]
      by_cases g3 : p.kind = 2
      · rw [if_pos g3]
        simp only [List.length_append]
        have e : (plB p.lit p.dist).length = 14 + 57 + 4 * p.lit.length + 4 * p.dist.length := by
          unfold plB
          rw [wb17_plain_g]
          simp only [List.length_append, bitsOf_length, hd3_length, plg_len]
        have := hp.l g3
        omega
      · rw [if_neg g3]
        simp only [List.length_append]
        omega
end Go.Proofs.YtokfcgloogdeiaaGreatDoor
namespace Go.Proofs.YtokfcgloogdeiaaGreatDoor
set_option linter.unusedVariables false
set_option linter.unusedSimpArgs false
set_option maxRecDepth 100000
open Go.ChangeShapes Go.WideShapes Go.ChangeAt Go.RowKit

theorem st_ralignw {W w : World} {Ps : List Ob} (h : St W w Ps) (i : Nat) {q : Nat} {bits : List Bool} (hi : Ps[i]? = some (Ob.rw q bits)) (hl : bits.length ≤ 140737488354000) : Calls Tryz.prog 30 #[.pointer (some ⟨q, 0, none⟩)] w fun e w' => e = .returned (.tuple #[]) ∧ St W w' (Ps.set i (Ob.rw q (pad8 bits))) := by
  obtain ⟨bs, ⟨v, rfl, h1⟩, h2, h3⟩ := h.focus i hi
  refine (ralign8_c w q v bits h1 hl).mono ?_
  rintro e w' ⟨he, v', hw, hk, hv⟩
  refine ⟨he, h3 w' _ _ ⟨v', rfl, hw⟩ hk (fun b hb => ?_)⟩
  rcases List.mem_cons.1 hb with rfl | hb
  · exact .inl (by simp)
  · rcases hv b (by simpa using hb) with h | h
    · exact .inl (by simp [h])
    · exact .inr h
theorem st_rputbytesW {W w : World} {Ps : List Ob} (h : St W w Ps) (i : Nat) {q : Nat} {bits : List Bool} {v2 : Value} {l2 : List UInt8} (hi : Ps[i]? = some (Ob.rw q bits)) (hb : Bs W v2 l2) (h8 : bits.length % 8 = 0) (hl : bits.length + 8 * l2.length ≤ 140737488353000) : Calls Tryz.prog 31 #[.pointer (some ⟨q, 0, none⟩), v2] w fun e w' => e = .returned (.tuple #[]) ∧ St W w' (Ps.set i (Ob.rw q (bits ++ b8 l2))) := by
  obtain ⟨bs, ⟨v, rfl, h1⟩, h2, h3⟩ := h.focus i hi
  refine (rputbytes_c w q v bits v2 l2 h1 (hb.keep h.kp (by simp)) (fun hne b hbb => ?_) hl).mono ?_
  · have hlt := hb.lt hne b hbb
    have a1 := h2 q (by simp)
    refine ⟨fun e => by omega, fun e => ?_⟩
    have := h2 b (by simp [e])
    omega
  · rintro e w' ⟨he, v', hw, hk, hv⟩
    rw [pad8_same bits h8, toBits_b8] at hw
    refine ⟨he, h3 w' _ _ ⟨v', rfl, hw⟩ hk (fun b hb => ?_)⟩
    rcases List.mem_cons.1 hb with rfl | hb
    · exact .inl (by simp)
    · rcases hv b (by simpa using hb) with h | h
      · exact .inl (by simp [h])
      · exact .inr h
/-- a piece's cells, as a walk reads them -/
theorem Pcs.at {w : World} {v : Value} {ps : List Pc} (h : Pcs w v ps) (i : Nat) (hi : i < ps.length) : ∃ b off cap x, v = .slice (some ⟨b, off, none⟩) ps.length cap ∧ PcOk w x ps[i] ∧ w.cell? ⟨b, off + i * 5, none⟩ = some (.int .i64 x.k) ∧ w.cell? ⟨b, off + i * 5 + 1, none⟩ = some x.b.val ∧ w.cell? ⟨b, off + i * 5 + 2, none⟩ = some x.t.val ∧ w.cell? ⟨b, off + i * 5 + 3, none⟩ = some x.l.val ∧ w.cell? ⟨b, off + i * 5 + 4, none⟩ = some x.d.val := by
  obtain ⟨xs, hg, hl, hx⟩ := h
  obtain ⟨b, off, cap, hv, hc⟩ := hg.at EP_good i (by omega)
  rw [hl] at hv
  refine ⟨b, off, cap, xs[i], hv, hx i (by omega) hi, ?_, ?_, ?_, ?_, ?_⟩
  · have := hc 0 (by decide); rw [Nat.add_zero] at this; exact this
  · exact hc 1 (by decide)
  · exact hc 2 (by decide)
  · exact hc 3 (by decide)
  · exact hc 4 (by decide)
theorem Pcs.sh {w : World} {v : Value} {ps : List Pc} (h : Pcs w v ps) : ∃ a cap, v = .slice a ps.length cap := by
  obtain ⟨xs, hg, hl, hx⟩ := h
  obtain ⟨a, c, hv, _⟩ := hg.sh
  exact ⟨a, c, by rw [hv, hl]⟩
theorem cdsN_of {zs : List Int} {v : Value} (hl : 0 < zs.length) (hnil : werr zs ≠ 0 → v = .slice none 0 0) : Lw zs ≠ [] ∨ v = .slice none 0 0 := by
  by_cases h : werr zs = 0
  · left
    unfold Lw; rw [if_pos h]
    intro e; have := congrArg List.length e; rw [Ln_length] at this; simp at this; rw [this] at hl; simp at hl
  · exact .inr (hnil h)
theorem toks_take (large : Bool) (LL LD : List Nat) (ts : List Tk) (j : Nat) (h : j < ts.length) : (ts.take (j + 1)).flatMap (tokB large LL LD) = (ts.take j).flatMap (tokB large LL LD) ++ tokB large LL LD ts[j] := by
  rw [List.take_succ_eq_append_getElem h, List.flatMap_append]; simp
set_option maxHeartbeats 8000000 in
theorem rwrite18_c (w : World) (v : Value) (ps : List Pc) (large : Bool) (h : Pcs w v ps) (hn : ps.length ≤ 5) (hP : ∀ p ∈ ps, WfP p) : Calls Tryz.prog 12 #[v, .bool large] w fun e w' => ∃ v', e = .returned v' ∧ OwnB w' v' (ofBits (wrP large [] ps)) ∧ Keep [] w w' := by
  obtain ⟨R, hR⟩ : ∃ R, wrP large [] ps = R := ⟨_, rfl⟩
  rw [hR]
  have HR := Lib.hid hR
  obtain ⟨a, c, rfl⟩ := h.sh
  have HPC := Lib.hid h
  have HP := Lib.hid hP
  have hS := (St.nil w).push (Ob.rw w.heap.size []) [w.heap.size] (w' := w.alloc (.cells #[.slice none 0 0] 78)) ⟨.slice none 0 0, rfl, Blk.new _ _ _, OwnB.nil _, by simp [Value.ownBlock]⟩ ((Keep.refl [] _).alloc _) (by intro z hz; simp at hz; omega)
  have HS0 : Hid (St w (w.alloc (.cells #[.slice none 0 0] 78)) [Ob.rw w.heap.size []]) := hS
  clear hR h hP hS
  go_enter Tryz.func12, Tryz.ntmps12
  go_wp2_with fail
  obtain ⟨q, hq⟩ : ∃ q, w.heap.size = q := ⟨_, rfl⟩
  rw [hq] at HS0 ⊢
  clear hq
  generalize w.alloc (.cells #[.slice none 0 0] 78) = w1 at HS0 ⊢
  go_loopw [6] (fun iv wr => ∃ (k : Nat) (bits : List Bool), k ≤ ps.length ∧ iv = .int .i64 k ∧ Hid (St w wr [Ob.rw q bits]) ∧ Hid (wrP large bits (ps.drop k) = R) ∧ bits.length ≤ 10000 * k) (fun iv _ => ps.length - (intOf iv).toNat)
  case atStart => exact ⟨0, [], Nat.zero_le _, rfl, HS0, HR, by simp⟩
  case round =>
    clear HS0 HR
    obtain ⟨k, bits, hk, rfl, HS, HR, hbl⟩ := hrel
    by_cases hlt : k < ps.length
    · obtain ⟨bb, off, cp, x, hv, hx, d0, d1, d2, d3, d4⟩ := HPC.out.at k hlt
      simp only [Value.slice.injEq] at hv
      obtain ⟨rfl, -, rfl⟩ := hv
      have hdr : ps.drop k = ps[k] :: ps.drop (k + 1) := List.drop_eq_getElem_cons hlt
      have hwf := HP.out ps[k] (List.getElem_mem hlt)
      have hr := HR.out
      rw [hdr, wrP] at hr
      obtain ⟨p, hp⟩ : ∃ p, ps[k] = p := ⟨_, rfl⟩
      rw [hp] at hx hr hwf
      obtain ⟨la, hla⟩ : ∃ la, (ps.drop (k + 1)).isEmpty = la := ⟨_, rfl⟩
      rw [hla] at hr
      have hlast : decide (k + 1 = ps.length) = la := by
        rw [← hla]; by_cases e : k + 1 = ps.length
        · rw [List.drop_eq_nil_of_le (by omega)]; simp [e]
        · have : ps.drop (k + 1) ≠ [] := by intro h; have := congrArg List.length h; simp at this; omega
          cases hd : ps.drop (k + 1) with
          | nil => exact absurd hd this
          | cons a b => simp [e]
      obtain ⟨xk, xb, xt, xl, xd⟩ := x
      obtain ⟨hxk, hxw, hxb, hxt, hxl, hxd⟩ := hx
      dsimp only at hxk hxb hxt hxl hxd d0 d1 d2 d3 d4
      subst hxk
      obtain ⟨ab, cb, hvb, _⟩ := hxb.shape
      obtain ⟨at1, ct1, hvt⟩ : ∃ a c, xt.val = .slice a p.toks.length c := by obtain ⟨a, c, h, _⟩ := hxt; exact ⟨a, c, h⟩
      obtain ⟨al, cl, hvl, _⟩ := hxl.sh
      obtain ⟨ad, cd, hvd, _⟩ := hxd.sh
      rw [hvb] at hxb d1; rw [hvt] at hxt d2; rw [hvl] at hxl d3; rw [hvd] at hxd d4
      clear hvb hvt hvl hvd
      have HR2 := Lib.hid hr; have HWF := Lib.hid hwf
      have HXB := Lib.hid hxb; have HXT := Lib.hid hxt; have HXL := Lib.hid hxl; have HXD := Lib.hid hxd; have HXW := Lib.hid hxw
      have D := Lib.hid (fun wx (K : Keep [] w wx) => (⟨K.cell d0 (by simp), K.cell d1 (by simp), K.cell d2 (by simp), K.cell d3 (by simp), K.cell d4 (by simp)⟩ : _ ∧ _ ∧ _ ∧ _ ∧ _))
      have wl : IntKind.i64.wrap ((ps.length : Int) - 1) = ((ps.length - 1 : Nat) : Int) := by rw [IntKind.wrap_i64]; omega
      have wk : IntKind.i64.wrap ((k : Int) + 1) = ((k + 1 : Nat) : Int) := by rw [IntKind.wrap_i64]; omega
      have tl1 : ((k : Int) == ((ps.length - 1 : Nat) : Int)) = la := by rw [← hlast]; by_cases e : k + 1 = ps.length <;> simp [e] <;> omega
      have hpb := pcB_len18 large la bits p hwf
      have HPB : Hid ((pcB large la bits p).length ≤ 10000 * (k + 1)) := by unfold Hid; omega
      obtain ⟨n1, hn1⟩ : ∃ n1, ps.length - 1 = n1 := ⟨_, rfl⟩
      rw [hn1] at wl tl1
      have hbl2 : bits.length ≤ 100000 := by omega
      have HBL := Lib.hid hbl2
      clear hdr hr hwf hp hla HR d0 d1 d2 d3 d4 hxb hxt hxl hxd hxw hlast hn1 hpb hbl2
      obtain ⟨lv, hlv⟩ : ∃ lv : Nat, (if la then 1 else 0 : Nat) = lv := ⟨_, rfl⟩
      have hlv2 : lv < 2 := by rw [← hlv]; split <;> decide
      have HLV := Lib.hid hlv
      clear hlv
      go_upto_if 32 with fail
      go_cut [7] (fun v7 wx => v7 = .int .u32 lv ∧ wx = wr)
      case first =>
        go_wp2_with fail
        all_goals
          go_meet
          refine ⟨?_, rfl⟩
          first
            | (have e : la = true := by assumption
               rw [← HLV.out, e]; rfl)
            | (have e : la = false := by assumption
               rw [← HLV.out, e]; rfl)
      case rest =>
      obtain ⟨rfl, hwc⟩ := hcut
      have h := hwc.symm
      subst h
      have HP1 := Lib.hid (st_rput HS.out 0 rfl lv 1 (by omega) (by decide) (by have := HBL.out; omega))
      clear HS hwc tl1 wl
      go_wp2_with fail
      refine HP1.out.mono ?_; rintro e wa ⟨rfl, hSa⟩
      have HSa : Hid (St w wa [Ob.rw q (bits ++ bitsOf lv 1)]) := hSa
      obtain ⟨d0, -, -, -, -⟩ := D.out wa hSa.kp
      have HWI := Lib.hid (fun wx => within_c p.kind 0 3 wx (by decide))
      have hkb : max 0 (min p.kind 3) = ((kindB p.kind : Nat) : Int) := by unfold kindB; omega
      have hkb3 : kindB p.kind ≤ 3 := by unfold kindB; omega
      rw [hkb] at HWI
      obtain ⟨kb, hkbe⟩ : ∃ kb, kindB p.kind = kb := ⟨_, rfl⟩
      have HKB := Lib.hid hkbe
      rw [hkbe] at HWI hkb3
      have wkb : IntKind.u32.wrap (kb : Int) = (kb : Int) := by rw [IntKind.wrap_u32]; omega
      have HP2 := Lib.hid (st_rput HSa.out 0 rfl kb 2 (by omega) (by decide) (by have := HBL.out; simp only [List.length_append, bitsOf_length]; omega))
      clear HP1 hSa hkb hkbe HSa
      go_wp2_with fail
      refine (HWI.out _).mono ?_; rintro e wb ⟨rfl, rfl⟩
      go_wp2_with fail
      refine HP2.out.mono ?_; rintro e wc ⟨rfl, hSb⟩
      have hhd0 : (bits ++ bitsOf lv 1) ++ bitsOf kb 2 = hdB la bits p := by unfold hdB; rw [HLV.out, HKB.out]
      obtain ⟨hd, hhd⟩ : ∃ hd, hdB la bits p = hd := ⟨_, rfl⟩
      rw [hhd] at hhd0
      have hSb' : St w wc [Ob.rw q hd] := by rw [← hhd0]; exact hSb
      have hdl : hd.length ≤ 100003 := by rw [← hhd0]; have := HBL.out; simp only [List.length_append, bitsOf_length]; omega
      have HHD := Lib.hid hhd
      have HSb := Lib.hid hSb'
      have HDL := Lib.hid hdl
      clear d0 HP2 hSb hSb' hhd0 hhd hdl HWI hkb3 wkb
      obtain ⟨d0, -, -, -, -⟩ := D.out wc HSb.out.kp
      by_cases g0 : p.kind ≤ 0
      · have t0 : decide (p.kind ≤ 0) = true := decide_eq_true g0
        have hb1 := HWF.out.b
        have hpc : pcB large la bits p = ((pad8 hd ++ bitsOf p.bytes.length 16) ++ bitsOf (65535 - p.bytes.length) 16) ++ b8 p.bytes := by unfold pcB; rw [if_pos g0, HHD.out]
        have HPC2 := Lib.hid hpc
        have HAL := Lib.hid (st_ralignw HSb.out 0 rfl (by have := HDL.out; omega))
        obtain ⟨nb, hnb⟩ : ∃ nb, p.bytes.length = nb := ⟨_, rfl⟩
        have HNB := Lib.hid hnb
        rw [hnb] at HXB hb1 D
        have u1 : IntKind.u32.wrap (nb : Int) = (nb : Int) := by rw [IntKind.wrap_u32]; omega
        obtain ⟨mb, hmb⟩ : ∃ mb, 65535 - nb = mb := ⟨_, rfl⟩
        have HMB := Lib.hid hmb
        have u2 : IntKind.i64.wrap (65535 - (nb : Int)) = (mb : Int) := by rw [IntKind.wrap_i64]; omega
        have u3 : IntKind.u32.wrap (mb : Int) = (mb : Int) := by rw [IntKind.wrap_u32]; omega
        have hmb2 : mb ≤ 65535 := by omega
        have hpl : (pad8 hd).length ≤ 100010 := by rw [pad8_length]; have := HDL.out; omega
        have hp8 : (pad8 hd).length % 8 = 0 := by rw [pad8_length]; omega
        obtain ⟨pd, hpd⟩ : ∃ pd, pad8 hd = pd := ⟨_, rfl⟩
        rw [hpd] at hpl hp8
        have HPD := Lib.hid hpd
        have HPL : Hid (pd.length ≤ 100010 ∧ pd.length % 8 = 0 ∧ nb ≤ 100 ∧ mb ≤ 65535) := ⟨hpl, hp8, hb1, hmb2⟩
        clear g0 hpc hnb hmb hpl hp8 hpd hb1 hmb2
        go_wp2_with fail
        refine HAL.out.mono ?_; rintro e wd ⟨rfl, hS1⟩
        have HS1 : Hid (St w wd [Ob.rw q pd]) := by have := hS1; rw [show pad8 hd = pd from HPD.out] at this; exact this
        clear d0
        obtain ⟨d0, d1, -, -, -⟩ := D.out wd HS1.out.kp
        have HQ1 := Lib.hid (st_rput HS1.out 0 rfl nb 16 (by have := HPL.out; omega) (by decide) (by have := HPL.out; omega))
        clear HAL hS1 HSb
        go_wp2_with fail
        refine HQ1.out.mono ?_; rintro e we ⟨rfl, hS2⟩
        have HS2 : Hid (St w we [Ob.rw q (pd ++ bitsOf nb 16)]) := hS2
        clear d0 d1
        obtain ⟨d0, d1, -, -, -⟩ := D.out we HS2.out.kp
        have HQ2 := Lib.hid (st_rput HS2.out 0 rfl mb 16 (by have := HPL.out; omega) (by decide) (by have := HPL.out; simp only [List.length_append, bitsOf_length]; omega))
        clear HQ1 hS2 HS1
        go_wp2_with fail
        refine HQ2.out.mono ?_; rintro e wf ⟨rfl, hS3⟩
        have HS3 : Hid (St w wf [Ob.rw q ((pd ++ bitsOf nb 16) ++ bitsOf mb 16)]) := hS3
        clear d0 d1
        obtain ⟨d0, d1, -, -, -⟩ := D.out wf HS3.out.kp
        have HQ3 := Lib.hid (st_rputbytesW HS3.out 0 rfl HXB.out (by have := HPL.out; simp only [List.length_append, bitsOf_length]; omega) (by have := HPL.out; have := HNB.out; simp only [List.length_append, bitsOf_length]; omega))
        clear HQ2 hS3 HS2
        go_wp2_with fail
        refine HQ3.out.mono ?_; rintro e wg ⟨rfl, hS4⟩
        have HS4 : Hid (St w wg [Ob.rw q (pcB large la bits p)]) := by
          unfold Hid; rw [HPC2.out, HNB.out, HMB.out, HPD.out]; exact hS4
        clear HQ3 hS4 HS3 d0 d1
        go_wp2_with fail
        go_roundw
        case rel => exact ⟨k + 1, _, by omega, by first | rfl | simp, HS4.out, HR2.out, HPB.out⟩
        case measure => simp [intOf]; omega
      · have t0 : decide (p.kind ≤ 0) = false := decide_eq_false g0
        have HFX := Lib.hid (rfixed18_c wc)
        by_cases g2 : p.kind = 2
        · have t2 : (p.kind == 2) = true := by simpa using g2
          have t3 : decide (2 < p.kind) = false := decide_eq_false (by omega)
          have hln := HWF.out.l g2
          have hpc : pcB large la bits p = (hd ++ plB p.lit p.dist) ++ (p.toks.flatMap (tokB large p.LL p.LD) ++ wordB p.LL 256) := by unfold pcB; rw [if_neg g0, if_neg (show ¬ 2 < p.kind by omega), if_pos g2, HHD.out]
          have hll : Lw p.lit = p.LL := by unfold Pc.LL; rw [if_pos g2]
          have hld : Lw p.dist = p.LD := by unfold Pc.LD; rw [if_pos g2]
          have HLL := Lib.hid hll; have HLD := Lib.hid hld
          have HLN : Hid (0 < p.lit.length) := by unfold Hid; omega
          have HDN : Hid (0 < p.dist.length) := by unfold Hid; omega
          have HLN2 : Hid (p.lit.length ≤ 1000) := by unfold Hid; omega
          have HDN2 : Hid (p.dist.length ≤ 1000) := by unfold Hid; omega
          have hpb : (plB p.lit p.dist).length ≤ 2000 := by
            unfold plB; rw [wb17_plain_g]; simp only [List.length_append, bitsOf_length, hd3_length, plg_len]; omega
          have HPLN := Lib.hid (fun wy (hy : St w wy [Ob.rw q hd]) => rplain17_g hy (.slice al p.lit.length cl) (.slice ad p.dist.length cd) p.lit p.dist HXL.out HXD.out (by omega) (by omega) (by have := HDL.out; omega))
          obtain ⟨b0, hb0⟩ : ∃ b0, hd ++ plB p.lit p.dist = b0 := ⟨_, rfl⟩
          rw [hb0] at hpc
          have HPC2 := Lib.hid hpc
          have HB0 : Hid (b0.length ≤ 110000) := by rw [← hb0]; have := HDL.out; unfold Hid; rw [List.length_append]; omega
          have HB00 := Lib.hid hb0
          clear hpc g0 g2 hll hld hpb hln hb0
          go_wp2_with fail
          refine HFX.out.mono ?_; rintro e wd ⟨v1, v2, rfl, -, -, kd, -, -⟩
          have HSd := Lib.hid (HSb.out.read kd)
          clear d0
          obtain ⟨d0, -, -, d3, d4⟩ := D.out wd HSd.out.kp
          clear HFX kd HSb
          go_wp2_with fail
          go_quiet (fail)
          have HSd2 := Lib.hid (HSd.out.read ((Keep.refl [] wd).drewN nq))
          clear d0 d3 d4 HSd
          generalize wd.drewN nq = wd2 at *
          obtain ⟨d0, -, -, d3, d4⟩ := D.out wd2 HSd2.out.kp
          have HPL2 := Lib.hid (HPLN.out wd2 HSd2.out)
          clear HPLN
          go_wp2_with fail
          refine HPL2.out.mono ?_; rintro e we ⟨rfl, hS⟩
          have HSW : Hid (St w we [Ob.rw q b0]) := by rw [← HB00.out]; exact hS
          have HIL : Hid (Is .i64 we (.slice al p.lit.length cl) p.lit) := HXL.out.keep HSW.out.kp (by simp)
          have HID2 : Hid (Is .i64 we (.slice ad p.dist.length cd) p.dist) := HXD.out.keep HSW.out.kp (by simp)
          clear d0 d3 d4 HPL2 hS HSd2
          obtain ⟨d0, -, -, -, -⟩ := D.out we HSW.out.kp
          obtain ⟨vl, hvl⟩ : ∃ vl, Value.slice al p.lit.length cl = vl := ⟨_, rfl⟩
          obtain ⟨vd, hvd⟩ : ∃ vd, Value.slice ad p.dist.length cd = vd := ⟨_, rfl⟩
          rw [hvl] at HIL
          rw [hvd] at HID2
          have HWA := Lib.hid (refwords_c we vl p.lit HIL.out)
          have HWB := Lib.hid (fun wy (K : Keep [] we wy) => refwords_c wy vd p.dist (HID2.out.keep K (by simp)))
          have hle := p.LL_le
          have HLE := Lib.hid hle
          clear hle
          go_wp2_with fail
          refine HWA.out.mono ?_; rintro e wx1 ⟨vw, rfl, hcd, kf, hbw, hnil⟩
          clear d0
          have HSX1 : Hid (St w wx1 [Ob.rw q b0, Ob.cdsN vw (Lw p.lit)]) :=
            HSW.out.push (Ob.cdsN vw (Lw p.lit)) vw.ownBlock.toList ⟨rfl, hcd, cdsN_of HLN.out hnil⟩ kf (fun b hb => hbw b (by simpa using hb))
          have HW2 := Lib.hid (HWB.out wx1 kf)
          clear HWA HWB hcd kf hbw hnil HSW HIL HID2
          go_wp2_with fail
          refine HW2.out.mono ?_; rintro e wx2 ⟨vw2, rfl, hcd, kf, hbw, hnil⟩
          have HSX2 : Hid (St w wx2 [Ob.rw q b0, Ob.cdsN vw (Lw p.lit), Ob.cdsN vw2 (Lw p.dist)]) :=
            HSX1.out.push (Ob.cdsN vw2 (Lw p.dist)) vw2.ownBlock.toList ⟨rfl, hcd, cdsN_of HDN.out hnil⟩ kf (fun b hb => hbw b (by simpa using hb))
          rw [HLL.out, HLD.out] at HSX2
          have HLLN : Hid (p.LL.length ≤ 1000) := by rw [← HLL.out]; unfold Hid; have := Lw_len p.lit; have := HLN2.out; omega
          have HLDN : Hid (p.LD.length ≤ 1000) := by rw [← HLD.out]; unfold Hid; have := Lw_len p.dist; have := HDN2.out; omega
          clear HW2 hcd kf hbw hnil HSX1 HLN HDN HLL HLD HLN2 HDN2
          go_wp2_with fail
          generalize wx2 = wt at *
          go_loopw [14] (fun jv wr2 => ∃ (j : Nat), j ≤ p.toks.length ∧ jv = .int .i64 j ∧ Hid (St w wr2 [Ob.rw q (b0 ++ (p.toks.take j).flatMap (tokB large p.LL p.LD)), Ob.cdsN vw p.LL, Ob.cdsN vw2 p.LD])) (fun jv _ => p.toks.length - (intOf jv).toNat)
          case atStart => exact ⟨0, Nat.zero_le _, rfl, by have := HSX2.out; simpa [Hid] using this⟩
          case round =>
            clear HSX2
            obtain ⟨j, hj, rfl, HSJ⟩ := hrel
            have hwft := HWF.out.t
            by_cases hj2 : j < p.toks.length
            · obtain ⟨tb, toff, tcp, hv, e1, e2, e3⟩ := (HXT.out.keep HSJ.out.kp (by simp)).at j hj2
              simp only [Value.slice.injEq] at hv
              obtain ⟨rfl, -, rfl⟩ := hv
              obtain ⟨d0, -, d2, -, -⟩ := D.out wr HSJ.out.kp
              have htk := toks_take large p.LL p.LD p.toks j hj2
              have hbt := toksB_len18 large p.LL p.LD HLE.out.1 HLE.out.2 (p.toks.take j)
              have htl : (p.toks.take j).length = j := by rw [List.length_take]; omega
              rw [htl] at hbt
              obtain ⟨tk, htt⟩ : ∃ tk, p.toks[j] = tk := ⟨_, rfl⟩
              rw [htt] at e1 e2 e3 htk
              have HTK : Hid (b0 ++ (p.toks.take (j + 1)).flatMap (tokB large p.LL p.LD) = (b0 ++ (p.toks.take j).flatMap (tokB large p.LL p.LD)) ++ tokB large p.LL p.LD tk) := by
                unfold Hid; rw [htk, List.append_assoc]
              have hbj2 : (b0 ++ (p.toks.take j).flatMap (tokB large p.LL p.LD)).length ≤ 120000 := by rw [List.length_append]; have := HB0.out; omega
              obtain ⟨bj, hbj⟩ : ∃ bj, b0 ++ (p.toks.take j).flatMap (tokB large p.LL p.LD) = bj := ⟨_, rfl⟩
              rw [hbj] at HSJ HTK hbj2
              have HSt := HSJ.out.read ((Keep.refl [] wr).alloc (.cells #[.int .u8 tk.lit.toNat, .int .i64 tk.dist, .int .i64 tk.len] 45))
              have HST := Lib.hid HSt
              have HBJ := Lib.hid hbj2
              have wj : IntKind.i64.wrap ((j : Int) + 1) = ((j + 1 : Nat) : Int) := by rw [IntKind.wrap_i64]; omega
              clear htk hbt htl htt hbj HSt hbj2
              by_cases h0 : tk.len = 0
              · have u0 : (tk.len == 0) = true := by simpa using h0
                have hlt := tk.lit.toNat_lt
                have hw := rword18_c HST.out 0 1 rfl rfl HLE.out.1 HLLN.out (by have := HBJ.out; omega) tk.lit.toNat (by omega)
                have htb : tokB large p.LL p.LD tk = wordB p.LL tk.lit.toNat := by unfold tokB; rw [if_pos h0]
                rw [← htb] at hw
                have HW := Lib.hid hw
                obtain ⟨lt, hltt⟩ : ∃ lt, tk.lit.toNat = lt := ⟨_, rfl⟩
                have wlt : IntKind.i64.wrap (lt : Int) = (lt : Int) := by rw [IntKind.wrap_i64]; omega
                rw [hltt] at HW e1 HST
                have HLTT := Lib.hid hltt
                clear hw htb h0 hlt hltt
                go_wp2_with fail
                refine HW.out.mono ?_; rintro e wy ⟨rfl, hSy⟩
                have HSY : Hid (St w wy [Ob.rw q (b0 ++ (p.toks.take (j + 1)).flatMap (tokB large p.LL p.LD)), Ob.cdsN vw p.LL, Ob.cdsN vw2 p.LD]) := by
                  unfold Hid; rw [HTK.out]; exact hSy
                clear HW hSy HST HSJ d0 d2 e1 e2 e3
                go_wp2_with fail
                go_roundw
                case rel => exact ⟨j + 1, by omega, by first | rfl | simp, HSY⟩
                case measure => simp [intOf]; omega
              · have u0 : (tk.len == 0) = false := by simpa using h0
                have hlc := lcOf_le18 tk.len large
                have hdc := dcOf_le18 tk.dist large
                have hlx := lcOf_lt tk.len large
                have hdx := dcOf_lt tk.dist large
                have htb : tokB large p.LL p.LD tk = ((wordB p.LL (lcOf tk.len large).1 ++ bitsOf (lcOf tk.len large).2.2.1 (lcOf tk.len large).2.1) ++ wordB p.LD (dcOf tk.dist large).1) ++ bitsOf (dcOf tk.dist large).2.2.1 (dcOf tk.dist large).2.1 := by unfold tokB; rw [if_neg h0]
                have HLC := Lib.hid (fun wx => rlc17_c wx tk.len large)
                have HDC := Lib.hid (fun wx => rdc17_c wx tk.dist large)
                obtain ⟨⟨c1, n1', x1, k1⟩, hl1⟩ : ∃ z, lcOf tk.len large = z := ⟨_, rfl⟩
                obtain ⟨⟨c2, n2', x2, k2⟩, hd1⟩ : ∃ z, dcOf tk.dist large = z := ⟨_, rfl⟩
                rw [hl1] at hlc hlx htb HLC
                rw [hd1] at hdc hdx htb HDC
                dsimp only at hlc hlx htb HLC hdc hdx HDC
                have wb1 := wordB_len p.LL HLE.out.1 c1
                have wb2 := wordB_len p.LD HLE.out.2 c2
                have hSB : St w (wr.alloc (.cells #[.int .u8 tk.lit.toNat, .int .i64 tk.dist, .int .i64 tk.len] 45)) [Ob.rw q bj, Ob.cdsN vw p.LL, Ob.cdsN vw2 p.LD, Ob.box wr.heap.size #[.int .u8 tk.lit.toNat, .int .i64 tk.dist, .int .i64 tk.len] 45] := HSJ.out.pushBox _ _
                have HTB := Lib.hid htb
                have HNN : Hid (c1 ≤ 1000 ∧ n1' ≤ 16 ∧ c2 ≤ 1000 ∧ n2' ≤ 16 ∧ x1 < 4294967296 ∧ x2 < 4294967296 ∧ (wordB p.LL c1).length ≤ 16 ∧ (wordB p.LD c2).length ≤ 16) := ⟨hlc.1, hlc.2, hdc.1, hdc.2, hlx, hdx, wb1, wb2⟩
                have wx1 : IntKind.u32.wrap (x1 : Int) = (x1 : Int) := by rw [IntKind.wrap_u32]; omega
                have wx2 : IntKind.u32.wrap (x2 : Int) = (x2 : Int) := by rw [IntKind.wrap_u32]; omega
                obtain ⟨wtk, hwtk⟩ : ∃ wtk, wr.alloc (.cells #[.int .u8 tk.lit.toNat, .int .i64 tk.dist, .int .i64 tk.len] 45) = wtk := ⟨_, rfl⟩
                obtain ⟨gtk, hgtk⟩ : ∃ gtk, wr.heap.size = gtk := ⟨_, rfl⟩
                rw [hwtk, hgtk] at hSB
                have q2 : wtk.cell? ⟨gtk, 2, none⟩ = some (.int .i64 tk.len) := (hSB.blk 3 rfl).cell 2 _ rfl
                have HSB := Lib.hid hSB
                have HW1 := Lib.hid (rword18_c HSB.out 0 1 rfl rfl HLE.out.1 HLLN.out (by have := HBJ.out; omega) c1 (by omega))
                clear hlc hlx hdc hdx htb hl1 hd1 wb1 wb2 h0 HST hSB
                go_wp2_with fail
                refine (HLC.out wtk).mono ?_; rintro e wy ⟨rfl, rfl⟩
                go_wp2_with fail
                refine HW1.out.mono ?_; rintro e wy ⟨rfl, hSy⟩
                have HSY : Hid (St w wy [Ob.rw q (bj ++ wordB p.LL c1), Ob.cdsN vw p.LL, Ob.cdsN vw2 p.LD, Ob.box gtk #[.int .u8 tk.lit.toNat, .int .i64 tk.dist, .int .i64 tk.len] 45]) := hSy
                have HQ1 := Lib.hid (st_rput HSY.out 0 rfl x1 n1' HNN.out.2.2.2.2.1 (by have := HNN.out; omega) (by have := HNN.out; have := HBJ.out; simp only [List.length_append]; omega))
                clear hSy HW1 HSB q2 hwtk hgtk
                go_wp2_with fail
                refine HQ1.out.mono ?_; rintro e wz ⟨rfl, hSz⟩
                have HSZ : Hid (St w wz [Ob.rw q ((bj ++ wordB p.LL c1) ++ bitsOf x1 n1'), Ob.cdsN vw p.LL, Ob.cdsN vw2 p.LD, Ob.box gtk #[.int .u8 tk.lit.toNat, .int .i64 tk.dist, .int .i64 tk.len] 45]) := hSz
                have q1 : wz.cell? ⟨gtk, 1, none⟩ = some (.int .i64 tk.dist) := (HSZ.out.blk 3 rfl).cell 1 _ rfl
                have HW2 := Lib.hid (rword18_c HSZ.out 0 2 rfl rfl HLE.out.2 HLDN.out (by have := HNN.out; have := HBJ.out; simp only [List.length_append, bitsOf_length]; omega) c2 (by have := HNN.out; omega))
                clear hSz HQ1 HSY
                go_wp2_with fail
                refine (HDC.out wz).mono ?_; rintro e wy ⟨rfl, rfl⟩
                go_wp2_with fail
                refine HW2.out.mono ?_; rintro e wy ⟨rfl, hSy⟩
                have HSY : Hid (St w wy [Ob.rw q (((bj ++ wordB p.LL c1) ++ bitsOf x1 n1') ++ wordB p.LD c2), Ob.cdsN vw p.LL, Ob.cdsN vw2 p.LD, Ob.box gtk #[.int .u8 tk.lit.toNat, .int .i64 tk.dist, .int .i64 tk.len] 45]) := hSy
                have HQ2 := Lib.hid (st_rput HSY.out 0 rfl x2 n2' HNN.out.2.2.2.2.2.1 (by have := HNN.out; omega) (by have := HNN.out; have := HBJ.out; simp only [List.length_append, bitsOf_length]; omega))
                clear hSy HW2 HSZ q1
                go_wp2_with fail
                refine HQ2.out.mono ?_; rintro e wv ⟨rfl, hSv⟩
                have HSV : Hid (St w wv [Ob.rw q (b0 ++ (p.toks.take (j + 1)).flatMap (tokB large p.LL p.LD)), Ob.cdsN vw p.LL, Ob.cdsN vw2 p.LD]) := by
                  unfold Hid
                  rw [HTK.out, HTB.out]
                  have hs : St w wv [Ob.rw q ((((bj ++ wordB p.LL c1) ++ bitsOf x1 n1') ++ wordB p.LD c2) ++ bitsOf x2 n2'), Ob.cdsN vw p.LL, Ob.cdsN vw2 p.LD] := hSv.pop (Ps := [_, _, _])
                  simp only [List.append_assoc] at hs ⊢
                  exact hs
                clear HQ2 hSv HSY HSJ d0 d2 e1 e2 e3
                go_wp2_with fail
                go_roundw
                case rel => exact ⟨j + 1, by omega, by first | rfl | simp, HSV⟩
                case measure => simp [intOf]; omega
            · obtain rfl : j = p.toks.length := by omega
              rw [List.take_length] at HSJ
              obtain ⟨d0, -, d2, -, -⟩ := D.out wr HSJ.out.kp
              have hbt := toksB_len18 large p.LL p.LD HLE.out.1 HLE.out.2 p.toks
              have HW := Lib.hid (rword18_c HSJ.out 0 1 rfl rfl HLE.out.1 HLLN.out (by rw [List.length_append]; have := HB0.out; omega) 256 (by decide))
              clear hbt hj hj2
              go_wp2_with fail
              refine HW.out.mono ?_; rintro e wy ⟨rfl, hSy⟩
              have HSY : Hid (St w wy [Ob.rw q (pcB large la bits p)]) := by
                unfold Hid
                rw [HPC2.out, ← List.append_assoc]
                exact (hSy.pop (Ps := [Ob.rw q _, Ob.cdsN vw p.LL])).pop (Ps := [Ob.rw q _])
              clear HW hSy HSJ d0 d2
              go_wp2_with fail
              go_roundw
              case rel => exact ⟨k + 1, _, by omega, by first | rfl | simp, HSY, HR2.out, HPB.out⟩
              case measure => simp [intOf]; omega
        · have t2 : (p.kind == 2) = false := by simpa using g2
          by_cases g3 : 2 < p.kind
          · have t3 : decide (2 < p.kind) = true := decide_eq_true g3
            have hpc : pcB large la bits p = hd := by unfold pcB; rw [if_neg g0, if_pos g3, HHD.out]
            have HPC2 := Lib.hid hpc
            clear hpc g0 g2 g3
            go_wp2_with fail
            refine HFX.out.mono ?_; rintro e wd ⟨v1, v2, rfl, -, -, kd, -, -⟩
            have HS1 : Hid (St w wd [Ob.rw q (pcB large la bits p)]) := by unfold Hid; rw [HPC2.out]; exact HSb.out.read kd
            clear d0
            obtain ⟨d0, -, -, -, -⟩ := D.out wd HS1.out.kp
            clear HFX kd HSb
            go_wp2_with fail
            go_roundw
            case rel => exact ⟨k + 1, _, by omega, by first | rfl | simp, HS1.out, HR2.out, HPB.out⟩
            case measure => simp [intOf]; omega
          · have t3 : decide (2 < p.kind) = false := decide_eq_false g3
            obtain ⟨b0, hb0⟩ : ∃ b0, hd = b0 := ⟨_, rfl⟩
            have hpc : pcB large la bits p = b0 ++ (p.toks.flatMap (tokB large p.LL p.LD) ++ wordB p.LL 256) := by unfold pcB; rw [if_neg g0, if_neg g3, if_neg g2, HHD.out, hb0]
            have HPC2 := Lib.hid hpc
            have hll : Lw fixL = p.LL := by unfold Pc.LL Lw; rw [if_neg g2, if_pos fix_werr.1.1]
            have hld : Lw fixD = p.LD := by unfold Pc.LD Lw; rw [if_neg g2, if_pos fix_werr.2.1]
            have HLL := Lib.hid hll; have HLD := Lib.hid hld
            have HLN : Hid (0 < fixL.length) := by show 0 < fixL.length; rw [fixL_len]; decide
            have HDN : Hid (0 < fixD.length) := by show 0 < fixD.length; decide
            have HLN2 : Hid (fixL.length ≤ 1000) := by show fixL.length ≤ 1000; rw [fixL_len]; decide
            have HDN2 : Hid (fixD.length ≤ 1000) := by show fixD.length ≤ 1000; decide
            have HB0 : Hid (b0.length ≤ 110000) := by rw [← hb0]; have := HDL.out; unfold Hid; omega
            clear hpc g0 g2 g3 hll hld
            go_wp2_with fail
            refine HFX.out.mono ?_; rintro e wd ⟨v1, v2, rfl, o1, o2, kd, -, -⟩
            have HSW : Hid (St w wd [Ob.rw q b0]) := by rw [← hb0]; exact HSb.out.read kd
            have HIL := Lib.hid o1.is; have HID2 := Lib.hid o2.is
            clear d0
            obtain ⟨d0, -, -, -, -⟩ := D.out wd HSW.out.kp
            clear HFX kd HSb o1 o2 hb0
            have HWA := Lib.hid (refwords_c wd v1 fixL HIL.out)
            have HWB := Lib.hid (fun wy (K : Keep [] wd wy) => refwords_c wy v2 fixD (HID2.out.keep K (by simp)))
            have hle := p.LL_le
            have HLE := Lib.hid hle
            clear hle
            go_wp2_with fail
            refine HWA.out.mono ?_; rintro e wx1 ⟨vw, rfl, hcd, kf, hbw, hnil⟩
            clear d0
            have HSX1 : Hid (St w wx1 [Ob.rw q b0, Ob.cdsN vw (Lw fixL)]) :=
              HSW.out.push (Ob.cdsN vw (Lw fixL)) vw.ownBlock.toList ⟨rfl, hcd, cdsN_of HLN.out hnil⟩ kf (fun b hb => hbw b (by simpa using hb))
            have HW2 := Lib.hid (HWB.out wx1 kf)
            clear HWA HWB hcd kf hbw hnil HSW HIL HID2
            go_wp2_with fail
            refine HW2.out.mono ?_; rintro e wx2 ⟨vw2, rfl, hcd, kf, hbw, hnil⟩
            have HSX2 : Hid (St w wx2 [Ob.rw q b0, Ob.cdsN vw (Lw fixL), Ob.cdsN vw2 (Lw fixD)]) :=
              HSX1.out.push (Ob.cdsN vw2 (Lw fixD)) vw2.ownBlock.toList ⟨rfl, hcd, cdsN_of HDN.out hnil⟩ kf (fun b hb => hbw b (by simpa using hb))
            rw [HLL.out, HLD.out] at HSX2
            have HLLN : Hid (p.LL.length ≤ 1000) := by rw [← HLL.out]; unfold Hid; have := Lw_len fixL; have := HLN2.out; omega
            have HLDN : Hid (p.LD.length ≤ 1000) := by rw [← HLD.out]; unfold Hid; have := Lw_len fixD; have := HDN2.out; omega
            clear HW2 hcd kf hbw hnil HSX1 HLN HDN HLL HLD HLN2 HDN2
            go_wp2_with fail
            generalize wx2 = wt at *
            go_loopw [14] (fun jv wr2 => ∃ (j : Nat), j ≤ p.toks.length ∧ jv = .int .i64 j ∧ Hid (St w wr2 [Ob.rw q (b0 ++ (p.toks.take j).flatMap (tokB large p.LL p.LD)), Ob.cdsN vw p.LL, Ob.cdsN vw2 p.LD])) (fun jv _ => p.toks.length - (intOf jv).toNat)
            case atStart => exact ⟨0, Nat.zero_le _, rfl, by have := HSX2.out; simpa [Hid] using this⟩
            case round =>
              clear HSX2
              obtain ⟨j, hj, rfl, HSJ⟩ := hrel
              have hwft := HWF.out.t
              by_cases hj2 : j < p.toks.length
              · obtain ⟨tb, toff, tcp, hv, e1, e2, e3⟩ := (HXT.out.keep HSJ.out.kp (by simp)).at j hj2
                simp only [Value.slice.injEq] at hv
                obtain ⟨rfl, -, rfl⟩ := hv
                obtain ⟨d0, -, d2, -, -⟩ := D.out wr HSJ.out.kp
                have htk := toks_take large p.LL p.LD p.toks j hj2
                have hbt := toksB_len18 large p.LL p.LD HLE.out.1 HLE.out.2 (p.toks.take j)
                have htl : (p.toks.take j).length = j := by rw [List.length_take]; omega
                rw [htl] at hbt
                obtain ⟨tk, htt⟩ : ∃ tk, p.toks[j] = tk := ⟨_, rfl⟩
                rw [htt] at e1 e2 e3 htk
                have HTK : Hid (b0 ++ (p.toks.take (j + 1)).flatMap (tokB large p.LL p.LD) = (b0 ++ (p.toks.take j).flatMap (tokB large p.LL p.LD)) ++ tokB large p.LL p.LD tk) := by
                  unfold Hid; rw [htk, List.append_assoc]
                have hbj2 : (b0 ++ (p.toks.take j).flatMap (tokB large p.LL p.LD)).length ≤ 120000 := by rw [List.length_append]; have := HB0.out; omega
                obtain ⟨bj, hbj⟩ : ∃ bj, b0 ++ (p.toks.take j).flatMap (tokB large p.LL p.LD) = bj := ⟨_, rfl⟩
                rw [hbj] at HSJ HTK hbj2
                have HSt := HSJ.out.read ((Keep.refl [] wr).alloc (.cells #[.int .u8 tk.lit.toNat, .int .i64 tk.dist, .int .i64 tk.len] 45))
                have HST := Lib.hid HSt
                have HBJ := Lib.hid hbj2
                have wj : IntKind.i64.wrap ((j : Int) + 1) = ((j + 1 : Nat) : Int) := by rw [IntKind.wrap_i64]; omega
                clear htk hbt htl htt hbj HSt hbj2
                by_cases h0 : tk.len = 0
                · have u0 : (tk.len == 0) = true := by simpa using h0
                  have hlt := tk.lit.toNat_lt
                  have hw := rword18_c HST.out 0 1 rfl rfl HLE.out.1 HLLN.out (by have := HBJ.out; omega) tk.lit.toNat (by omega)
                  have htb : tokB large p.LL p.LD tk = wordB p.LL tk.lit.toNat := by unfold tokB; rw [if_pos h0]
                  rw [← htb] at hw
                  have HW := Lib.hid hw
                  obtain ⟨lt, hltt⟩ : ∃ lt, tk.lit.toNat = lt := ⟨_, rfl⟩
                  have wlt : IntKind.i64.wrap (lt : Int) = (lt : Int) := by rw [IntKind.wrap_i64]; omega
                  rw [hltt] at HW e1 HST
                  have HLTT := Lib.hid hltt
                  clear hw htb h0 hlt hltt
                  go_wp2_with fail
                  refine HW.out.mono ?_; rintro e wy ⟨rfl, hSy⟩
                  have HSY : Hid (St w wy [Ob.rw q (b0 ++ (p.toks.take (j + 1)).flatMap (tokB large p.LL p.LD)), Ob.cdsN vw p.LL, Ob.cdsN vw2 p.LD]) := by
                    unfold Hid; rw [HTK.out]; exact hSy
                  clear HW hSy HST HSJ d0 d2 e1 e2 e3
                  go_wp2_with fail
                  go_roundw
                  case rel => exact ⟨j + 1, by omega, by first | rfl | simp, HSY⟩
                  case measure => simp [intOf]; omega
                · have u0 : (tk.len == 0) = false := by simpa using h0
                  have hlc := lcOf_le18 tk.len large
                  have hdc := dcOf_le18 tk.dist large
                  have hlx := lcOf_lt tk.len large
                  have hdx := dcOf_lt tk.dist large
                  have htb : tokB large p.LL p.LD tk = ((wordB p.LL (lcOf tk.len large).1 ++ bitsOf (lcOf tk.len large).2.2.1 (lcOf tk.len large).2.1) ++ wordB p.LD (dcOf tk.dist large).1) ++ bitsOf (dcOf tk.dist large).2.2.1 (dcOf tk.dist large).2.1 := by unfold tokB; rw [if_neg h0]
                  have HLC := Lib.hid (fun wx => rlc17_c wx tk.len large)
                  have HDC := Lib.hid (fun wx => rdc17_c wx tk.dist large)
                  obtain ⟨⟨c1, n1', x1, k1⟩, hl1⟩ : ∃ z, lcOf tk.len large = z := ⟨_, rfl⟩
                  obtain ⟨⟨c2, n2', x2, k2⟩, hd1⟩ : ∃ z, dcOf tk.dist large = z := ⟨_, rfl⟩
                  rw [hl1] at hlc hlx htb HLC
                  rw [hd1] at hdc hdx htb HDC
                  dsimp only at hlc hlx htb HLC hdc hdx HDC
                  have wb1 := wordB_len p.LL HLE.out.1 c1
                  have wb2 := wordB_len p.LD HLE.out.2 c2
                  have hSB : St w (wr.alloc (.cells #[.int .u8 tk.lit.toNat, .int .i64 tk.dist, .int .i64 tk.len] 45)) [Ob.rw q bj, Ob.cdsN vw p.LL, Ob.cdsN vw2 p.LD, Ob.box wr.heap.size #[.int .u8 tk.lit.toNat, .int .i64 tk.dist, .int .i64 tk.len] 45] := HSJ.out.pushBox _ _
                  have HTB := Lib.hid htb
                  have HNN : Hid (c1 ≤ 1000 ∧ n1' ≤ 16 ∧ c2 ≤ 1000 ∧ n2' ≤ 16 ∧ x1 < 4294967296 ∧ x2 < 4294967296 ∧ (wordB p.LL c1).length ≤ 16 ∧ (wordB p.LD c2).length ≤ 16) := ⟨hlc.1, hlc.2, hdc.1, hdc.2, hlx, hdx, wb1, wb2⟩
                  have wx1 : IntKind.u32.wrap (x1 : Int) = (x1 : Int) := by rw [IntKind.wrap_u32]; omega
                  have wx2 : IntKind.u32.wrap (x2 : Int) = (x2 : Int) := by rw [IntKind.wrap_u32]; omega
                  obtain ⟨wtk, hwtk⟩ : ∃ wtk, wr.alloc (.cells #[.int .u8 tk.lit.toNat, .int .i64 tk.dist, .int .i64 tk.len] 45) = wtk := ⟨_, rfl⟩
                  obtain ⟨gtk, hgtk⟩ : ∃ gtk, wr.heap.size = gtk := ⟨_, rfl⟩
                  rw [hwtk, hgtk] at hSB
                  have q2 : wtk.cell? ⟨gtk, 2, none⟩ = some (.int .i64 tk.len) := (hSB.blk 3 rfl).cell 2 _ rfl
                  have HSB := Lib.hid hSB
                  have HW1 := Lib.hid (rword18_c HSB.out 0 1 rfl rfl HLE.out.1 HLLN.out (by have := HBJ.out; omega) c1 (by omega))
                  clear hlc hlx hdc hdx htb hl1 hd1 wb1 wb2 h0 HST hSB
                  go_wp2_with fail
                  refine (HLC.out wtk).mono ?_; rintro e wy ⟨rfl, rfl⟩
                  go_wp2_with fail
                  refine HW1.out.mono ?_; rintro e wy ⟨rfl, hSy⟩
                  have HSY : Hid (St w wy [Ob.rw q (bj ++ wordB p.LL c1), Ob.cdsN vw p.LL, Ob.cdsN vw2 p.LD, Ob.box gtk #[.int .u8 tk.lit.toNat, .int .i64 tk.dist, .int .i64 tk.len] 45]) := hSy
                  have HQ1 := Lib.hid (st_rput HSY.out 0 rfl x1 n1' HNN.out.2.2.2.2.1 (by have := HNN.out; omega) (by have := HNN.out; have := HBJ.out; simp only [List.length_append]; omega))
                  clear hSy HW1 HSB q2 hwtk hgtk
                  go_wp2_with fail
                  refine HQ1.out.mono ?_; rintro e wz ⟨rfl, hSz⟩
                  have HSZ : Hid (St w wz [Ob.rw q ((bj ++ wordB p.LL c1) ++ bitsOf x1 n1'), Ob.cdsN vw p.LL, Ob.cdsN vw2 p.LD, Ob.box gtk #[.int .u8 tk.lit.toNat, .int .i64 tk.dist, .int .i64 tk.len] 45]) := hSz
                  have q1 : wz.cell? ⟨gtk, 1, none⟩ = some (.int .i64 tk.dist) := (HSZ.out.blk 3 rfl).cell 1 _ rfl
                  have HW2 := Lib.hid (rword18_c HSZ.out 0 2 rfl rfl HLE.out.2 HLDN.out (by have := HNN.out; have := HBJ.out; simp only [List.length_append, bitsOf_length]; omega) c2 (by have := HNN.out; omega))
                  clear hSz HQ1 HSY
                  go_wp2_with fail
                  refine (HDC.out wz).mono ?_; rintro e wy ⟨rfl, rfl⟩
                  go_wp2_with fail
                  refine HW2.out.mono ?_; rintro e wy ⟨rfl, hSy⟩
                  have HSY : Hid (St w wy [Ob.rw q (((bj ++ wordB p.LL c1) ++ bitsOf x1 n1') ++ wordB p.LD c2), Ob.cdsN vw p.LL, Ob.cdsN vw2 p.LD, Ob.box gtk #[.int .u8 tk.lit.toNat, .int .i64 tk.dist, .int .i64 tk.len] 45]) := hSy
                  have HQ2 := Lib.hid (st_rput HSY.out 0 rfl x2 n2' HNN.out.2.2.2.2.2.1 (by have := HNN.out; omega) (by have := HNN.out; have := HBJ.out; simp only [List.length_append, bitsOf_length]; omega))
                  clear hSy HW2 HSZ q1
                  go_wp2_with fail
                  refine HQ2.out.mono ?_; rintro e wv ⟨rfl, hSv⟩
                  have HSV : Hid (St w wv [Ob.rw q (b0 ++ (p.toks.take (j + 1)).flatMap (tokB large p.LL p.LD)), Ob.cdsN vw p.LL, Ob.cdsN vw2 p.LD]) := by
                    unfold Hid
                    rw [HTK.out, HTB.out]
                    have hs : St w wv [Ob.rw q ((((bj ++ wordB p.LL c1) ++ bitsOf x1 n1') ++ wordB p.LD c2) ++ bitsOf x2 n2'), Ob.cdsN vw p.LL, Ob.cdsN vw2 p.LD] := hSv.pop (Ps := [_, _, _])
                    simp only [List.append_assoc] at hs ⊢
                    exact hs
                  clear HQ2 hSv HSY HSJ d0 d2 e1 e2 e3
                  go_wp2_with fail
                  go_roundw
                  case rel => exact ⟨j + 1, by omega, by first | rfl | simp, HSV⟩
                  case measure => simp [intOf]; omega
              · obtain rfl : j = p.toks.length := by omega
                rw [List.take_length] at HSJ
                obtain ⟨d0, -, d2, -, -⟩ := D.out wr HSJ.out.kp
                have hbt := toksB_len18 large p.LL p.LD HLE.out.1 HLE.out.2 p.toks
                have HW := Lib.hid (rword18_c HSJ.out 0 1 rfl rfl HLE.out.1 HLLN.out (by rw [List.length_append]; have := HB0.out; omega) 256 (by decide))
                clear hbt hj hj2
                go_wp2_with fail
                refine HW.out.mono ?_; rintro e wy ⟨rfl, hSy⟩
                have HSY : Hid (St w wy [Ob.rw q (pcB large la bits p)]) := by
                  unfold Hid
                  rw [HPC2.out, ← List.append_assoc]
                  exact (hSy.pop (Ps := [Ob.rw q _, Ob.cdsN vw p.LL])).pop (Ps := [Ob.rw q _])
                clear HW hSy HSJ d0 d2
                go_wp2_with fail
                go_roundw
                case rel => exact ⟨k + 1, _, by omega, by first | rfl | simp, HSY, HR2.out, HPB.out⟩
                case measure => simp [intOf]; omega
    · obtain rfl : k = ps.length := by omega
      have hr := HR.out
      rw [List.drop_length, wrP] at hr
      have HRE := Lib.hid hr
      have HBY := Lib.hid (st_rwbytes HS.out 0 rfl (by omega))
      have HKP := Lib.hid HS.out.kp
      clear hr HR HS hlt hk
      go_wp2_with fail
      refine HBY.out.mono ?_; rintro e wz ⟨v', rfl, ho, kz, -⟩
      have HO := Lib.hid ho
      have HKZ : Hid (Keep [] w wz) := HKP.out.trans kz (by simp)
      clear HBY ho kz HKP
      go_wp2_with fail
      go_ret
      rw [← HRE.out]
      exact ⟨v', rfl, HO.out, HKZ.out⟩
end Go.Proofs.YtokfcgloogdeiaaGreatDoor
