/- Texts put together: Open Open64 -/
import Derived.Test.YtokfcgloogdeiaaGreatDoorPart1
import Derived.OpenShut
import Derived.ShutString
import Derived.ChangeOld
import Derived.Deep.Slices
import Derived.Deep.Fields
import Derived.ChangeSame
/-! Arguments opened, and the row's step, in lemmas. -/
namespace Go.Proofs.YtokfcgloogdeiaaGreatDoor
set_option linter.unusedVariables false
set_option linter.unusedSimpArgs false
set_option maxRecDepth 100000
open Go.ChangeShapes Go.WideShapes Go.ChangeAt Go.RowKit
open Go.ChangeMaps (open_string shut_string)

theorem own : ownKnob Tryz.prog.godebug = none := by kernel_rfl
theorem laidOut : laidOutB Tryz.prog = true := by kernel_rfl

/-- the integers that are a slice's elements -/
def Is (k : IntKind) (w : World) (v : Value) (zs : List Int) : Prop :=
  ∃ a cap, v = .slice a zs.length cap ∧ zs.length ≤ cap ∧ cap ≤ maxLen ∧ (a = none → cap = 0) ∧
    (∀ x, a = some x → ∀ i (hi : i < zs.length), w.cell? (x.add i) = some (.int k zs[i])) ∧ ∀ z ∈ zs, (Lit.int k z).wf = true
theorem Is.keep {k : IntKind} {w w' : World} {v : Value} {l : List Int} {S : List Nat} (h : Is k w v l) (K : Keep S w w') (hb : ∀ b, v.ownBlock = some b → b ∉ S) : Is k w' v l := by
  obtain ⟨a, cap, rfl, h1, h2, h3, h4, h5⟩ := h
  refine ⟨a, cap, rfl, h1, h2, h3, fun x hx i hi => K.cell (h4 x hx i hi) ?_, h5⟩
  subst hx
  have : (x.add i).block = x.block := by unfold Addr.add; split <;> rfl
  rw [this]; exact hb _ rfl

theorem Is.at {k : IntKind} {w : World} {v : Value} {zs : List Int} (h : Is k w v zs) (i : Nat) (hi : i < zs.length) : ∃ b off cap, v = .slice (some ⟨b, off, none⟩) zs.length cap ∧ w.cell? ⟨b, off + i, none⟩ = some (.int k zs[i]) := by
  obtain ⟨a, cap, rfl, h1, h2, h3, h4, h5⟩ := h
  cases a with
  | none => have := h3 rfl; omega
  | some x =>
    obtain ⟨b, off, spot⟩ := x
    have hc := h4 _ rfl 0 (by omega)
    have hspot : spot = none := by simpa [Addr.add] using World.cell?_spot hc
    subst hspot
    refine ⟨b, off, cap, rfl, ?_⟩
    rw [← h4 _ rfl i hi]
    unfold Addr.add; split <;> simp_all
/-- v is a slice of n readings, of kinds K and numbers N -/
def isReads (w : World) (v : Value) (x : Nat × (Nat → Int) × (Nat → Int)) : Prop := x.1 ≤ 9223372036854775807 ∧ ∃ a cap, v = .slice a x.1 cap ∧ (0 < x.1 → ∃ b off, a = some ⟨b, off, none⟩ ∧ ∀ i, i < x.1 → w.cell? ⟨b, off + i * 2, none⟩ = some (.int .i64 (x.2.1 i)) ∧ w.cell? ⟨b, off + i * 2 + 1, none⟩ = some (.int .i64 (x.2.2 i)))

section
variable {H : Type} {enc : TypeId × Value → H} {W : World} {base base0 : Nat} {spare : Nat → Bool} {held : Bool} {v : Value} {d : DataW H} {p : List MemPlace}
theorem open_is {t e : TypeId} {k : IntKind} (ht : Tryz.prog.underlying t = some (.slice e)) (he : Tryz.prog.underlying e = some (.int k)) (hone : Tryz.prog.cellsOf e = 1)
    (hv : Value.okWide Tryz.prog W .any base0 t v) (h : DataW.Trod enc Tryz.prog W base spare held t v d p) : ∃ zs, Is k W v zs := by
  obtain ⟨a, len, cap, rfl⟩ := okWide_slice ht hv
  obtain ⟨fuel, hf⟩ := h
  rcases open_ints ht he hone hf with ⟨hcs, _⟩ | ⟨x, l, c, zs, hcs, _, hl, hm, hz, _, hcell, hwz⟩
  · simp [Value.cells] at hcs
    obtain ⟨rfl, rfl, rfl⟩ := hcs
    exact ⟨[], none, 0, rfl, by simp, by simp [maxLen], fun _ => rfl, (fun x hx => nomatch hx), by simp⟩
  · simp [Value.cells] at hcs
    obtain ⟨rfl, rfl, rfl⟩ := hcs
    have hlz : len ≤ zs.length := by
      rw [hz]; split <;> omega
    have e : (zs.take len).length = len := by simp; omega
    refine ⟨zs.take len, some x, cap, by rw [e], by rw [e]; exact hl, hm, (fun h => nomatch h), fun y hy i hi => ?_, fun z hz' => hwz z (List.mem_of_mem_take hz')⟩
    obtain rfl : x = y := by simpa using hy
    rw [e] at hi
    rw [hcell i (by omega)]
    simp [List.getD_eq_getElem?_getD, List.getElem?_eq_getElem (show i < zs.length by omega)]
theorem u8_of_wf {z : Int} (h : (Lit.int .u8 z).wf = true) : ((UInt8.ofNat z.toNat).toNat : Int) = z := by
  have : 0 ≤ z ∧ z ≤ 255 := by simpa [Lit.wf, IntKind.min, IntKind.max, IntKind.bits, IntKind.signed] using h
  have h2 : z.toNat % 256 = z.toNat := by omega
  simp [UInt8.toNat_ofNat']; omega
theorem Is.bs {w : World} {v : Value} {zs : List Int} (h : Is .u8 w v zs) : Bs w v (zs.map fun z => UInt8.ofNat z.toNat) := by
  obtain ⟨a, cap, rfl, h1, h2, h3, h4, h5⟩ := h
  refine ⟨a, cap, by simp, by simpa using h1, h2, h3, fun x hx i hi => ?_⟩
  have hi' : i < zs.length := by simpa using hi
  rw [h4 x hx i hi', List.getElem_map, u8_of_wf (h5 _ (List.getElem_mem hi'))]
theorem open_bs (hv : Value.okWide Tryz.prog W .any base0 22 v) (h : DataW.Trod enc Tryz.prog W base spare held 22 v d p) : ∃ l, Bs W v l := by
  obtain ⟨zs, hz⟩ := open_is Tryz.underlying22 Tryz.underlying5 (by kernel_rfl) hv h
  exact ⟨_, hz.bs⟩
/-- v is a slice of n elements of m cells each: C i j is the j-th cell of the i-th -/
def Sts (w : World) (v : Value) (n m : Nat) (C : Nat → Nat → Value) : Prop :=
  ∃ a cap, v = .slice a n cap ∧ n ≤ cap ∧ cap ≤ maxLen ∧ (a = none → cap = 0) ∧ ∀ x, a = some x → ∀ i, i < n → ∀ j, j < m → w.cell? (x.add (i * m + j)) = some (C i j)
theorem Sts.keep {w w' : World} {v : Value} {n m : Nat} {C : Nat → Nat → Value} {S : List Nat} (h : Sts w v n m C) (k : Keep S w w') (hb : ∀ b, v.ownBlock = some b → b ∉ S) : Sts w' v n m C := by
  obtain ⟨a, cap, rfl, h1, h2, h3, h4⟩ := h
  refine ⟨a, cap, rfl, h1, h2, h3, fun x hx i hi j hj => k.cell (h4 x hx i hi j hj) ?_⟩
  subst hx
  have : (x.add (i * m + j)).block = x.block := by unfold Addr.add; split <;> rfl
  rw [this]; exact hb _ rfl
theorem Sts.cases {w : World} {v : Value} {n m : Nat} {C : Nat → Nat → Value} (hm : 0 < m) (h : Sts w v n m C) : (n = 0 ∧ ∃ a cap, v = .slice a 0 cap ∧ cap ≤ maxLen ∧ (a = none → cap = 0)) ∨
    (0 < n ∧ ∃ b off cap, v = .slice (some ⟨b, off, none⟩) n cap ∧ n ≤ cap ∧ cap ≤ maxLen ∧ b < w.heap.size ∧ ∀ i, i < n → ∀ j, j < m → w.cell? ⟨b, off + (i * m + j), none⟩ = some (C i j)) := by
  obtain ⟨a, cap, rfl, h1, h2, h3, h4⟩ := h
  by_cases hl : n = 0
  · left; exact ⟨hl, a, cap, by rw [hl], h2, h3⟩
  · right
    cases a with
    | none => have := h3 rfl; omega
    | some x =>
      obtain ⟨b, off, spot⟩ := x
      have hc := h4 _ rfl 0 (by omega) 0 hm
      have hspot : spot = none := by simpa [Addr.add] using World.cell?_spot hc
      subst hspot
      refine ⟨by omega, b, off, cap, rfl, h1, h2, by have := World.block_lt_of_cell? w _ hc; simpa [Addr.add] using this, fun i hi j hj => ?_⟩
      rw [← h4 _ rfl i hi j hj]
      unfold Addr.add; split <;> simp_all
open Go.Deep in
theorem open_sts {t e : TypeId} {fs : Array Field} (ht : Tryz.prog.underlying t = some (.slice e)) (he : Tryz.prog.underlying e = some (.struct fs)) (hone : oneCellFields Tryz.prog fs = true) (hC : Tryz.prog.cellsOf e = fs.size)
    (hv : Value.okWide Tryz.prog W .any base0 t v) (h : DataW.Trod enc Tryz.prog W base spare held t v d p) :
    ∃ n C, Sts W v n fs.size C ∧ ∀ i, i < n → ∀ j f, fs[j]? = some f → ∃ (fuel : Nat) (y : DataW H × List MemPlace), DataW.trod enc Tryz.prog W base spare held fuel f.type [C i j] = some y := by
  obtain ⟨a0, len0, cap0, rfl⟩ := okWide_slice ht hv
  obtain ⟨fuel, hf⟩ := h
  rcases open_slice ht hf with ⟨hcs, _⟩ | ⟨a, len, cap, m, n, D, Pl, hcs, hb, hl, hm, hmm, hx, hi⟩
  · simp [Value.cells] at hcs
    obtain ⟨rfl, rfl, rfl⟩ := hcs
    exact ⟨0, fun _ _ => undef, ⟨none, 0, rfl, by simp, by simp [maxLen], fun _ => rfl, (fun x hx => nomatch hx)⟩, fun i hi => absurd hi (by omega)⟩
  · simp [Value.cells] at hcs
    obtain ⟨rfl, rfl, rfl⟩ := hcs
    have key : ∀ i, ∃ (Ci : Nat → Value), i < len0 → (∀ j, j < fs.size → W.cell? (a.add (i * fs.size + j)) = some (Ci j)) ∧ ∀ j f, fs[j]? = some f → ∃ (fuel : Nat) (y : DataW H × List MemPlace), DataW.trod enc Tryz.prog W base spare held fuel f.type [Ci j] = some y := by
      intro i
      by_cases him : i < len0
      · have hm2 : i < m := by rw [hmm]; split <;> omega
        obtain ⟨cs', hc, ht'⟩ := hi i hm2
        rw [hC] at hc
        obtain ⟨ys, n', hn', hy, hlen, hyl, hf⟩ := DataW.trod_struct he ht'
        obtain ⟨_, hcl, hat⟩ := World.cells?_some hc
        refine ⟨fun j => cs'.getD j undef, fun _ => ⟨fun j hj => ?_, fun j f hj => ?_⟩⟩
        · have hcell := hat j hj
          have hv : cs'[j]? = some (cs'[j]'(by omega)) := List.getElem?_eq_getElem (by omega)
          rw [← Go.Deep.add_add, hcell]; simp only [List.getD_eq_getElem?_getD]; rw [hv]; rfl
        · obtain ⟨ho, hk⟩ := hone_of hone j f hj
          have hjl : j < fs.size := (Array.getElem?_eq_some_iff.1 hj).1
          have h1 := hf j f hj
          rw [ho, hk] at h1
          have hone' : (cs'.drop j).take 1 = [cs'.getD j undef] := by
            rw [List.drop_eq_getElem_cons (by omega), List.getD_eq_getElem?_getD, List.getElem?_eq_getElem (by omega)]
            rfl
          rw [hone'] at h1
          have hys : ys[j]? = some (ys[j]'(by omega)) := List.getElem?_eq_getElem (by omega)
          exact ⟨_, _, h1.trans hys⟩
      · exact ⟨fun _ => undef, fun h => absurd h him⟩
    refine ⟨len0, fun i => Classical.choose (key i), ⟨some a, cap0, rfl, hl, hm, (fun h => nomatch h), fun x hx i hi j hj => ?_⟩, fun i hi => (Classical.choose_spec (key i) hi).2⟩
    obtain rfl : a = x := by simpa using hx
    exact (Classical.choose_spec (key i) hi).1 j hj
theorem int_of_trod {t : TypeId} {k : IntKind} {u : Value} {fuel : Nat} {y : DataW H × List MemPlace} (ht : Tryz.prog.underlying t = some (.int k)) (h : DataW.trod enc Tryz.prog W base spare held fuel t [u] = some y) : ∃ z, u = .int k z ∧ (Lit.int k z).wf = true := by
  obtain ⟨z, h1, _, h2⟩ := DataW.trod_int ht h
  exact ⟨z, by simpa using h1, h2⟩
theorem bs_of_trod {u : Value} {fuel : Nat} {y : DataW H × List MemPlace} (h : DataW.trod enc Tryz.prog W base spare held fuel 22 [u] = some y) : ∃ l, Bs W u l := by
  rcases open_ints Tryz.underlying22 Tryz.underlying5 (by kernel_rfl) h with ⟨hcs, _⟩ | ⟨x, l, c, zs, hcs, _, hl, hm, hz, _, hcell, hwz⟩
  · obtain rfl : u = .slice none 0 0 := by simpa using hcs
    exact ⟨[], Bs.nil W⟩
  · obtain rfl : u = .slice (some x) l c := by simpa using hcs
    have hlz : l ≤ zs.length := by rw [hz]; split <;> omega
    have e : (zs.take l).length = l := by simp; omega
    refine ⟨_, Is.bs (zs := zs.take l) ⟨some x, c, by rw [e], by rw [e]; exact hl, hm, (fun h => nomatch h), fun y hy i hi => ?_, fun z hz' => hwz z (List.mem_of_mem_take hz')⟩⟩
    obtain rfl : x = y := by simpa using hy
    rw [e] at hi
    rw [hcell i (by omega)]
    simp [List.getD_eq_getElem?_getD, List.getElem?_eq_getElem (show i < zs.length by omega)]
theorem trod_lt' (h : DataW.Trod enc Tryz.prog W base spare held 22 v d p) : ∀ x ∈ p, x.block < W.heap.size := by
  obtain ⟨m, hm⟩ := h; exact DataW.trod_lt m _ _ _ hm
end
end Go.Proofs.YtokfcgloogdeiaaGreatDoor
namespace Go.Proofs.YtokfcgloogdeiaaGreatDoor
set_option linter.unusedVariables false
set_option linter.unusedSimpArgs false
set_option maxRecDepth 100000
open Go.ChangeShapes Go.WideShapes Go.ChangeAt Go.RowKit
section
variable {H : Type} {enc : TypeId × Value → H} {W : World} {base base0 : Nat} {spare : Nat → Bool} {held : Bool} {v : Value} {d : DataW H} {p : List MemPlace}
theorem open_is64 (hv : Value.okWide Tryz.prog W .any base0 38 v) (h : DataW.Trod enc Tryz.prog W base spare held 38 v d p) : ∃ l, Is .i64 W v l :=
  open_is Tryz.underlying38 Tryz.underlying3 (by kernel_rfl) hv h
end
end Go.Proofs.YtokfcgloogdeiaaGreatDoor
