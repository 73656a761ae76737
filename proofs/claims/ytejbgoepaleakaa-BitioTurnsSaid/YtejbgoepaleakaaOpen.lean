import Derived.Test.YtejbgoepaleakaaMem
import Derived.OpenShut
import Derived.ShutString
import Derived.ChangeOld
/-! Arguments opened, and the row's step, in lemmas. -/
namespace Go.Proofs.Ytejbgoepaleakaa
set_option linter.unusedVariables false
set_option linter.unusedSimpArgs false
open Go.ChangeShapes Go.WideShapes Go.ChangeAt Go.RowKit
open Go.ChangeMaps (open_string shut_string)

theorem own : ownKnob Try.prog.godebug = none := by kernel_rfl
theorem laidOut : laidOutB Try.prog = true := by kernel_rfl

/-- the integers that are a slice's elements -/
def Is (k : IntKind) (w : World) (v : Value) (zs : List Int) : Prop :=
  ∃ a cap, v = .slice a zs.length cap ∧ zs.length ≤ cap ∧ cap ≤ maxLen ∧ (a = none → cap = 0) ∧
    (∀ x, a = some x → ∀ i (hi : i < zs.length), w.cell? (x.add i) = some (.int k zs[i])) ∧ ∀ z ∈ zs, (Lit.int k z).wf = true
theorem Is.keep {k : IntKind} {w w' : World} {v : Value} {l : List Int} {S : List Nat} (h : Is k w v l) (K : Keep S w w') (hb : ∀ b, v.ownBlock = some b → b ∉ S) : Is k w' v l := by
  obtain ⟨a, cap, rfl, h1, h2, h3, h4, h5⟩ := h
  refine ⟨a, cap, rfl, h1, h2, h3, fun x hx i hi => K.cell (h4 x hx i hi) ?_, h5⟩
  subst hx
  have : (x.add i).block = x.block := by unfold Addr.add; split <;> rfl
  rw [this]; exact hb _ rfl

section
variable {H : Type} {enc : TypeId × Value → H} {W : World} {base : Nat} {spare : Nat → Bool} {held : Bool} {v : Value} {d : DataW H} {p : List MemPlace}
theorem open_is {t e : TypeId} {k : IntKind} (ht : Try.prog.underlying t = some (.slice e)) (he : Try.prog.underlying e = some (.int k)) (hone : Try.prog.cellsOf e = 1)
    (hv : Value.okWide Try.prog W .any base t v) (h : DataW.Trod enc Try.prog W base spare held t v d p) : ∃ zs, Is k W v zs := by
  obtain ⟨a, len, cap, rfl⟩ := okWide_slice ht hv
  obtain ⟨fuel, hf⟩ := h
  rcases open_ints ht he hone hf with ⟨hcs, _⟩ | ⟨x, l, c, zs, hcs, _, hl, hm, hz, _, hcell, hwz⟩
  · simp [Value.cells] at hcs
    obtain ⟨rfl, rfl, rfl⟩ := hcs
    exact ⟨[], none, 0, rfl, by simp, by simp [maxLen], fun _ => rfl, (fun x hx => nomatch hx), by simp⟩
  · simp [Value.cells] at hcs
    obtain ⟨rfl, rfl, rfl⟩ := hcs
    have hlz : len ≤ zs.length := by
      rw [hz]; split <;> omega
    have e : (zs.take len).length = len := by simp; omega
    refine ⟨zs.take len, some x, cap, by rw [e], by rw [e]; exact hl, hm, (fun h => nomatch h), fun y hy i hi => ?_, fun z hz' => hwz z (List.mem_of_mem_take hz')⟩
    obtain rfl : x = y := by simpa using hy
    rw [e] at hi
    rw [hcell i (by omega)]
    simp [List.getD_eq_getElem?_getD, List.getElem?_eq_getElem (show i < zs.length by omega)]
theorem u8_of_wf {z : Int} (h : (Lit.int .u8 z).wf = true) : ((UInt8.ofNat z.toNat).toNat : Int) = z := by
  have : 0 ≤ z ∧ z ≤ 255 := by simpa [Lit.wf, IntKind.min, IntKind.max, IntKind.bits, IntKind.signed] using h
  have h2 : z.toNat % 256 = z.toNat := by omega
  simp [UInt8.toNat_ofNat']; omega
theorem Is.bs {w : World} {v : Value} {zs : List Int} (h : Is .u8 w v zs) : Bs w v (zs.map fun z => UInt8.ofNat z.toNat) := by
  obtain ⟨a, cap, rfl, h1, h2, h3, h4, h5⟩ := h
  refine ⟨a, cap, by simp, by simpa using h1, h2, h3, fun x hx i hi => ?_⟩
  have hi' : i < zs.length := by simpa using hi
  rw [h4 x hx i hi', List.getElem_map, u8_of_wf (h5 _ (List.getElem_mem hi'))]
theorem open_bs (hv : Value.okWide Try.prog W .any base 22 v) (h : DataW.Trod enc Try.prog W base spare held 22 v d p) : ∃ l, Bs W v l := by
  obtain ⟨zs, hz⟩ := open_is Try.underlying22 Try.underlying5 (by kernel_rfl) hv h
  exact ⟨_, hz.bs⟩
theorem trod_lt' (h : DataW.Trod enc Try.prog W base spare held 22 v d p) : ∀ x ∈ p, x.block < W.heap.size := by
  obtain ⟨m, hm⟩ := h; exact DataW.trod_lt m _ _ _ hm
end
end Go.Proofs.Ytejbgoepaleakaa
