/- An array of integers that can be read as data, opened. No condition beyond each theorem's own premises. -/
import Derived.Test.YtplamdejdibbhaaOpen
import Derived.Test.YtplamdejdibbhaaRefCrc
namespace Go.Proofs.Ytplamdejdibbhaa
set_option linter.unusedVariables false
set_option linter.unusedSimpArgs false
open Go.ChangeShapes Go.WideShapes Go.ChangeAt Go.RowKit
section
variable {H : Type} {enc : TypeId × Value → H} {W : World} {base base0 : Nat} {spare : Nat → Bool} {held : Bool} {v : Value} {d : DataW H} {p : List MemPlace}
theorem open_arr' {t e : TypeId} {n : Nat} {k : IntKind} (ht : Try.prog.underlying t = some (.array n e)) (he : Try.prog.underlying e = some (.int k)) (hone : Try.prog.cellsOf e = 1) (hC : Try.prog.cellsOf t = n)
    (hv : Value.okWide Try.prog W .any base0 t v) (h : DataW.Trod enc Try.prog W base spare held t v d p) : ∃ cs : Array Value, v = .agg cs ∧ cs.size = n ∧ ∀ i, i < n → ∃ z, cs[i]? = some (.int k z) ∧ (Lit.int k z).wf = true := by
  simp only [Value.okWide, ht] at hv
  obtain ⟨cs, rfl, hs, _⟩ := hv
  rw [hC] at hs
  obtain ⟨fuel, hf⟩ := h
  obtain ⟨xs, m, rfl, _, hl, hxl, hi⟩ := DataW.trod_array ht hf
  refine ⟨cs, rfl, hs, fun i hin => ?_⟩
  have h1 := hi i hin
  rw [hone, Nat.mul_one] at h1
  have hcl : (Value.agg cs).cells = cs := rfl
  have hi2 : i < cs.size := by omega
  have e1 : ((Value.agg cs).cells.toList.drop i).take 1 = [cs[i]] := by
    rw [hcl, List.drop_eq_getElem_cons (by simpa using hi2)]; simp
  rw [e1] at h1
  have hx : xs[i]? = some (xs[i]'(by omega)) := List.getElem?_eq_getElem (by omega)
  obtain ⟨z, hz, _, hw⟩ := DataW.trod_int he (h1.trans hx)
  exact ⟨z, by rw [Array.getElem?_eq_getElem hi2]; simpa using hz, hw⟩
theorem open_tab (hv : Value.okWide Try.prog W .any base0 23 v) (h : DataW.Trod enc Try.prog W base spare held 23 v d p) : ∃ T, Tab v T := by
  obtain ⟨cs, rfl, hs, hi⟩ := open_arr' Try.underlying23 Try.underlying22 (by kernel_rfl) (by kernel_rfl) hv h
  refine ⟨fun i => match cs[i]? with | some (.int _ z) => z.toNat | _ => 0, cs, rfl, hs, fun i hin => ?_⟩
  obtain ⟨z, hz, hw⟩ := hi i hin
  have hz2 : 0 ≤ z ∧ z ≤ 4294967295 := by simpa [Lit.wf, IntKind.min, IntKind.max, IntKind.bits, IntKind.signed] using hw
  simp only [hz]
  exact ⟨by rw [Int.toNat_of_nonneg hz2.1], by omega⟩
end
end Go.Proofs.Ytplamdejdibbhaa
