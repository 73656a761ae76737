/- A slice of readings that can be read as data, opened. -/
import Derived.Test.YtgohdhpokehflaaOpen
import Derived.Test.YtgohdhpokehflaaFldLaw1
namespace Go.Proofs.Ytgohdhpokehflaa
set_option linter.unusedVariables false
set_option linter.unusedSimpArgs false
open Go.ChangeShapes Go.WideShapes Go.ChangeAt Go.RowKit
section
variable {H : Type} {enc : TypeId × Value → H} {W : World} {base base0 : Nat} {spare : Nat → Bool} {held : Bool} {v : Value} {d : DataW H} {p : List MemPlace}
theorem open_reads (hv : Value.okWide Try.prog W .any base0 23 v) (h : DataW.Trod enc Try.prog W base spare held 23 v d p) : ∃ x, isReads W v x := by
  obtain ⟨n, C, hst, hf⟩ := open_sts Try.underlying23 Try.underlying32 (by kernel_rfl) (by kernel_rfl) hv h
  have key : ∀ i j, i < n → j < 2 → ∃ z, C i j = .int .i64 z := by
    intro i j hi hj
    match j, hj with
    | 0, _ => obtain ⟨f, y, hy⟩ := hf i hi 0 _ rfl; obtain ⟨z, hz, _⟩ := int_of_trod Try.underlying3 hy; exact ⟨z, hz⟩
    | 1, _ => obtain ⟨f, y, hy⟩ := hf i hi 1 _ rfl; obtain ⟨z, hz, _⟩ := int_of_trod Try.underlying3 hy; exact ⟨z, hz⟩
  have hval : ∀ i j, i < n → j < 2 → C i j = .int .i64 (intOf (C i j)) := by
    intro i j hi hj
    obtain ⟨z, hz⟩ := key i j hi hj
    rw [hz]; rfl
  have hn : n ≤ 9223372036854775807 := by obtain ⟨a, cap, rfl, h1, h2, _⟩ := hst; unfold maxLen at h2; omega
  refine ⟨(n, fun i => intOf (C i 0), fun i => intOf (C i 1)), hn, ?_⟩
  rcases hst.cases (by decide) with ⟨h0, a, cap, rfl, _⟩ | ⟨hp, b, off, cap, rfl, _, _, _, hc⟩
  · exact ⟨a, cap, by simp only [h0], fun h => by simp only [h0] at h; omega⟩
  · refine ⟨_, cap, rfl, fun _ => ⟨b, off, rfl, fun i hi => ⟨?_, ?_⟩⟩⟩
    · rw [← hval i 0 hi (by decide)]; exact hc i hi 0 (by decide)
    · rw [← hval i 1 hi (by decide)]; exact hc i hi 1 (by decide)
end
end Go.Proofs.Ytgohdhpokehflaa
