/- A slice of writings that can be read as data, opened. -/
import Derived.Test.YtgohdhpokehflaaOpen
namespace Go.Proofs.Ytgohdhpokehflaa
set_option linter.unusedVariables false
set_option linter.unusedSimpArgs false
open Go.ChangeShapes Go.WideShapes Go.ChangeAt Go.RowKit

/-- n writings: kinds, numbers, numbers of four bytes, bytes -/
structure WL where
  n : Nat
  K : Nat → Int
  N : Nat → Int
  X : Nat → Nat
  V : Nat → Value
  B : Nat → List UInt8
def isWrites (w : World) (v : Value) (x : WL) : Prop := x.n ≤ 9223372036854775807 ∧ ∃ a cap, v = .slice a x.n cap ∧ (0 < x.n → ∃ b off, a = some ⟨b, off, none⟩ ∧ ∀ i, i < x.n →
  w.cell? ⟨b, off + i * 4, none⟩ = some (.int .i64 (x.K i)) ∧ w.cell? ⟨b, off + i * 4 + 1, none⟩ = some (.int .i64 (x.N i)) ∧ w.cell? ⟨b, off + i * 4 + 2, none⟩ = some (.int .u32 (x.X i)) ∧ x.X i < 4294967296 ∧
  w.cell? ⟨b, off + i * 4 + 3, none⟩ = some (x.V i) ∧ Bs w (x.V i) (x.B i))
section
variable {H : Type} {enc : TypeId × Value → H} {W : World} {base base0 : Nat} {spare : Nat → Bool} {held : Bool} {v : Value} {d : DataW H} {p : List MemPlace}
theorem open_writes (hv : Value.okWide Try.prog W .any base0 43 v) (h : DataW.Trod enc Try.prog W base spare held 43 v d p) : ∃ x, isWrites W v x := by
  obtain ⟨n, C, hst, hf⟩ := open_sts Try.underlying43 Try.underlying47 (by kernel_rfl) (by kernel_rfl) hv h
  have k0 : ∀ i, i < n → C i 0 = .int .i64 (intOf (C i 0)) := fun i hi => by
    obtain ⟨f, y, hy⟩ := hf i hi 0 _ rfl; obtain ⟨z, hz, _⟩ := int_of_trod Try.underlying3 hy; rw [hz]; rfl
  have k1 : ∀ i, i < n → C i 1 = .int .i64 (intOf (C i 1)) := fun i hi => by
    obtain ⟨f, y, hy⟩ := hf i hi 1 _ rfl; obtain ⟨z, hz, _⟩ := int_of_trod Try.underlying3 hy; rw [hz]; rfl
  have k2 : ∀ i, i < n → C i 2 = .int .u32 ((intOf (C i 2)).toNat : Nat) ∧ (intOf (C i 2)).toNat < 4294967296 := fun i hi => by
    obtain ⟨f, y, hy⟩ := hf i hi 2 _ rfl; obtain ⟨z, hz, hw⟩ := int_of_trod Try.underlying34 hy
    have h : 0 ≤ z ∧ z ≤ 4294967295 := by simpa [Lit.wf, IntKind.min, IntKind.max, IntKind.bits, IntKind.signed] using hw
    rw [hz]; simp only [intOf]
    exact ⟨by rw [Int.toNat_of_nonneg h.1], by omega⟩
  have k3 : ∀ i, ∃ l, i < n → Bs W (C i 3) l := fun i => by
    by_cases hi : i < n
    · obtain ⟨f, y, hy⟩ := hf i hi 3 _ rfl; obtain ⟨l, hl⟩ := bs_of_trod hy; exact ⟨l, fun _ => hl⟩
    · exact ⟨[], fun h => absurd h hi⟩
  have hn : n ≤ 9223372036854775807 := by obtain ⟨a, cap, rfl, h1, h2, _⟩ := hst; unfold maxLen at h2; omega
  refine ⟨⟨n, fun i => intOf (C i 0), fun i => intOf (C i 1), fun i => (intOf (C i 2)).toNat, fun i => C i 3, fun i => Classical.choose (k3 i)⟩, hn, ?_⟩
  rcases hst.cases (by decide) with ⟨h0, a, cap, rfl, _⟩ | ⟨hp, b, off, cap, rfl, _, _, _, hc⟩
  · exact ⟨a, cap, by simp only [h0], fun h => by simp only [h0] at h; omega⟩
  · refine ⟨_, cap, rfl, fun _ => ⟨b, off, rfl, fun i hi => ⟨?_, ?_, ?_, (k2 i hi).2, hc i hi 3 (by decide), Classical.choose_spec (k3 i) hi⟩⟩⟩
    · rw [← k0 i hi]; exact hc i hi 0 (by decide)
    · rw [← k1 i hi]; exact hc i hi 1 (by decide)
    · rw [← (k2 i hi).1]; exact hc i hi 2 (by decide)
end

end Go.Proofs.Ytgohdhpokehflaa
