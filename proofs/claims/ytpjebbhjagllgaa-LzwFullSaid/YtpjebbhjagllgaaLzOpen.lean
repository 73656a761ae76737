/- A slice of calls of layer 10, opened. -/
import Derived.Test.YtpjebbhjagllgaaOpen
namespace Go.Proofs.Ytpjebbhjagllgaa
set_option linter.unusedVariables false
set_option linter.unusedSimpArgs false
open Go.ChangeShapes Go.WideShapes Go.ChangeAt Go.RowKit

/-- n calls: kinds, parents, bytes -/
structure DzL where
  n : Nat
  K : Nat → Int
  P : Nat → Int
  C : Nat → UInt8
def isDzs (w : World) (v : Value) (x : DzL) : Prop := x.n ≤ 9223372036854775807 ∧ ∃ a cap, v = .slice a x.n cap ∧ (0 < x.n → ∃ b off, a = some ⟨b, off, none⟩ ∧ b < w.heap.size ∧ ∀ i, i < x.n →
  w.cell? ⟨b, off + i * 3, none⟩ = some (.int .i64 (x.K i)) ∧ w.cell? ⟨b, off + i * 3 + 1, none⟩ = some (.int .i64 (x.P i)) ∧ w.cell? ⟨b, off + i * 3 + 2, none⟩ = some (.int .u8 ((x.C i).toNat)) ∧
  (Lit.int .i64 (x.K i)).wf = true ∧ (Lit.int .i64 (x.P i)).wf = true)
theorem isDzs.keep {w w' : World} {v : Value} {x : DzL} (h : isDzs w v x) (k : Keep [] w w') : isDzs w' v x := by
  obtain ⟨h1, a, cap, rfl, h2⟩ := h
  refine ⟨h1, a, cap, rfl, fun hp => ?_⟩
  obtain ⟨b, off, rfl, hb, hc⟩ := h2 hp
  refine ⟨b, off, rfl, Nat.lt_of_lt_of_le hb k.size, fun i hi => ?_⟩
  obtain ⟨c1, c2, c3, c4, c5⟩ := hc i hi
  exact ⟨k.cellW c1, k.cellW c2, k.cellW c3, c4, c5⟩
section
variable {H : Type} {enc : TypeId × Value → H} {W : World} {base base0 : Nat} {spare : Nat → Bool} {held : Bool} {v : Value} {d : DataW H} {p : List MemPlace}
theorem open_dzs (hv : Value.okWide Try.prog W .any base0 22 v) (h : DataW.Trod enc Try.prog W base spare held 22 v d p) : ∃ x, isDzs W v x := by
  obtain ⟨n, C, hst, hf⟩ := open_sts Try.underlying22 Try.underlying28 (by kernel_rfl) (by kernel_rfl) hv h
  have k0 : ∀ i, i < n → C i 0 = .int .i64 (intOf (C i 0)) ∧ (Lit.int .i64 (intOf (C i 0))).wf = true := fun i hi => by
    obtain ⟨f, y, hy⟩ := hf i hi 0 _ rfl; obtain ⟨z, hz, hw⟩ := int_of_trod Try.underlying3 hy; rw [hz]; exact ⟨rfl, hw⟩
  have k1 : ∀ i, i < n → C i 1 = .int .i64 (intOf (C i 1)) ∧ (Lit.int .i64 (intOf (C i 1))).wf = true := fun i hi => by
    obtain ⟨f, y, hy⟩ := hf i hi 1 _ rfl; obtain ⟨z, hz, hw⟩ := int_of_trod Try.underlying3 hy; rw [hz]; exact ⟨rfl, hw⟩
  have k2 : ∀ i, i < n → C i 2 = .int .u8 ((UInt8.ofNat (intOf (C i 2)).toNat).toNat) := fun i hi => by
    obtain ⟨f, y, hy⟩ := hf i hi 2 _ rfl; obtain ⟨z, hz, hw⟩ := int_of_trod Try.underlying5 hy
    rw [hz]; simp only [intOf]; rw [u8_of_wf hw]
  have hn : n ≤ 9223372036854775807 := by obtain ⟨a, cap, rfl, h1, h2, _⟩ := hst; unfold maxLen at h2; omega
  refine ⟨⟨n, fun i => intOf (C i 0), fun i => intOf (C i 1), fun i => UInt8.ofNat (intOf (C i 2)).toNat⟩, hn, ?_⟩
  rcases hst.cases (by decide) with ⟨h0, a, cap, rfl, _⟩ | ⟨hp, b, off, cap, rfl, hb1, hb2, hb3, hc⟩
  · exact ⟨a, cap, by simp only [h0], fun h => by simp only [h0] at h; omega⟩
  · refine ⟨_, cap, rfl, fun _ => ⟨b, off, rfl, ?_, fun i hi => ⟨?_, ?_, ?_, (k0 i hi).2, (k1 i hi).2⟩⟩⟩
    · assumption
    · rw [← (k0 i hi).1]; exact hc i hi 0 (by decide)
    · rw [← (k1 i hi).1]; exact hc i hi 1 (by decide)
    · rw [← k2 i hi]; exact hc i hi 2 (by decide)
end
end Go.Proofs.Ytpjebbhjagllgaa
