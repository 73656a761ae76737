/- A shape that can be read as data, opened. No condition beyond each theorem's own premises. -/
import Derived.Test.YtgojekhcdcgonaaRefFin
import Derived.Test.YtgojekhcdcgonaaOpen
import Derived.Lib.SmallJoins
namespace Go.Proofs.Ytgojekhcdcgonaa
set_option linter.unusedVariables false
set_option linter.unusedSimpArgs false
open Go.ChangeShapes Go.WideShapes Go.ChangeAt Go.RowKit
section
variable {H : Type} {enc : TypeId × Value → H} {W : World} {base base0 : Nat} {spare : Nat → Bool} {held : Bool} {v : Value} {d : DataW H} {p : List MemPlace}
theorem open_sh (hv : Value.okWide Try.prog W .any base0 24 v) (h : DataW.Trod enc Try.prog W base spare held 24 v d p) : ∃ s : Sh, v = s.val := by
  have hs := Try.underlying24
  obtain ⟨cs, rfl, hsz⟩ := okWide_struct hs hv
  obtain ⟨fuel, hf⟩ := h
  obtain ⟨xs, n, _, _, hl, hlen, hall⟩ := DataW.trod_struct hs hf
  have h5 : Try.prog.cellsOf 24 = 5 := by kernel_rfl
  have c3 : Try.prog.cellsOf 3 = 1 := by kernel_rfl
  have c4 : Try.prog.cellsOf 4 = 1 := by kernel_rfl
  rw [h5] at hsz
  obtain ⟨l⟩ := cs
  have hl5 : l.length = 5 := by simpa using hsz
  obtain ⟨a0, a1, a2, a3, a4, rfl⟩ : ∃ a0 a1 a2 a3 a4, l = [a0, a1, a2, a3, a4] := by
    match l, hl5 with
    | [a0, a1, a2, a3, a4], _ => exact ⟨a0, a1, a2, a3, a4, rfl⟩
  have hx5 : xs.length = 5 := by simpa using hlen
  have key : ∀ (i : Nat) (hi : i < 5), ∃ y, xs[i]? = some y := fun i hi => ⟨_, List.getElem?_eq_getElem (by omega)⟩
  have hcs : (Value.agg ⟨[a0, a1, a2, a3, a4]⟩).cells.toList = [a0, a1, a2, a3, a4] := rfl
  rw [hcs] at hall
  obtain ⟨y0, k0⟩ := key 0 (by omega)
  obtain ⟨y1, k1⟩ := key 1 (by omega)
  obtain ⟨y2, k2⟩ := key 2 (by omega)
  obtain ⟨y3, k3⟩ := key 3 (by omega)
  obtain ⟨y4, k4⟩ := key 4 (by omega)
  have e0 := (hall 0 _ rfl).trans k0
  have e1 := (hall 1 _ rfl).trans k1
  have e2 := (hall 2 _ rfl).trans k2
  have e3 := (hall 3 _ rfl).trans k3
  have e4 := (hall 4 _ rfl).trans k4
  obtain ⟨z0, q0, _, _⟩ := DataW.trod_int Try.underlying3 e0
  obtain ⟨z1, q1, _, _⟩ := DataW.trod_int Try.underlying3 e1
  obtain ⟨z2, q2, _, _⟩ := DataW.trod_int Try.underlying3 e2
  obtain ⟨z3, q3, _, _⟩ := DataW.trod_int Try.underlying3 e3
  obtain ⟨b4, q4, _⟩ := DataW.trod_bool Try.underlying4 e4
  obtain rfl : a0 = .int .i64 z0 := by simpa [c3, c4] using q0
  obtain rfl : a1 = .int .i64 z1 := by simpa [c3, c4] using q1
  obtain rfl : a2 = .int .i64 z2 := by simpa [c3, c4] using q2
  obtain rfl : a3 = .int .i64 z3 := by simpa [c3, c4] using q3
  obtain rfl : a4 = .bool b4 := by simpa [c3, c4] using q4
  exact ⟨⟨z0, z1, z2, z3, b4⟩, rfl⟩
end
end Go.Proofs.Ytgojekhcdcgonaa
