/- Contracts of Align, PutBytes, Bytes of bitio.Writer. -/
import Derived.Test.YtblogjpoijfpbaaBitWr
namespace Go.Proofs.Ytblogjpoijfpbaa
set_option linter.unusedVariables false
set_option linter.unusedSimpArgs false
set_option maxRecDepth 100000
open Go.ChangeShapes Go.WideShapes Go.ChangeAt Go.RowKit

theorem pad8_of (l : List UInt8) (x h : Nat) (h8 : h < 8) (h0 : 0 < h) : pad8 (toBits l ++ bitsOf x h) = (toBits l ++ bitsOf x h) ++ bitsOf 0 (cln (8 - h)) := by
  unfold pad8
  rw [bitsOf_zero]
  congr 2
  unfold cln
  simp only [List.length_append, toBits_length, bitsOf_length]
  omega
theorem Bs.addr_any {w : World} {a : Option Addr} {n cap : Nat} (h : Bs w (.slice a n cap) []) : n = 0 := by
  obtain ⟨_, _, h, _⟩ := h; simp only [Value.slice.injEq] at h; simpa using h.2.1
theorem wbytes_c (w : World) (r : Nat) (v : Value) (bs : List Bool) (H : Wr w r v bs) (hl : bs.length ≤ 1125899906842000) : Calls Try.prog 28 #[.pointer (some ⟨r, 0, none⟩)] w fun e w' => ∃ v' l', e = .returned v' ∧ OwnB w' v' l' ∧ toBits l' = pad8 bs ∧
      Keep [] w w' ∧ (∀ b, v'.ownBlock = some b → w.heap.size ≤ b) := by
  obtain ⟨l, x, h, h1, h2, rfl⟩ := H
  have hlen : l.length + 1 ≤ 140737488355328 := by simp [toBits_length, bitsOf_length] at hl; omega
  have c0 := h1.1.cell 0 _ rfl
  have c2 := h1.1.cell 2 _ rfl
  have hc := Lib.hid (clone_c w v l (by omega) h1.2.1.bs)
  obtain ⟨a1, n1, cp1, rfl⟩ := h1.2.1.shape
  go_enter Try.func28, Try.ntmps28
  go_wp2_with fail
  refine hc.out.mono ?_
  rintro e w1 ⟨v1, rfl, ho1, hk1, hv1⟩
  have HB := h1.1.keep hk1 (by simp)
  have d1 := HB.cell 1 _ rfl
  have d2 := HB.cell 2 _ rfl
  clear c0 c2
  by_cases hh : h = 0
  · subst hh
    go_wp2
    go_ret
    exact ⟨v1, l, rfl, ho1, by simp [bitsOf, pad8_whole], hk1, hv1⟩
  · have h0 : 0 < (h : Int) := by omega
    have hsn := Lib.hid (toBits_snoc l x h h1.2.2.1 h2 (by omega))
    have KA : Keep [] w1 (w1.alloc (.cells #[.int .u8 (IntKind.u8.wrap ↑x)] 5)) := (Keep.refl [] w1).alloc _
    have HO := ho1.keep KA (by simp)
    have HS : Bs (w1.alloc (.cells #[.int .u8 (IntKind.u8.wrap ↑x)] 5)) (.slice (some ⟨w1.heap.size, 0, none⟩) 1 1) [UInt8.ofNat x] := Bs.new1'' _ _
    rw [IntKind.wrap_u8'] at HO HS KA
    go_wp2_with (at_builtin; (refine wpList_appendB (.tmp 16) (.tmp 22) rfl rfl v1 l rfl HO (.slice (some ⟨w1.heap.size, 0, none⟩) 1 1) [UInt8.ofNat x] rfl HS hlen ?_); (intro v3 w3 ho3 hk3 hb3 hz3))
    go_ret
    refine ⟨v3, _, rfl, ho3, hsn.out, (hk1.trans KA (by simp)).trans hk3 (fun b hb => .inr (hv1 b (by simpa using hb))), ?_⟩
    intro b hb'
    rcases hb3 b hb' with h | h
    · exact hv1 b h
    · have := hk1.size; simp at h; omega
end Go.Proofs.Ytblogjpoijfpbaa
