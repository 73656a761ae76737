/- Contracts of Align, PutBytes, Bytes of bitio.Writer. -/
import Derived.Test.YtejbgoepaleakaaBitWr
namespace Go.Proofs.Ytejbgoepaleakaa
set_option linter.unusedVariables false
set_option linter.unusedSimpArgs false
open Go.ChangeShapes Go.WideShapes Go.ChangeAt Go.RowKit

theorem pad8_of (l : List UInt8) (x h : Nat) (h8 : h < 8) (h0 : 0 < h) : pad8 (toBits l ++ bitsOf x h) = (toBits l ++ bitsOf x h) ++ bitsOf 0 (cln (8 - h)) := by
  unfold pad8
  rw [bitsOf_zero]
  congr 2
  unfold cln
  simp only [List.length_append, toBits_length, bitsOf_length]
  omega
theorem walign_c (w : World) (r : Nat) (v : Value) (bs : List Bool) (H : Wr w r v bs) (hl : bs.length ≤ 1125899906842000) : Calls Try.prog 30 #[.pointer (some ⟨r, 0, none⟩)] w fun e w' => ∃ v', e = .returned (.tuple #[]) ∧ Wr w' r v' (pad8 bs) ∧
      Keep (r :: v.ownBlock.toList) w w' ∧ (∀ b, v'.ownBlock = some b → v.ownBlock = some b ∨ w.heap.size ≤ b) := by
  have H0 := H
  obtain ⟨l, x, h, h1, h2, rfl⟩ := H
  have c2 := h1.1.cell 2 _ rfl
  by_cases hh : h = 0
  · subst hh
    have hp : Hid (pad8 (toBits l ++ bitsOf x 0) = toBits l ++ bitsOf x 0) := by unfold Hid; simp [bitsOf, pad8_whole]
    go_enter Try.func30, Try.ntmps30
    go_wp2
    go_end0
    exact ⟨v, rfl, by rw [hp.out]; exact H0, Keep.refl _ _, fun b hb => .inl hb⟩
  · have hp := Lib.hid (pad8_of l x h h2 (by omega))
    have h0 : 0 < (h : Int) := by omega
    go_enter Try.func30, Try.ntmps30
    go_wp2_with fail
    refine (wput_c w r v _ 0 (8 - h) (by decide) H0 hl).mono ?_
    rintro e w' ⟨v', rfl, hw, hk, hv⟩
    go_wp2_with fail
    go_end0
    exact ⟨v', rfl, by rw [hp.out]; exact hw, hk, hv⟩
theorem putbytes_c (w : World) (r : Nat) (v : Value) (bs : List Bool) (v2 : Value) (l2 : List UInt8) (H : Wr w r v bs) (hb : Bs w v2 l2) (hdis : l2 ≠ [] → ∀ b, v2.ownBlock = some b → b ≠ r ∧ v.ownBlock ≠ some b) (hl : bs.length + 8 * l2.length ≤ 1125899906842000) :
    Calls Try.prog 32 #[.pointer (some ⟨r, 0, none⟩), v2] w fun e w' => ∃ v', e = .returned (.tuple #[]) ∧ Wr w' r v' (pad8 bs ++ toBits l2) ∧
      Keep (r :: v.ownBlock.toList) w w' ∧ (∀ b, v'.ownBlock = some b → v.ownBlock = some b ∨ w.heap.size ≤ b) := by
  go_enter Try.func32, Try.ntmps32
  go_wp2_with fail
  refine (walign_c w r v bs H (by omega)).mono ?_
  rintro e w1 ⟨v1, rfl, H1, hk1, hv1⟩
  have hb1 : Bs w1 v2 l2 := hb.keep' hk1 (by
    intro hn b hb' hm
    have := hdis hn b hb'
    simp at hm
    rcases hm with hm | hm
    · exact this.1 hm
    · exact this.2 hm)
  obtain ⟨l, x, h, h1, h2, hpad⟩ := H1
  have hx0 : h = 0 := by
    have := congrArg List.length hpad
    simp [pad8, toBits_length, bitsOf_length] at this
    omega
  subst hx0
  have hlen : 8 * l.length ≤ bs.length + 8 := by
    have := congrArg List.length hpad
    simp [pad8, toBits_length, bitsOf_length] at this
    omega
  have HP := Lib.hid hpad; clear hpad
  have c0 := h1.1.cell 0 _ rfl
  obtain ⟨a1, n1, cp1, rfl⟩ := h1.2.1.shape
  have hr1 := h1.2.2.2
  have hB := h1.1
  have hO := h1.2.1
  have hll : l.length + l2.length ≤ 140737488355328 := by omega
  go_wp2_with (at_builtin; (refine wpList_appendB (.tmp 12) (.tmp 13) rfl rfl (.slice a1 n1 cp1) l rfl hO v2 l2 rfl hb1 hll ?_); (intro v3 w3 ho3 hk3 hb3 hz3); (obtain ⟨a3, n3, cp3, rfl⟩ := ho3.shape); (have HR3 := hB.keep hk3 (fun hm => hr1 r (by simpa using hm) rfl)); (have d0 := HR3.cell 0 _ rfl); (have g0 := HR3.free 0))
  go_end0
  have hr3 : ∀ b, (Value.slice a3 n3 cp3).ownBlock = some b → b ≠ r := by
    intro b hb' e
    rcases hb3 b hb' with h | h
    · exact hr1 b h e
    · have := hB.lt; omega
  refine ⟨.slice a3 n3 cp3, rfl, ⟨l ++ l2, x, 0, ⟨by simpa using HR3.set 0 (.slice a3 n3 cp3), ho3.keep ((Keep.refl [r] _).setCell (by simp) _) (by simpa using hr3), h1.2.2.1, hr3⟩, by decide, ?_⟩, ?_, ?_⟩
  · rw [HP.out]; simp [bitsOf, toBits_append]
  · refine (hk1.trans hk3 ?_).setCell (by simp) _
    intro b hb'
    have h := hv1 b (by simpa using hb')
    rcases h with h | h
    · left; simp [h]
    · right; exact h
  · intro b hb'
    rcases hb3 b hb' with h | h
    · exact hv1 b h
    · right; have := hk1.size; omega
theorem Bs.addr_any {w : World} {a : Option Addr} {n cap : Nat} (h : Bs w (.slice a n cap) []) : n = 0 := by
  obtain ⟨_, _, h, _⟩ := h; simp only [Value.slice.injEq] at h; simpa using h.2.1
theorem putbytes_c' (w : World) (r : Nat) (v : Value) (bs : List Bool) (v2 : Value) (l2 : List UInt8) (H : Wr w r v bs) (hb : Bs w v2 l2) (hdis : l2 ≠ [] → ∀ b, v2.ownBlock = some b → b ≠ r) (hdis2 : l2 ≠ [] → ∀ b, v2.ownBlock = some b → v.ownBlock ≠ some b) (hl : bs.length + 8 * l2.length ≤ 1125899906842000) :
    Calls Try.prog 32 #[.pointer (some ⟨r, 0, none⟩), v2] w fun e w' => ∃ v', e = .returned (.tuple #[]) ∧ Wr w' r v' (pad8 bs ++ toBits l2) ∧
      Keep (r :: v.ownBlock.toList) w w' ∧ (∀ b, v'.ownBlock = some b → v.ownBlock = some b ∨ w.heap.size ≤ b) := putbytes_c w r v bs v2 l2 H hb (fun hn b hb' => ⟨hdis hn b hb', hdis2 hn b hb'⟩) hl
theorem wbytes_c (w : World) (r : Nat) (v : Value) (bs : List Bool) (H : Wr w r v bs) (hl : bs.length ≤ 1125899906842000) : Calls Try.prog 34 #[.pointer (some ⟨r, 0, none⟩)] w fun e w' => ∃ v' l', e = .returned v' ∧ OwnB w' v' l' ∧ toBits l' = pad8 bs ∧
      Keep [] w w' ∧ (∀ b, v'.ownBlock = some b → w.heap.size ≤ b) := by
  obtain ⟨l, x, h, h1, h2, rfl⟩ := H
  have hlen : l.length + 1 ≤ 140737488355328 := by simp [toBits_length, bitsOf_length] at hl; omega
  have c0 := h1.1.cell 0 _ rfl
  have c2 := h1.1.cell 2 _ rfl
  have hc := Lib.hid (clone_c w v l (by omega) h1.2.1.bs)
  obtain ⟨a1, n1, cp1, rfl⟩ := h1.2.1.shape
  go_enter Try.func34, Try.ntmps34
  go_wp2_with fail
  refine hc.out.mono ?_
  rintro e w1 ⟨v1, rfl, ho1, hk1, hv1⟩
  have HB := h1.1.keep hk1 (by simp)
  have d1 := HB.cell 1 _ rfl
  have d2 := HB.cell 2 _ rfl
  clear c0 c2
  by_cases hh : h = 0
  · subst hh
    go_wp2
    go_ret
    exact ⟨v1, l, rfl, ho1, by simp [bitsOf, pad8_whole], hk1, hv1⟩
  · have h0 : 0 < (h : Int) := by omega
    have hsn := Lib.hid (toBits_snoc l x h h1.2.2.1 h2 (by omega))
    have KA : Keep [] w1 (w1.alloc (.cells #[.int .u8 (IntKind.u8.wrap ↑x)] 5)) := (Keep.refl [] w1).alloc _
    have HO := ho1.keep KA (by simp)
    have HS : Bs (w1.alloc (.cells #[.int .u8 (IntKind.u8.wrap ↑x)] 5)) (.slice (some ⟨w1.heap.size, 0, none⟩) 1 1) [UInt8.ofNat x] := Bs.new1'' _ _
    rw [IntKind.wrap_u8'] at HO HS KA
    go_wp2_with (at_builtin; (refine wpList_appendB (.tmp 16) (.tmp 22) rfl rfl v1 l rfl HO (.slice (some ⟨w1.heap.size, 0, none⟩) 1 1) [UInt8.ofNat x] rfl HS hlen ?_); (intro v3 w3 ho3 hk3 hb3 hz3))
    go_ret
    refine ⟨v3, _, rfl, ho3, hsn.out, (hk1.trans KA (by simp)).trans hk3 (fun b hb => .inr (hv1 b (by simpa using hb))), ?_⟩
    intro b hb'
    rcases hb3 b hb' with h | h
    · exact hv1 b h
    · have := hk1.size; simp at h; omega
end Go.Proofs.Ytejbgoepaleakaa
