/- Contracts of follow's Width, counted, of bytes.IndexByte and of the comparison that ranked sorts by. No condition beyond each theorem's own premises. -/
import Derived.Test.YtlnknnmlepgjfaaFolRank
import Derived.Test.YtlnknnmlepgjfaaSrg6
import Derived.Test.YtlnknnmlepgjfaaBitLen
import Derived.Test.YtlnknnmlepgjfaaFolBits
import Derived.Test.YtlnknnmlepgjfaaRefFol4
import Derived.Lib.BytesEntry
import Derived.Lib.MinMax
namespace Go.Proofs.Ytlnknnmlepgjfaa
open Sg
set_option linter.unusedVariables false
set_option linter.unusedSimpArgs false
set_option maxRecDepth 100000
open Go.ChangeShapes Go.WideShapes Go.ChangeAt Go.RowKit

theorem fol_width (w : World) (n : Nat) (hn : n ≤ 9223372036854775807) : Calls Try.prog 20 #[.int .i64 n] w fun e w' => e = .returned (.int .i64 (widthN n)) ∧ ∃ m, w' = w.drewN m := by
  by_cases h : 1 ≤ n ∧ n ≤ 32
  · obtain ⟨k, rfl⟩ : ∃ k, n = k + 1 := ⟨n - 1, by omega⟩
    have HL := Lib.hid (fun w => bitslen_c w k (by omega))
    have HW : Hid (max 1 (bitLen k) = widthN (k + 1)) := by
      have : k = 0 ∨ k = 1 ∨ k = 2 ∨ k = 3 ∨ k = 4 ∨ k = 5 ∨ k = 6 ∨ k = 7 ∨ k = 8 ∨ k = 9 ∨ k = 10 ∨ k = 11 ∨ k = 12 ∨ k = 13 ∨ k = 14 ∨ k = 15 ∨ k = 16 ∨ k = 17 ∨ k = 18 ∨ k = 19 ∨ k = 20 ∨ k = 21 ∨ k = 22 ∨ k = 23 ∨ k = 24 ∨ k = 25 ∨ k = 26 ∨ k = 27 ∨ k = 28 ∨ k = 29 ∨ k = 30 ∨ k = 31 := by omega
      rcases this with rfl | rfl | rfl | rfl | rfl | rfl | rfl | rfl | rfl | rfl | rfl | rfl | rfl | rfl | rfl | rfl | rfl | rfl | rfl | rfl | rfl | rfl | rfl | rfl | rfl | rfl | rfl | rfl | rfl | rfl | rfl | rfl <;> rfl
    obtain ⟨N, hN⟩ : ∃ N, N = k + 1 := ⟨_, rfl⟩
    obtain ⟨L, hL⟩ : ∃ L, bitLen k = L := ⟨_, rfl⟩
    rw [← hN] at HW h ⊢
    rw [hL] at HW HL
    obtain ⟨W, hW⟩ : ∃ W, widthN N = W := ⟨_, rfl⟩
    rw [hW] at HW ⊢
    have h1 : decide ((N : Int) < 1) = false := by simp; omega
    have h2 : decide ((N : Int) > 32) = false := by simp; omega
    have h3 : IntKind.i64.wrap ((N : Int) - 1) = (k : Int) := by rw [IntKind.wrap_i64]; omega
    have h4 : IntKind.u64.wrap (k : Int) = k := by simp [IntKind.wrap, IntKind.bits, IntKind.signed]; omega
    have h5 : max (1 : Int) (L : Int) = (W : Int) := by have := HW.out; omega
    clear hN hL hW h
    go_enter Try.func20, Try.ntmps20
    go_wp2_with fail
    refine (HL.out _).mono ?_; rintro e w' ⟨rfl, rfl⟩
    go_wp2_with fail
    go_ret
    exact ⟨rfl, 0, rfl⟩
  · have hW : widthN n = 0 := by unfold widthN; rw [if_pos (by omega)]
    by_cases h0 : n < 1
    · have h1 : decide ((n : Int) < 1) = true := by simp; omega
      rw [hW]
      clear hW h h0
      go_enter Try.func20, Try.ntmps20
      go_wp2_with fail
      go_ret
      exact ⟨rfl, 0, rfl⟩
    · have h1 : decide ((n : Int) < 1) = false := by simp; omega
      have h2 : decide ((n : Int) > 32) = true := by simp; omega
      rw [hW]
      clear hW h h0
      go_enter Try.func20, Try.ntmps20
      go_wp2_with fail
      go_ret
      exact ⟨rfl, 0, rfl⟩
theorem counted_c (w : World) (v : Value) (l : List UInt8) (h : Bs w v l) : Calls Try.prog 22 #[v] w fun e w' => ∃ v', e = .returned v' ∧ w' = w ∧ Bs w v' (l.take 32) ∧ ∀ b, v'.ownBlock = some b → v.ownBlock = some b := by
  obtain ⟨a, cap, rfl, h1, h2⟩ := h.shape
  obtain ⟨N, hN⟩ : ∃ N, min l.length 32 = N := ⟨_, rfl⟩
  have hm : min (l.length : Int) 32 = (N : Int) := by omega
  obtain ⟨v', hv, hb, ho⟩ := h.upto N N rfl (by omega)
  have hl : l.take N = l.take 32 := by
    by_cases e : l.length ≤ 32
    · rw [List.take_of_length_le (by omega), List.take_of_length_le (by omega)]
    · rw [show N = 32 by omega]
  rw [hl] at hb
  have HB := Lib.hid hb
  have HO := Lib.hid ho
  clear h hb ho hl
  go_enter Try.func22, Try.ntmps22
  go_wp2_with fail
  go_ret
  exact ⟨_, rfl, rfl, HB.out, fun b hb => by rw [← HO.out]; exact hb⟩
theorem indexbyte_ref (l : List UInt8) (c : UInt8) : Go.Lib.indexByte l c = atU l c := by
  unfold atU
  induction l with
  | nil => rfl
  | cons a t ih =>
    unfold Go.Lib.indexByte
    rw [List.findIdx?_cons]
    by_cases h : (a == c) = true
    · rw [if_pos h, if_pos h]; rfl
    · rw [if_neg h, if_neg h, ih]
      cases e : t.findIdx? (· == c) with
      | none => rfl
      | some i =>
        have h2 : ((i : Int) == -1) = false := by simp
        simp [h2]
theorem indexbyte_c (w : World) (v : Value) (l : List UInt8) (c : UInt8) (h : Bs w v l) (hl : 0 < l.length) : Calls Try.prog 24 #[v, .int .u8 c.toNat] w fun e w' => e = .returned (.int .i64 (atU l c)) ∧ w' = w := by
  obtain ⟨b, o, cap, rfl, _⟩ := h.spot 0 hl
  have hc : ∀ i, i < l.length → w.cell? ⟨b, o + i, none⟩ = some (.int .u8 ((l.map fun x => (x.toNat : Int)).getD i 0)) := by
    intro i hi
    obtain ⟨b', o', cap', e, hcell⟩ := h.spot i hi
    simp only [Value.slice.injEq, Option.some.injEq, Addr.mk.injEq] at e
    obtain ⟨⟨rfl, rfl, _⟩, _, _⟩ := e
    rw [hcell]; simp [hi]
  have hx := Go.Lib.run_indexByteSlice (P := Try.prog) w b o l.length cap (l.map fun x => (x.toNat : Int)) (by simp) hc c.toNat
  have e1 : Go.Lib.bytesOf (l.map fun x => (x.toNat : Int)) = l := by
    unfold Go.Lib.bytesOf
    rw [List.map_map]
    conv => rhs; rw [← List.map_id l]
    refine List.map_congr_left fun x _ => ?_
    simp [Nat.toUInt8]
  have e2 : (c.toNat : Int).toNat.toUInt8 = c := by simp [Nat.toUInt8]
  rw [e1, e2, indexbyte_ref] at hx
  have HX := Lib.hid hx
  obtain ⟨r, hr⟩ : ∃ r, atU l c = r := ⟨_, rfl⟩
  rw [hr] at HX ⊢
  clear h hc hx e1 e2 hr
  go_enter Try.func24, Try.ntmps24
  go_wp2
  rw [run_callFunc_extern Try.func35 (by kernel_rfl) (by kernel_rfl) (by kernel_rfl) (e := Extern.BytealgIndexByte.indexByte) (by kernel_rfl), HX.out]
  simp only [Result.andThen]
  rw [Oper.upon_value]
  go_wp2
  go_ret
  exact ⟨rfl, rfl⟩
theorem cmpk_c (w : World) (x y : Int) : Calls Try.prog 28 #[.int .i64 x, .int .i64 y] w fun e w' => e = .returned (.int .i64 (cmpK x y)) ∧ ∃ n, w' = w.drewN n := by
  by_cases h1 : x < y
  · have hc : Hid (cmpK x y = -1) := by unfold Hid cmpK; rw [if_pos h1]
    go_enter Try.func28, Try.ntmps28
    go_wp2
    go_ret
    exact ⟨by rw [hc.out]; rfl, 0, rfl⟩
  · by_cases h2 : y < x
    · have hc : Hid (cmpK x y = 1) := by unfold Hid cmpK; rw [if_neg h1, if_pos h2]
      have h3 : x > y := h2
      go_enter Try.func28, Try.ntmps28
      go_wp2
      go_ret
      exact ⟨by rw [hc.out]; rfl, 0, rfl⟩
    · have hc : Hid (cmpK x y = 0) := by unfold Hid cmpK; rw [if_neg h1, if_neg h2]
      have h3 : ¬ x > y := h2
      go_enter Try.func28, Try.ntmps28
      go_wp2
      go_ret
      exact ⟨by rw [hc.out]; rfl, 0, rfl⟩
theorem cmpK_neg (x y : Int) : cmpK y x = cmpK (-x) (-y) := by
  unfold cmpK
  repeat' split
  all_goals first | rfl | omega
theorem cmpseen_c (w0 : World) (g : Nat) : CmpG 27 #[] (fun _ => True) kcF w0 g := by
  refine ⟨fun args w => by kernel_rfl, fun w k x y hx hy => ?_⟩
  have HQ := Lib.hid (fun w => cmpk_c w y.2 x.2)
  rw [cmpK_neg x.2 y.2] at HQ
  change Hid (∀ w, Calls Try.prog _ _ _ fun e w' => e = .returned (.int .i64 (cmpK (kcF x) (kcF y))) ∧ _) at HQ
  generalize cmpK (kcF x) (kcF y) = c at HQ ⊢
  show Calls Try.prog _ #[.agg #[eA x, eB x], .agg #[eA y, eB y]] w _
  simp only [eA, eB]
  obtain ⟨x1, x2⟩ := x
  obtain ⟨y1, y2⟩ := y
  simp only at HQ ⊢
  clear k hx hy
  go_enter Try.func27, Try.ntmps27
  go_wp2_with fail
  refine (HQ.out _).mono ?_; rintro e w' ⟨rfl, n, rfl⟩
  go_wp2_with fail
  go_ret
  exact ⟨rfl, (((Keep.refl [] w).alloc _).alloc _).drewN _⟩
end Go.Proofs.Ytlnknnmlepgjfaa
