/- Texts put together: RefSh4 -/
import Derived.Test.YtkefidbokeifdaaPart6
import Derived.Test.YtkefidbokeifdaaPart3
import Derived.Test.YtkefidbokeifdaaPart18
namespace Go.Proofs.Ytkefidbokeifdaa
set_option linter.unusedVariables false
set_option linter.unusedSimpArgs false
set_option maxRecDepth 100000
open Go.ChangeShapes Go.WideShapes Go.ChangeAt Go.RowKit

/-- a writer of the call's own, with not too many bits -/
def CW (W w : World) (q : Nat) (m : Nat) : Prop := ∃ vw bs, Rw w q vw bs ∧ bs.length ≤ m ∧ Keep [] W w ∧ W.heap.size ≤ q ∧ ∀ b, vw.ownBlock = some b → W.heap.size ≤ b
theorem cput_c (W w : World) (q m : Nat) (h : CW W w q m) (hm : m ≤ 1000000) (y : Nat) (hy : y < 4294967296) (n : Int) :
    Calls Try.prog 29 #[.pointer (some ⟨q, 0, none⟩), .int .u32 y, .int .i64 n] w fun e w' => e = .returned (.tuple #[]) ∧ CW W w' q (m + 32) := by
  obtain ⟨vw, bs, h1, h2, h3, h4, h5⟩ := h
  refine (rput_c w q vw bs y n hy h1 (by omega)).mono ?_
  rintro e w' ⟨he, v', a, b, c⟩
  refine ⟨he, v', _, a, ?_, h3.trans b (fun z hz => .inr ?_), h4, fun z hz => ?_⟩
  · rw [List.length_append, bitsOf_length]; have : cln n ≤ 32 := by unfold cln; omega
    omega
  · rcases List.mem_cons.1 hz with rfl | hz
    · exact h4
    · exact h5 z (by simpa using hz)
  · rcases c z hz with e | e
    · exact h5 z e
    · have := h3.size; omega
set_option maxHeartbeats 2000000 in
theorem rcodes_c (w : World) (v : Value) (zs : List Int) (h : Is .i64 w v zs) (hl : zs.length ≤ 1000) :
    Calls Try.prog 15 #[v] w fun e w' => ∃ v' l, e = .returned v' ∧ OwnB w' v' l ∧ l.length ≤ 10000 ∧ Keep [] w w' ∧ ∀ b, v'.ownBlock = some b → w.heap.size ≤ b := by
  obtain ⟨a, cp, rfl, _⟩ := h.sh
  go_enter Try.func15, Try.ntmps15
  go_wp2_with fail
  have hC : CW w (w.alloc (.cells #[.slice none 0 0] 67)) w.heap.size 0 :=
    ⟨.slice none 0 0, [], ⟨Blk.new _ _ _, OwnB.nil _, by simp [Value.ownBlock]⟩, Nat.le_refl _, (Keep.refl [] w).alloc _, Nat.le_refl _, by simp [Value.ownBlock]⟩
  generalize w.alloc (.cells #[.slice none 0 0] 67) = w1 at hC ⊢
  generalize hq : w.heap.size = q at *
  go_loopw [4, 5] (fun wd i wr => ∃ (k W : Nat), k ≤ zs.length ∧ i = .int .i64 k ∧ wd = .int .i64 W ∧ 9 ≤ W ∧ W ≤ 13 ∧ CW w wr q (64 * k)) (fun _ i _ => zs.length - (intOf i).toNat)
  case atStart => exact ⟨0, 9, Nat.zero_le _, rfl, rfl, by omega, by omega, hC⟩
  case round =>
    obtain ⟨k, W, hk, rfl, rfl, hW1, hW2, HC⟩ := hrel
    by_cases hx : k < zs.length
    · have t1 : decide ((k : Int) < (zs.length : Int)) = true := by simp; omega
      have t1' : decide (k < zs.length) = true := by simpa using hx
      have hsum : IntKind.i64.wrap ((k : Int) + 1) = ((k + 1 : Nat) : Int) := by rw [IntKind.wrap_i64]; omega
      have hkeep : Keep [] w wr := by obtain ⟨_, _, _, _, e, _⟩ := HC; exact e
      obtain ⟨b0, o0, c0, e0, cell0⟩ := (h.keep hkeep (by simp)).at k hx
      obtain ⟨z, hz⟩ : ∃ z, zs[k] = z := ⟨_, rfl⟩
      rw [hz] at cell0
      obtain ⟨rfl, -⟩ : a = some ⟨b0, o0, none⟩ ∧ cp = c0 := by simpa using e0
      have hCP := Lib.hid (fun (w' : World) (m : Nat) (H : CW w w' q m) (hm : m ≤ 1000000) (y : Nat) (hy : y < 4294967296) => cput_c w w' q m H hm y hy W)
      have hk64 : 64 * k ≤ 64000 := by omega
      clear e0 hz hkeep
      by_cases z1 : z = -1
      · have t2 : (z == -1) = true := by simpa using z1
        clear z1
        go_wp2_with fail
        refine (hCP.out wr _ HC (by omega) 256 (by decide)).mono ?_; rintro e w2 ⟨rfl, H2⟩
        go_wp2_with fail
        refine (hCP.out w2 _ H2 (by omega) 2 (by decide)).mono ?_; rintro e w3 ⟨rfl, H3⟩
        go_wp2_with fail
        go_roundw
        case rel => exact ⟨k + 1, W, hx, rfl, rfl, hW1, hW2, by rw [show 64 * (k + 1) = 64 * k + 32 + 32 by omega]; exact H3⟩
        case measure => simp [intOf]; omega
      have t2 : (z == -1) = false := by simpa using z1
      by_cases z2 : z = -2
      · have t3 : (z == -2) = true := by simpa using z2
        have hW13 : IntKind.i64.wrap ((W : Int) + 1) = ((W + 1 : Nat) : Int) := by rw [IntKind.wrap_i64]; omega
        clear z1 z2
        by_cases hw : W < 13
        · have t4 : decide (W < 13) = true := by simpa using hw
          have t4' : decide ((W : Int) < 13) = true := by simp; omega
          clear hw
          go_wp2_with fail
          refine (hCP.out wr _ HC (by omega) 256 (by decide)).mono ?_; rintro e w2 ⟨rfl, H2⟩
          go_wp2_with fail
          refine (hCP.out w2 _ H2 (by omega) 1 (by decide)).mono ?_; rintro e w3 ⟨rfl, H3⟩
          go_wp2_with fail
          go_roundw
          case rel => exact ⟨k + 1, W + 1, hx, rfl, rfl, by omega, by simp at t4; omega, by rw [show 64 * (k + 1) = 64 * k + 32 + 32 by omega]; exact H3⟩
          case measure => simp [intOf]; omega
        · have t4 : decide (W < 13) = false := by simpa using hw
          have t4' : decide ((W : Int) < 13) = false := by simp; omega
          clear hw
          go_wp2_with fail
          refine (hCP.out wr _ HC (by omega) 256 (by decide)).mono ?_; rintro e w2 ⟨rfl, H2⟩
          go_wp2_with fail
          refine (hCP.out w2 _ H2 (by omega) 1 (by decide)).mono ?_; rintro e w3 ⟨rfl, H3⟩
          go_wp2_with fail
          go_roundw
          case rel => exact ⟨k + 1, W, hx, rfl, rfl, hW1, hW2, by rw [show 64 * (k + 1) = 64 * k + 32 + 32 by omega]; exact H3⟩
          case measure => simp [intOf]; omega
      have t3 : (z == -2) = false := by simpa using z2
      obtain ⟨y, hy, hy2⟩ : ∃ y : Nat, IntKind.u32.wrap z = (y : Int) ∧ y < 4294967296 := by
        rw [IntKind.wrap_u32']
        exact ⟨(z % 4294967296).toNat, by omega, by omega⟩
      clear z1 z2
      go_wp2_with fail
      refine (hCP.out wr _ HC (by omega) y hy2).mono ?_; rintro e w2 ⟨rfl, H2⟩
      go_wp2_with fail
      go_roundw
      case rel =>
        obtain ⟨vw, bs, a1, a2, a3⟩ := H2
        exact ⟨k + 1, W, hx, rfl, rfl, hW1, hW2, vw, bs, a1, by omega, a3⟩
      case measure => simp [intOf]; omega
    · have t1 : decide ((k : Int) < (zs.length : Int)) = false := by simp; omega
      have t1' : decide (k < zs.length) = false := by simpa using hx
      obtain ⟨vw, bs, h1, h2, h3, h4, h5⟩ := HC
      clear hx
      go_wp2_with fail
      refine (rwbytes_c wr q vw bs h1 (by omega)).mono ?_; rintro e w2 ⟨v2, l2, rfl, ho, hl2, k2, b2⟩
      go_wp2_with fail
      go_ret
      have hln : l2.length ≤ 10000 := by
        have e1 := congrArg List.length hl2
        rw [toBits_length, pad8_length] at e1
        omega
      exact ⟨v2, l2, rfl, ho, hln, h3.trans k2 (by simp), fun b hb => by have := b2 b hb; have := h3.size; omega⟩
end Go.Proofs.Ytkefidbokeifdaa
