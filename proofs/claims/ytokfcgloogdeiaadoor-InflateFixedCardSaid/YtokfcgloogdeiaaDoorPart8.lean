/- Texts put together: CutB -/
import Derived.Test.YtokfcgloogdeiaaDoorPart3
import Derived.Lib.ByteType
import Derived.Deep.Slices
namespace Go.Proofs.YtokfcgloogdeiaaDoor
set_option linter.unusedVariables false
set_option linter.unusedSimpArgs false
open Go.ChangeShapes Go.WideShapes Go.ChangeAt Go.RowKit

theorem under8 : Tryd.prog.underlying 22 = some (.slice (Tryd.prog.elem 22)) ∧ Tryd.prog.elem 22 = 5 := by
  have h := Tryd.underlying22
  constructor
  · simp [Program.elem, h]
  · simp [Program.elem, h]
theorem size8 (w : World) : (Go.sizeOf 5).run Tryd.prog w = .ok 1 w := Lib.byte_size info8 w
theorem addr_block (x : Addr) (i : Nat) : (x.add i).block = x.block := by unfold Addr.add; split <;> rfl
theorem Bs.cutOf {w : World} {a : Option Addr} {l : List UInt8} {cap : Nat} (h : Bs w (.slice a l.length cap) l) (i j m : Nat) (hij : i ≤ j) (hj : j ≤ l.length) (hm : j ≤ m) (hmc : m ≤ cap) :
    Bs w (sliced a i j m 1) ((l.drop i).take (j - i)) ∧ (sliced a i j m 1).ownBlock = (Value.slice a l.length cap).ownBlock := by
  obtain ⟨a', cap', hv, h1, h2, h3, h4⟩ := h
  simp only [Value.slice.injEq] at hv
  obtain ⟨rfl, _, rfl⟩ := hv
  have e : ((l.drop i).take (j - i)).length = j - i := by simp; omega
  unfold sliced
  constructor
  · refine ⟨_, m - i, by rw [e], by rw [e]; omega, by omega, ?_, fun x hx k hk => ?_⟩
    · intro hn
      split at hn
      · omega
      · have : a = none := by simpa using hn
        have := h3 this; omega
    · rw [e] at hk
      have hne : ¬ m = i := by omega
      rw [if_neg hne] at hx
      cases a with
      | none => simp at hx
      | some y =>
        obtain rfl : y.add (i * 1) = x := by simpa using hx
        rw [Go.Deep.add_add, show i * 1 + k = i + k by omega, h4 y rfl (i + k) (by omega)]
        simp
  · split
    · cases a <;> rfl
    · cases a with
      | none => rfl
      | some y => simp [Value.ownBlock, addr_block]
/-- v[x:y] -/
theorem Bs.cut {w : World} {v : Value} {l : List UInt8} (h : Bs w v l) (i j : Nat) (x y : Int) (hx : x = i) (hy : y = j) (hij : i ≤ j) (hj : j ≤ l.length) :
    ∃ v', (∀ W, (Instr.slice 22 v (some (.int .i64 x)) (some (.int .i64 y)) none).run Tryd.prog W = .ok v' W) ∧ Bs w v' ((l.drop i).take (j - i)) ∧ v'.ownBlock = v.ownBlock := by
  subst hx hy
  obtain ⟨a, cap, rfl, h1, h2⟩ := h.shape
  obtain ⟨k1, k2⟩ := h.cutOf i j cap hij hj (by omega) (by omega)
  exact ⟨_, fun W => by rw [run_slice_lh W _ _ _ _ under8.1 .i64 .i64 _ _ (by omega) (by omega) (by omega), under8.2, size8]; rfl, k1, k2⟩
/-- v[x:] -/
theorem Bs.from {w : World} {v : Value} {l : List UInt8} (h : Bs w v l) (i : Nat) (x : Int) (hx : x = i) (hi : i ≤ l.length) :
    ∃ v', (∀ W, (Instr.slice 22 v (some (.int .i64 x)) none none).run Tryd.prog W = .ok v' W) ∧ Bs w v' (l.drop i) ∧ v'.ownBlock = v.ownBlock := by
  subst hx
  obtain ⟨a, cap, rfl, h1, h2⟩ := h.shape
  obtain ⟨k1, k2⟩ := h.cutOf i l.length cap hi (Nat.le_refl _) h1 (by omega)
  have e : (l.drop i).take (l.length - i) = l.drop i := List.take_of_length_le (by simp)
  rw [e] at k1
  exact ⟨_, fun W => by rw [run_slice_l W _ _ _ _ under8.1 .i64 _ (by omega) (by omega), under8.2, size8]; rfl, k1, k2⟩
/-- v[:y] -/
theorem Bs.upto {w : World} {v : Value} {l : List UInt8} (h : Bs w v l) (j : Nat) (y : Int) (hy : y = j) (hj : j ≤ l.length) :
    ∃ v', (∀ W, (Instr.slice 22 v none (some (.int .i64 y)) none).run Tryd.prog W = .ok v' W) ∧ Bs w v' (l.take j) ∧ v'.ownBlock = v.ownBlock := by
  subst hy
  obtain ⟨a, cap, rfl, h1, h2⟩ := h.shape
  obtain ⟨k1, k2⟩ := h.cutOf 0 j cap (by omega) hj (by omega) (by omega)
  exact ⟨_, fun W => by rw [run_slice_h W _ _ _ _ under8.1 .i64 _ (by omega) (by omega), under8.2, size8]; rfl, by simpa using k1, k2⟩
/-- the beginning of a slice, as a walk writes it out -/
theorem Bs.pre {w : World} {a : Option Addr} {l : List UInt8} {cap : Nat} (h : Bs w (.slice a l.length cap) l) (n : Nat) (hn : n ≤ l.length) : Bs w (.slice a n cap) (l.take n) := by
  obtain ⟨a', cap', hv, h1, h2, h3, h4⟩ := h
  simp only [Value.slice.injEq] at hv
  obtain ⟨rfl, _, rfl⟩ := hv
  have e : (l.take n).length = n := by rw [List.length_take]; omega
  refine ⟨a, cap, by rw [e], by omega, h2, h3, fun x hx i hi => ?_⟩
  rw [e] at hi
  rw [h4 x hx i (by omega)]; simp
end Go.Proofs.YtokfcgloogdeiaaDoor
