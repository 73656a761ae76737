/- Lemmas: what is left of a slice of numbers behind its first ones. No condition beyond each theorem's own premises. -/
import Derived.Test.YtblogjpoijfpbaaInts
import Derived.Deep.Slices
namespace Go.Proofs.Ytblogjpoijfpbaa
set_option linter.unusedVariables false
set_option linter.unusedSimpArgs false
open Go.ChangeShapes Go.WideShapes Go.ChangeAt Go.RowKit

theorem under64 : Try.prog.underlying 22 = some (.slice (Try.prog.elem 22)) ∧ Try.prog.elem 22 = 3 := by
  have h := Try.underlying22
  constructor
  · simp [Program.elem, h]
  · simp [Program.elem, h]
theorem size64 (w : World) : (Go.sizeOf 3).run Try.prog w = .ok 1 w := by
  obtain ⟨i, hi, hz0, hz1, hz2⟩ := info_parts info64
  simp [Go.sizeOf, typeInfo, hi, hz1]
theorem addr_block' (x : Addr) (i : Nat) : (x.add i).block = x.block := by unfold Addr.add; split <;> rfl
theorem Is.cutOf {w : World} {a : Option Addr} {l : List Int} {cap : Nat} (h : Is .i64 w (.slice a l.length cap) l) (i m : Nat) (hi : i ≤ l.length) (hm : l.length ≤ m) (hmc : m ≤ cap) :
    Is .i64 w (sliced a i l.length m 1) (l.drop i) ∧ (∀ b, (sliced a i l.length m 1).ownBlock = some b → (Value.slice a l.length cap).ownBlock = some b) := by
  obtain ⟨a', cap', hv, h1, h2, h3, h4, h5⟩ := h
  simp only [Value.slice.injEq] at hv
  obtain ⟨rfl, _, rfl⟩ := hv
  have e : (l.drop i).length = l.length - i := by simp
  unfold sliced
  constructor
  · refine ⟨_, m - i, by rw [e], by rw [e]; omega, by omega, ?_, fun x hx k hk => ?_, fun z hz => h5 z (List.mem_of_mem_drop hz)⟩
    · intro hn
      split at hn
      · omega
      · have : a = none := by simpa using hn
        have := h3 this; omega
    · rw [e] at hk
      have hne : ¬ m = i := by omega
      rw [if_neg hne] at hx
      cases a with
      | none => simp at hx
      | some y =>
        obtain rfl : y.add (i * 1) = x := by simpa using hx
        rw [Go.Deep.add_add, show i * 1 + k = i + k by omega, h4 y rfl (i + k) (by omega)]
        simp
  · intro b hb
    split at hb
    · cases a with
      | none => simp [Value.ownBlock] at hb
      | some y => simpa [Value.ownBlock] using hb
    · cases a with
      | none => simp [Value.ownBlock] at hb
      | some y => simpa [Value.ownBlock, addr_block'] using hb
/-- v[x:] -/
theorem Is.from {w : World} {v : Value} {l : List Int} (h : Is .i64 w v l) (i : Nat) (x : Int) (hx : x = i) (hi : i ≤ l.length) :
    ∃ v', (∀ W, (Instr.slice 22 v (some (.int .i64 x)) none none).run Try.prog W = .ok v' W) ∧ Is .i64 w v' (l.drop i) ∧ ∀ b, v'.ownBlock = some b → v.ownBlock = some b := by
  subst hx
  obtain ⟨a, cap, rfl, h1, h2, _⟩ := id h
  unfold maxLen at h2
  obtain ⟨k1, k2⟩ := h.cutOf i cap hi (by omega) (Nat.le_refl _)
  exact ⟨_, fun W => by rw [run_slice_l W _ _ _ _ under64.1 .i64 _ (by omega) (by omega), under64.2, size64]; rfl, k1, k2⟩
end Go.Proofs.Ytblogjpoijfpbaa
