/- An array of 256 arrays of 256 numbers in a block of its own. No condition beyond each theorem's own premises. -/
import Derived.Test.YtlnknnmlepgjfaaFolArr
namespace Go.Proofs.Ytlnknnmlepgjfaa
set_option linter.unusedVariables false
set_option linter.unusedSimpArgs false
open Go.ChangeShapes Go.WideShapes Go.ChangeAt Go.RowKit

/-- 256 arrays of 256 numbers -/
def TA (f : Nat → Nat → Nat) : Array Value := ((List.range 65536).map fun k => Value.int .i64 (f (k / 256) (k % 256))).toArray
theorem TA_size (f : Nat → Nat → Nat) : (TA f).size = 65536 := by unfold TA; rw [List.size_toArray, List.length_map, List.length_range]
theorem TA_get (f : Nat → Nat → Nat) (n : Nat) (h : n < 65536) : (TA f)[n]? = some (.int .i64 (f (n / 256) (n % 256))) := by
  unfold TA; rw [List.getElem?_toArray, List.getElem?_map, List.getElem?_range h]; rfl
theorem TA_at (f : Nat → Nat → Nat) (c x : Nat) (hc : c < 256) (hx : x < 256) : (TA f)[c * 256 + x]? = some (.int .i64 (f c x)) := by
  rw [TA_get f _ (by omega), show (c * 256 + x) / 256 = c by omega, show (c * 256 + x) % 256 = x by omega]
theorem TA_eq {cs : Array Value} {f : Nat → Nat → Nat} (hs : cs.size = 65536) (h : ∀ n, n < 65536 → cs[n]? = some (.int .i64 (f (n / 256) (n % 256)))) : cs = TA f := by
  apply Array.ext_getElem?
  intro i
  by_cases hi : i < 65536
  · rw [h i hi, TA_get f i hi]
  · rw [Array.getElem?_eq_none (by omega), Array.getElem?_eq_none (by rw [TA_size]; omega)]
theorem TA_set (f : Nat → Nat → Nat) (c x y : Nat) (hc : c < 256) (hx : x < 256) : (TA f).setIfInBounds (c * 256 + x) (.int .i64 y) = TA fun i j => if i = c ∧ j = x then y else f i j := by
  refine TA_eq (by rw [Array.size_setIfInBounds, TA_size]) fun i hi => ?_
  rw [Array.getElem?_setIfInBounds, TA_size]
  by_cases e : c * 256 + x = i
  · rw [if_pos e, if_pos (by omega), if_pos ⟨by omega, by omega⟩]
  · rw [if_neg e, TA_get f i hi, if_neg (fun h => e (by omega))]
def dblI : Nat → List Value → List Value
  | 0, l => l
  | n + 1, l => (dblI n l).append (dblI n l)
theorem dblI_len (n : Nat) (l : List Value) : (dblI n l).length = l.length * 2 ^ n := by
  induction n with
  | zero => simp [dblI]
  | succ n ih =>
    show (dblI n l ++ dblI n l).length = _
    rw [List.length_append, ih, Nat.pow_succ, ← Nat.mul_assoc]; omega
theorem dblI_mem (n : Nat) (l : List Value) (v : Value) (h : v ∈ dblI n l) : v ∈ l := by
  induction n with
  | zero => exact h
  | succ n ih =>
    have h2 : v ∈ dblI n l ++ dblI n l := h
    rcases List.mem_append.1 h2 with h2 | h2 <;> exact ih h2
def leafI : List Value := [.int .i64 0, .int .i64 0, .int .i64 0, .int .i64 0, .int .i64 0, .int .i64 0, .int .i64 0, .int .i64 0, .int .i64 0, .int .i64 0, .int .i64 0, .int .i64 0, .int .i64 0, .int .i64 0, .int .i64 0, .int .i64 0, .int .i64 0, .int .i64 0, .int .i64 0, .int .i64 0, .int .i64 0, .int .i64 0, .int .i64 0, .int .i64 0, .int .i64 0, .int .i64 0, .int .i64 0, .int .i64 0, .int .i64 0, .int .i64 0, .int .i64 0, .int .i64 0, .int .i64 0, .int .i64 0, .int .i64 0, .int .i64 0, .int .i64 0, .int .i64 0, .int .i64 0, .int .i64 0, .int .i64 0, .int .i64 0, .int .i64 0, .int .i64 0, .int .i64 0, .int .i64 0, .int .i64 0, .int .i64 0, .int .i64 0, .int .i64 0, .int .i64 0, .int .i64 0, .int .i64 0, .int .i64 0, .int .i64 0, .int .i64 0, .int .i64 0, .int .i64 0, .int .i64 0, .int .i64 0, .int .i64 0, .int .i64 0, .int .i64 0, .int .i64 0]
theorem leafI_len : leafI.length = 64 := rfl
theorem leafI_mem (v : Value) (h : v ∈ leafI) : v = .int .i64 0 := by
  have e : leafI = List.replicate 64 (.int .i64 0) := rfl
  rw [e] at h
  exact List.eq_of_mem_replicate h
theorem taInfo : (Try.prog.info? 61).map (fun i => (i.zero, i.size)) = some (some (.agg (dblI 10 leafI).toArray), 65536) := by kernel_rfl
theorem TA_zero : (dblI 10 leafI).toArray = TA fun _ _ => 0 := by
  have hl : (dblI 10 leafI).length = 65536 := by rw [dblI_len, leafI_len]
  refine TA_eq (by rw [List.size_toArray, hl]) fun n hn => ?_
  rw [List.getElem?_toArray, List.getElem?_eq_getElem (by omega)]
  congr 1
  exact leafI_mem _ (dblI_mem 10 _ _ (List.getElem_mem _))
end Go.Proofs.Ytlnknnmlepgjfaa
