/- The document's own answers of layer 8: Same, Few, Runs. -/
import Derived.Test.YtgojekhcdcgonaaTokMath
import Derived.Test.YtgojekhcdcgonaaKept
import Derived.BigQuiet
import Derived.Laws.StructEq
namespace Go.Proofs.Ytgojekhcdcgonaa
set_option linter.unusedVariables false
set_option linter.unusedSimpArgs false
open Go.ChangeShapes Go.WideShapes Go.ChangeAt Go.RowKit

set_option maxRecDepth 100000 in
set_option maxHeartbeats 1000000 in
theorem refsame8_c (w : World) (v v' : Value) (ts : List Tk) (h : Ts w v ts) (h' : Ts w v' ts) : Calls Try.prog 11 #[v, v'] w fun e w' => e = .returned (.bool true) ∧ ∃ n, w' = w.drewN n := by
  have HI := Lib.hid (fun i hi => h.at i hi)
  have HI' := Lib.hid (fun i hi => h'.at i hi)
  obtain ⟨a, cap, rfl, hl⟩ := h.sh
  obtain ⟨a', cap', rfl, hl'⟩ := h'.sh
  clear h h'
  go_enter Try.func11, Try.ntmps11
  go_wp2_with fail
  go_loopw [5] (fun i wr => ∃ k : Nat, k ≤ ts.length ∧ i = .int .i64 k ∧ ∃ n, wr = w.drewN n) (fun i _ => ts.length - (intOf i).toNat)
  case atStart => exact ⟨0, by omega, rfl, 0, rfl⟩
  case round =>
    obtain ⟨k, hk, rfl, n, rfl⟩ := hrel
    by_cases hlt : k < ts.length
    · obtain ⟨b, off, cap1, hv, e1, e2, e3⟩ := HI.out k hlt
      simp only [Value.slice.injEq] at hv
      obtain ⟨rfl, h2, rfl⟩ := hv
      clear h2
      obtain ⟨b', off', cap1', hv, d1, d2, d3⟩ := HI'.out k hlt
      simp only [Value.slice.injEq] at hv
      obtain ⟨rfl, h2, rfl⟩ := hv
      clear h2
      have hltz : (k : Int) < (ts.length : Int) := by omega
      generalize (ts[k]).lit.toNat = x at e1 d1
      generalize (ts[k]).dist = y at e2 d2
      generalize (ts[k]).len = z at e3 d3
      go_wp2_with fail
      go_quiet (fail)
      go_wp2_with fail
      go_roundw
      case rel => exact ⟨k + 1, by omega, by go_num, _, rfl⟩
      case measure => simp [intOf]; omega
    · obtain rfl : k = ts.length := by omega
      go_wp2_with fail
      go_ret
      exact ⟨rfl, _, rfl⟩
/-- at most n tokens, none longer than long -/
def fewT (ts : List Tk) (n : Nat) (long : Int) : List Tk := (ts.take n).map fun t => if long < t.len then { t with len := long } else t
theorem fewT_succ (ts : List Tk) (k : Nat) (long : Int) (hk : k < ts.length) : fewT ts (k + 1) long = fewT ts k long ++ [if long < (ts[k]).len then { ts[k] with len := long } else ts[k]] := by
  unfold fewT
  rw [List.take_succ_eq_append_getElem hk, List.map_append]; rfl
theorem fewT_len (ts : List Tk) (n : Nat) (long : Int) : (fewT ts n long).length ≤ n := by
  unfold fewT; simp; omega
end Go.Proofs.Ytgojekhcdcgonaa
