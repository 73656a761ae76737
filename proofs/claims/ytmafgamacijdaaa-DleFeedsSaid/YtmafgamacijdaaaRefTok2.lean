/- The document's own answer of layer 8: Runs. -/
import Derived.Test.YtmafgamacijdaaaRefTok
namespace Go.Proofs.Ytmafgamacijdaaa
set_option linter.unusedVariables false
set_option linter.unusedSimpArgs false
open Go.ChangeShapes Go.WideShapes Go.ChangeAt Go.RowKit

theorem wf0 : (Lit.int .i64 0).wf = true := by decide
theorem wf1 : (Lit.int .i64 1).wf = true := by decide
def lastT (ts : List Tk) : Tk := ts.getLast?.getD default
theorem lastT_get (ts : List Tk) (h : 0 < ts.length) : ts[ts.length - 1] = lastT ts := by
  unfold lastT
  rw [List.getLast?_eq_getElem?, List.getElem?_eq_getElem (by omega)]; rfl
def rnew (b : List UInt8) (k : Nat) : Prop := k = 0 ∨ b.getD k 0 ≠ b.getD (k - 1) 0
theorem rn_new (b : List UInt8) (k : Nat) (h : rnew b k) : rn b (k + 1) = rn b k ++ [⟨b.getD k 0, 0, 0⟩] := by rw [rn]; exact if_pos h
theorem rn_one (b : List UInt8) (k : Nat) (h : ¬ rnew b k) (h2 : (lastT (rn b k)).len = 0 ∨ (lastT (rn b k)).len = 258) : rn b (k + 1) = rn b k ++ [⟨0, 1, 1⟩] := by rw [rn]; exact (if_neg h).trans (if_pos h2)
theorem rn_more (b : List UInt8) (k : Nat) (h : ¬ rnew b k) (h2 : ¬ ((lastT (rn b k)).len = 0 ∨ (lastT (rn b k)).len = 258)) (h0 : 0 < (rn b k).length) : rn b (k + 1) = (rn b k).set ((rn b k).length - 1) { (rn b k)[(rn b k).length - 1] with len := (lastT (rn b k)).len + 1 } := by
  rw [lastT_get _ h0, rn]; exact (if_neg h).trans (if_neg h2)
theorem rn_pos (b : List UInt8) (k : Nat) (hk : k ≤ b.length) (h : 0 < k) : 0 < (rn b k).length := by
  rcases (rn_all b k hk).last with h1 | ⟨l, t, h1, _⟩
  · omega
  · rw [h1]; simp
theorem rn_lastlen (b : List UInt8) (k : Nat) (hk : k ≤ b.length) (h : 0 < k) : 0 ≤ (lastT (rn b k)).len ∧ (lastT (rn b k)).len ≤ 258 := by
  rcases (rn_all b k hk).last with h1 | ⟨l, t, h1, h2⟩
  · omega
  · have : lastT (rn b k) = t := by unfold lastT; rw [h1]; simp
    rw [this]; omega
end Go.Proofs.Ytmafgamacijdaaa
