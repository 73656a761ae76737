/-
  No cell of these rows narrows 'for every input' (looked for: loops, veiled, ifaces, maps, wideKeys, modest, calm, conditions, laid).
  DERIVED. THE GIVEN ROWS OF THIS SEAT. 3 by the template 'for every input the law returns true; each argument reads behind the call as it read before'; 0 by the template 'total and deterministic' (their statements: YthmojejiaeninaaGreatTotals.lean).
  GIVEN WITH THE SEED: the statements are not yours to turn. If you find one false, say at which input.
  Laid BY PROGRAM, IN A SANDBOX (cutbox-rows.mjs): the forced cells as the released guide's own fill.sh prints them over the translation 8abf02a224d495b9… (all of the seat's roots in one cut). By AI agents, Wed Nov 11 2026. No macro, syntax, notation, axiom, sorry.
-/
import Derived.Test.YthmojejiaeninaaGreatChecked
import GoSem.Claim
import GoSem.ClaimJoined
import GoSem.ClaimMapViews
import Derived.JoinedTies
import Derived.KernelRfl
namespace Go.Proofs.YthmojejiaeninaaGreat
/- THE CELL 'sum', in the pinned program and in every row, IS THE sha256 OF THE DUMP (.gsa) THAT YthmojejiaeninaaGreatProg.lean LOADS. Nothing in Lean hashes anything: it is a label: what it is worth is what the hold of that sum in a sandbox is worth. -/
noncomputable def Tryz.pinned : Pinned := { name := "ythmojejiaeninaagreat", sum := "8abf02a224d495b9bb362626aa0006723d3801702b6938f9c1486b613cc37bf4", checked := Tryz.checked }
namespace Rows
def none {H : Type} : Left H := { results := [], args := [] }

/-- 'duffellaw16.ImplodeTokens': WHATEVER THE INPUT: true; the input reads as it did. -/
def implodeTokensSpec : ChangeSpec := { name := "implodeTokens", fn := fun _ => fun
  | [d1, d2, d3] => { results := [.lit (.bool true)], args := [d1, d2, d3] }
  | _ => none }
def implodeTokensRow : OpenClaim := { program := "ythmojejiaeninaagreat", sum := "8abf02a224d495b9bb362626aa0006723d3801702b6938f9c1486b613cc37bf4", func := "duffel/duffellaw16.ImplodeTokens", spec := "implodeTokens", unfollowed := true, recurses := true, plainKeys := false, apart := false }
def ImplodeTokensSaid : Prop := implodeTokensRow.holds Tryz.pinned (OpenSpec.ofChange implodeTokensSpec)

/-- ITS FALSE NEIGHBOUR: 'it returns false'. Refute it at one input. -/
def implodeTokensWrong : ChangeSpec := { name := "implodeTokens", fn := fun _ => fun
  | [d1, d2, d3] => { results := [.lit (.bool false)], args := [d1, d2, d3] }
  | _ => none }
def ImplodeTokensWrongFalsely : Prop := implodeTokensRow.holds Tryz.pinned (OpenSpec.ofChange implodeTokensWrong)

/-- 'duffellaw16.ImplodeWrites': WHATEVER THE INPUT: true; the input reads as it did. -/
def implodeWritesSpec : ChangeSpec := { name := "implodeWrites", fn := fun _ => fun
  | [d1, d2, d3] => { results := [.lit (.bool true)], args := [d1, d2, d3] }
  | _ => none }
def implodeWritesRow : OpenClaim := { program := "ythmojejiaeninaagreat", sum := "8abf02a224d495b9bb362626aa0006723d3801702b6938f9c1486b613cc37bf4", func := "duffel/duffellaw16.ImplodeWrites", spec := "implodeWrites", unfollowed := true, recurses := true, plainKeys := false, apart := false }
def ImplodeWritesSaid : Prop := implodeWritesRow.holds Tryz.pinned (OpenSpec.ofChange implodeWritesSpec)

/-- ITS FALSE NEIGHBOUR: 'it returns false'. Refute it at one input. -/
def implodeWritesWrong : ChangeSpec := { name := "implodeWrites", fn := fun _ => fun
  | [d1, d2, d3] => { results := [.lit (.bool false)], args := [d1, d2, d3] }
  | _ => none }
def ImplodeWritesWrongFalsely : Prop := implodeWritesRow.holds Tryz.pinned (OpenSpec.ofChange implodeWritesWrong)

/-- 'duffellaw16.ImplodeBack': WHATEVER THE INPUT: true; the input reads as it did. -/
def implodeBackSpec : ChangeSpec := { name := "implodeBack", fn := fun _ => fun
  | [d1, d2, d3] => { results := [.lit (.bool true)], args := [d1, d2, d3] }
  | _ => none }
def implodeBackRow : OpenClaim := { program := "ythmojejiaeninaagreat", sum := "8abf02a224d495b9bb362626aa0006723d3801702b6938f9c1486b613cc37bf4", func := "duffel/duffellaw16.ImplodeBack", spec := "implodeBack", unfollowed := true, recurses := true, plainKeys := false, apart := false }
def ImplodeBackSaid : Prop := implodeBackRow.holds Tryz.pinned (OpenSpec.ofChange implodeBackSpec)

/-- ITS FALSE NEIGHBOUR: 'it returns false'. Refute it at one input. -/
def implodeBackWrong : ChangeSpec := { name := "implodeBack", fn := fun _ => fun
  | [d1, d2, d3] => { results := [.lit (.bool false)], args := [d1, d2, d3] }
  | _ => none }
def ImplodeBackWrongFalsely : Prop := implodeBackRow.holds Tryz.pinned (OpenSpec.ofChange implodeBackWrong)

/- THE SECOND FORM. 'bulk': how many values and letters a reading holds, each counted each time it is reached (what is shared counts as often as it is met; a slice's spare places count too). A statement '..UptoSaid' is the law's where the arguments, and the package variables that the reading takes, are together of bulk at most 1048576: NARROWER than '..Said'. Prove '..Said' where nothing that the law and all that it calls make is longer than what came in: it says more and counts as full. Else prove '..UptoSaid'. A law counts once. -/
mutual
def uptoBulk {H : Type} : DataW H → Nat
  | .lit (.string bytes) => bytes.length + 1
  | .lit _ => 1
  | .nil => 1
  | .ptr d => uptoBulk d + 1
  | .slice elems spare => uptoBulkAll elems + uptoBulkAll spare + 1
  | .agg parts => uptoBulkAll parts + 1
  | .iface _ d => uptoBulk d + 1
  | .map entries => uptoBulkEntries entries + 1
  | .held _ => 1
def uptoBulkAll {H : Type} : List (DataW H) → Nat
  | [] => 0
  | d :: r => uptoBulk d + uptoBulkAll r
def uptoBulkEntries {H : Type} : List (Lit × DataW H) → Nat
  | [] => 0
  | x :: r => uptoBulkEntry x + uptoBulkEntries r
def uptoBulkEntry {H : Type} : Lit × DataW H → Nat
  | (.string bytes, d) => bytes.length + uptoBulk d + 1
  | (_, d) => uptoBulk d + 1
 end
def uptoSmall : (H : Type) → List (DataW H) → Bool := fun _ ds => decide (uptoBulkAll ds ≤ 1048576)
def OpenSpec.upto (s : _root_.Go.ChangeSpec) : _root_.Go.OpenSpec := { _root_.Go.OpenSpec.ofChange s with cond := some uptoSmall }

/-- 'duffellaw16.ImplodeTokens', WHERE WHAT IT READS IS OF BULK AT MOST 1048576: true; the input reads as it did. -/
def implodeTokensUptoRow : OpenClaim := { program := "ythmojejiaeninaagreat", sum := "8abf02a224d495b9bb362626aa0006723d3801702b6938f9c1486b613cc37bf4", func := "duffel/duffellaw16.ImplodeTokens", spec := "implodeTokens", unfollowed := true, recurses := true, plainKeys := false, apart := false, narrowed := true }
def ImplodeTokensUptoSaid : Prop := implodeTokensUptoRow.holds Tryz.pinned (OpenSpec.upto implodeTokensSpec)

/-- 'duffellaw16.ImplodeWrites', WHERE WHAT IT READS IS OF BULK AT MOST 1048576: true; the input reads as it did. -/
def implodeWritesUptoRow : OpenClaim := { program := "ythmojejiaeninaagreat", sum := "8abf02a224d495b9bb362626aa0006723d3801702b6938f9c1486b613cc37bf4", func := "duffel/duffellaw16.ImplodeWrites", spec := "implodeWrites", unfollowed := true, recurses := true, plainKeys := false, apart := false, narrowed := true }
def ImplodeWritesUptoSaid : Prop := implodeWritesUptoRow.holds Tryz.pinned (OpenSpec.upto implodeWritesSpec)

/-- 'duffellaw16.ImplodeBack', WHERE WHAT IT READS IS OF BULK AT MOST 1048576: true; the input reads as it did. -/
def implodeBackUptoRow : OpenClaim := { program := "ythmojejiaeninaagreat", sum := "8abf02a224d495b9bb362626aa0006723d3801702b6938f9c1486b613cc37bf4", func := "duffel/duffellaw16.ImplodeBack", spec := "implodeBack", unfollowed := true, recurses := true, plainKeys := false, apart := false, narrowed := true }
def ImplodeBackUptoSaid : Prop := implodeBackUptoRow.holds Tryz.pinned (OpenSpec.upto implodeBackSpec)

end Rows
end Go.Proofs.YthmojejiaeninaaGreat
