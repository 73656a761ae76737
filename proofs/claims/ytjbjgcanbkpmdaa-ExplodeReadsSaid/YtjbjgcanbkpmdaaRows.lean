/-
  No cell of these rows narrows 'for every input' (looked for: loops, veiled, ifaces, maps, wideKeys, modest, calm, conditions, laid).
  DERIVED. THE GIVEN ROWS OF THIS SEAT. 4 by the template 'for every input the law returns true; each argument reads behind the call as it read before'; 0 by the template 'total and deterministic' (their statements: YtjbjgcanbkpmdaaTotals.lean).
  GIVEN WITH THE SEED: the statements are not yours to turn. If you find one false, say at which input.
  Laid BY PROGRAM, IN A SANDBOX (cutbox-rows.mjs): the forced cells as the released guide's own fill.sh prints them over the translation 870596e080aafe50… (all of the seat's roots in one cut). By AI agents, Wed Nov 11 2026. No macro, syntax, notation, axiom, sorry.
-/
import Derived.Test.YtjbjgcanbkpmdaaChecked
import GoSem.Claim
import GoSem.ClaimJoined
import GoSem.ClaimMapViews
import Derived.JoinedTies
import Derived.KernelRfl
namespace Go.Proofs.Ytjbjgcanbkpmdaa
/- THE CELL 'sum', in the pinned program and in every row, IS THE sha256 OF THE DUMP (.gsa) THAT YtjbjgcanbkpmdaaProg.lean LOADS. Nothing in Lean hashes anything: it is a label: what it is worth is what the hold of that sum in a sandbox is worth. -/
noncomputable def Try.pinned : Pinned := { name := "ytjbjgcanbkpmdaa", sum := "870596e080aafe50440382183d52faeb24ec9e2bb6a691ca0156f51c908b2228", checked := Try.checked }
namespace Rows
def none {H : Type} : Left H := { results := [], args := [] }

/-- 'duffellaw15.ExplodeReads': WHATEVER THE INPUT: true; the input reads as it did. -/
def explodeReadsSpec : ChangeSpec := { name := "explodeReads", fn := fun _ => fun
  | [d1, d2, d3, d4] => { results := [.lit (.bool true)], args := [d1, d2, d3, d4] }
  | _ => none }
def explodeReadsRow : OpenClaim := { program := "ytjbjgcanbkpmdaa", sum := "870596e080aafe50440382183d52faeb24ec9e2bb6a691ca0156f51c908b2228", func := "duffel/duffellaw15.ExplodeReads", spec := "explodeReads", unfollowed := true, recurses := true, apart := false }
def ExplodeReadsSaid : Prop := explodeReadsRow.holds Try.pinned (OpenSpec.ofChange explodeReadsSpec)

/-- ITS FALSE NEIGHBOUR: 'it returns false'. Refute it at one input. -/
def explodeReadsWrong : ChangeSpec := { name := "explodeReads", fn := fun _ => fun
  | [d1, d2, d3, d4] => { results := [.lit (.bool false)], args := [d1, d2, d3, d4] }
  | _ => none }
def ExplodeReadsWrongFalsely : Prop := explodeReadsRow.holds Try.pinned (OpenSpec.ofChange explodeReadsWrong)

/-- 'duffellaw15.ExplodeTells': WHATEVER THE INPUT: true; the input reads as it did. -/
def explodeTellsSpec : ChangeSpec := { name := "explodeTells", fn := fun _ => fun
  | [d1, d2, d3, d4, d5, d6] => { results := [.lit (.bool true)], args := [d1, d2, d3, d4, d5, d6] }
  | _ => none }
def explodeTellsRow : OpenClaim := { program := "ytjbjgcanbkpmdaa", sum := "870596e080aafe50440382183d52faeb24ec9e2bb6a691ca0156f51c908b2228", func := "duffel/duffellaw15.ExplodeTells", spec := "explodeTells", unfollowed := true, recurses := true, apart := false }
def ExplodeTellsSaid : Prop := explodeTellsRow.holds Try.pinned (OpenSpec.ofChange explodeTellsSpec)

/-- ITS FALSE NEIGHBOUR: 'it returns false'. Refute it at one input. -/
def explodeTellsWrong : ChangeSpec := { name := "explodeTells", fn := fun _ => fun
  | [d1, d2, d3, d4, d5, d6] => { results := [.lit (.bool false)], args := [d1, d2, d3, d4, d5, d6] }
  | _ => none }
def ExplodeTellsWrongFalsely : Prop := explodeTellsRow.holds Try.pinned (OpenSpec.ofChange explodeTellsWrong)

/-- 'duffellaw15.ExplodeBounds': WHATEVER THE INPUT: true; the input reads as it did. -/
def explodeBoundsSpec : ChangeSpec := { name := "explodeBounds", fn := fun _ => fun
  | [d1, d2, d3, d4] => { results := [.lit (.bool true)], args := [d1, d2, d3, d4] }
  | _ => none }
def explodeBoundsRow : OpenClaim := { program := "ytjbjgcanbkpmdaa", sum := "870596e080aafe50440382183d52faeb24ec9e2bb6a691ca0156f51c908b2228", func := "duffel/duffellaw15.ExplodeBounds", spec := "explodeBounds", unfollowed := true, recurses := true, apart := false }
def ExplodeBoundsSaid : Prop := explodeBoundsRow.holds Try.pinned (OpenSpec.ofChange explodeBoundsSpec)

/-- ITS FALSE NEIGHBOUR: 'it returns false'. Refute it at one input. -/
def explodeBoundsWrong : ChangeSpec := { name := "explodeBounds", fn := fun _ => fun
  | [d1, d2, d3, d4] => { results := [.lit (.bool false)], args := [d1, d2, d3, d4] }
  | _ => none }
def ExplodeBoundsWrongFalsely : Prop := explodeBoundsRow.holds Try.pinned (OpenSpec.ofChange explodeBoundsWrong)

/-- 'duffellaw15.ExplodeParams': WHATEVER THE INPUT: true; the input reads as it did. -/
def explodeParamsSpec : ChangeSpec := { name := "explodeParams", fn := fun _ => fun
  | [d1, d2] => { results := [.lit (.bool true)], args := [d1, d2] }
  | _ => none }
def explodeParamsRow : OpenClaim := { program := "ytjbjgcanbkpmdaa", sum := "870596e080aafe50440382183d52faeb24ec9e2bb6a691ca0156f51c908b2228", func := "duffel/duffellaw15.ExplodeParams", spec := "explodeParams", unfollowed := true, recurses := true, apart := false }
def ExplodeParamsSaid : Prop := explodeParamsRow.holds Try.pinned (OpenSpec.ofChange explodeParamsSpec)

/-- ITS FALSE NEIGHBOUR: 'it returns false'. Refute it at one input. -/
def explodeParamsWrong : ChangeSpec := { name := "explodeParams", fn := fun _ => fun
  | [d1, d2] => { results := [.lit (.bool false)], args := [d1, d2] }
  | _ => none }
def ExplodeParamsWrongFalsely : Prop := explodeParamsRow.holds Try.pinned (OpenSpec.ofChange explodeParamsWrong)

/- THE SECOND FORM. 'bulk': how many values and letters a reading holds, each counted each time it is reached (what is shared counts as often as it is met; a slice's spare places count too). A statement '..UptoSaid' is the law's where the arguments, and the package variables that the reading takes, are together of bulk at most 1048576: NARROWER than '..Said'. Prove '..Said' where nothing that the law and all that it calls make is longer than what came in: it says more and counts as full. Else prove '..UptoSaid'. A law counts once. -/
mutual
def uptoBulk {H : Type} : DataW H → Nat
  | .lit (.string bytes) => bytes.length + 1
  | .lit _ => 1
  | .nil => 1
  | .ptr d => uptoBulk d + 1
  | .slice elems spare => uptoBulkAll elems + uptoBulkAll spare + 1
  | .agg parts => uptoBulkAll parts + 1
  | .iface _ d => uptoBulk d + 1
  | .map entries => uptoBulkEntries entries + 1
  | .held _ => 1
def uptoBulkAll {H : Type} : List (DataW H) → Nat
  | [] => 0
  | d :: r => uptoBulk d + uptoBulkAll r
def uptoBulkEntries {H : Type} : List (Lit × DataW H) → Nat
  | [] => 0
  | x :: r => uptoBulkEntry x + uptoBulkEntries r
def uptoBulkEntry {H : Type} : Lit × DataW H → Nat
  | (.string bytes, d) => bytes.length + uptoBulk d + 1
  | (_, d) => uptoBulk d + 1
 end
def uptoSmall : (H : Type) → List (DataW H) → Bool := fun _ ds => decide (uptoBulkAll ds ≤ 1048576)
def OpenSpec.upto (s : _root_.Go.ChangeSpec) : _root_.Go.OpenSpec := { _root_.Go.OpenSpec.ofChange s with cond := some uptoSmall }

/-- 'duffellaw15.ExplodeReads', WHERE WHAT IT READS IS OF BULK AT MOST 1048576: true; the input reads as it did. -/
def explodeReadsUptoRow : OpenClaim := { program := "ytjbjgcanbkpmdaa", sum := "870596e080aafe50440382183d52faeb24ec9e2bb6a691ca0156f51c908b2228", func := "duffel/duffellaw15.ExplodeReads", spec := "explodeReads", unfollowed := true, recurses := true, apart := false, narrowed := true }
def ExplodeReadsUptoSaid : Prop := explodeReadsUptoRow.holds Try.pinned (OpenSpec.upto explodeReadsSpec)

/-- 'duffellaw15.ExplodeTells', WHERE WHAT IT READS IS OF BULK AT MOST 1048576: true; the input reads as it did. -/
def explodeTellsUptoRow : OpenClaim := { program := "ytjbjgcanbkpmdaa", sum := "870596e080aafe50440382183d52faeb24ec9e2bb6a691ca0156f51c908b2228", func := "duffel/duffellaw15.ExplodeTells", spec := "explodeTells", unfollowed := true, recurses := true, apart := false, narrowed := true }
def ExplodeTellsUptoSaid : Prop := explodeTellsUptoRow.holds Try.pinned (OpenSpec.upto explodeTellsSpec)

/-- 'duffellaw15.ExplodeBounds', WHERE WHAT IT READS IS OF BULK AT MOST 1048576: true; the input reads as it did. -/
def explodeBoundsUptoRow : OpenClaim := { program := "ytjbjgcanbkpmdaa", sum := "870596e080aafe50440382183d52faeb24ec9e2bb6a691ca0156f51c908b2228", func := "duffel/duffellaw15.ExplodeBounds", spec := "explodeBounds", unfollowed := true, recurses := true, apart := false, narrowed := true }
def ExplodeBoundsUptoSaid : Prop := explodeBoundsUptoRow.holds Try.pinned (OpenSpec.upto explodeBoundsSpec)

/-- 'duffellaw15.ExplodeParams', WHERE WHAT IT READS IS OF BULK AT MOST 1048576: true; the input reads as it did. -/
def explodeParamsUptoRow : OpenClaim := { program := "ytjbjgcanbkpmdaa", sum := "870596e080aafe50440382183d52faeb24ec9e2bb6a691ca0156f51c908b2228", func := "duffel/duffellaw15.ExplodeParams", spec := "explodeParams", unfollowed := true, recurses := true, apart := false, narrowed := true }
def ExplodeParamsUptoSaid : Prop := explodeParamsUptoRow.holds Try.pinned (OpenSpec.upto explodeParamsSpec)

end Rows
end Go.Proofs.Ytjbjgcanbkpmdaa
