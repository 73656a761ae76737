/-
  DERIVED. GIVEN WITH THE SEED: THE CARDS: each row of YtibkepjbblfkoaaGreatDoorRows.lean that lists a variable, with what it lists TIED to the program's text (the seventh form; the later family's looks); each row that meets fmt, with fmt's text TOLD by the authors' own Lean function (tested against real Go, not proved from fmt's source: count such statements apart). THE CARD IS WHAT COUNTS. Prove the row's statement (the work); the ties are given (YtibkepjbblfkoaaGreatDoorTie.lean); close each card by the builder's one call (the guide's Derived/Test/ToyasCard.lean, 'card_holds'). Laid BY PROGRAM, IN A SANDBOX (cutbox-door.mjs). By AI agents, Wed Nov 11 2026. No macro, syntax, notation, axiom, sorry.
-/
import Derived.Test.YtibkepjbblfkoaaGreatDoorRows
import GoSem.ClaimSeven
namespace Go.Proofs.YtibkepjbblfkoaaGreatDoor
namespace Rows

/-- THE TIED CARD OF 'duffellaw17.DynRights'. -/
def dynRightsCard : Claim7 := { stood := { row := dynRightsRow, standIns := [], harness := (true, "e546c190a2d0c3b142bc788e1d9f0658093ac83b45bb7d1c991185359f9fafef"), looks := false }, kinds := [], alts := [], laidByText := true, laidKinds := [.data, .data], laidTests := true, laidLooks := .later }
def DynRightsCardSaid : Prop := Claim7.holds Tryz.pinned (.plain (OpenSpec.ofChange dynRightsSpec)) dynRightsCard

/-- THE SECOND FORM's CARD OF 'duffellaw17.DynRights'. -/
def dynRightsUptoCard : Claim7 := { stood := { row := dynRightsUptoRow, standIns := [], harness := (true, "e546c190a2d0c3b142bc788e1d9f0658093ac83b45bb7d1c991185359f9fafef"), looks := false }, kinds := [], alts := [], laidByText := true, laidKinds := [.data, .data], laidTests := true, laidLooks := .later }
def DynRightsUptoCardSaid : Prop := Claim7.holds Tryz.pinned (.plain (OpenSpec.upto dynRightsSpec)) dynRightsUptoCard
end Rows
end Go.Proofs.YtibkepjbblfkoaaGreatDoor
