/-
  DERIVED. GIVEN WITH THE SEED: THE CARDS: each row of YtibkepjbblfkoaaDoorRows.lean that lists a variable, with what it lists TIED to the program's text (the seventh form; the later family's looks); each row that meets fmt, with fmt's text TOLD by the authors' own Lean function (tested against real Go, not proved from fmt's source: count such statements apart). THE CARD IS WHAT COUNTS. Prove the row's statement (the work); the ties are given (YtibkepjbblfkoaaDoorTie.lean); close each card by the builder's one call (the guide's Derived/Test/ToyasCard.lean, 'card_holds'). Laid BY PROGRAM, IN A SANDBOX (cutbox-door.mjs). By AI agents, Wed Nov 11 2026. No macro, syntax, notation, axiom, sorry.
-/
import Derived.Test.YtibkepjbblfkoaaDoorRows
import GoSem.ClaimSeven
namespace Go.Proofs.YtibkepjbblfkoaaDoor
namespace Rows

/-- THE TIED CARD OF 'duffellaw17.DynPlain'. -/
def dynPlainCard : Claim7 := { stood := { row := dynPlainRow, standIns := [], harness := (true, "281c79d433859c2e4bf0234b28774dcc1b20feac0fadaa096fc5db3d1bc63893"), looks := false }, kinds := [], alts := [], laidByText := true, laidKinds := [.data, .data], laidTests := true, laidLooks := .later }
def DynPlainCardSaid : Prop := Claim7.holds Tryd.pinned (.plain (OpenSpec.ofChange dynPlainSpec)) dynPlainCard

/-- THE SECOND FORM's CARD OF 'duffellaw17.DynPlain'. -/
def dynPlainUptoCard : Claim7 := { stood := { row := dynPlainUptoRow, standIns := [], harness := (true, "281c79d433859c2e4bf0234b28774dcc1b20feac0fadaa096fc5db3d1bc63893"), looks := false }, kinds := [], alts := [], laidByText := true, laidKinds := [.data, .data], laidTests := true, laidLooks := .later }
def DynPlainUptoCardSaid : Prop := Claim7.holds Tryd.pinned (.plain (OpenSpec.upto dynPlainSpec)) dynPlainUptoCard
end Rows
end Go.Proofs.YtibkepjbblfkoaaDoor
