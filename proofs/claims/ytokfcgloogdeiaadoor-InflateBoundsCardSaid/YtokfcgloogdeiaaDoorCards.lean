/-
  DERIVED. GIVEN WITH THE SEED: THE CARDS: each row of YtokfcgloogdeiaaDoorRows.lean that lists a variable, with what it lists TIED to the program's text (the seventh form; the later family's looks); each row that meets fmt, with fmt's text TOLD by the authors' own Lean function (tested against real Go, not proved from fmt's source: count such statements apart). THE CARD IS WHAT COUNTS. Prove the row's statement (the work); the ties are given (YtokfcgloogdeiaaDoorTie.lean); close each card by the builder's one call (the guide's Derived/Test/ToyasCard.lean, 'card_holds'). Laid BY PROGRAM, IN A SANDBOX (cutbox-door.mjs). By AI agents, Wed Nov 11 2026. No macro, syntax, notation, axiom, sorry.
-/
import Derived.Test.YtokfcgloogdeiaaDoorRows
import GoSem.ClaimSeven
namespace Go.Proofs.YtokfcgloogdeiaaDoor
namespace Rows

/-- THE TIED CARD OF 'duffellaw18.InflateBounds'. -/
def inflateBoundsCard : Claim7 := { stood := { row := inflateBoundsRow, standIns := [], harness := (true, "76d430ee9bf368869a8e6793e7decec7f2546b20b89672855c586549fc9f9173"), looks := false }, kinds := [], alts := [], laidByText := true, laidKinds := [.data, .data], laidTests := true, laidLooks := .later }
def InflateBoundsCardSaid : Prop := Claim7.holds Tryd.pinned (.plain (OpenSpec.ofChange inflateBoundsSpec)) inflateBoundsCard

/-- THE TIED CARD OF 'duffellaw18.InflateFixed'. -/
def inflateFixedCard : Claim7 := { stood := { row := inflateFixedRow, standIns := [], harness := (true, "76d430ee9bf368869a8e6793e7decec7f2546b20b89672855c586549fc9f9173"), looks := false }, kinds := [], alts := [], laidByText := true, laidKinds := [.data, .data], laidTests := true, laidLooks := .later }
def InflateFixedCardSaid : Prop := Claim7.holds Tryd.pinned (.plain (OpenSpec.ofChange inflateFixedSpec)) inflateFixedCard

/-- THE SECOND FORM's CARD OF 'duffellaw18.InflateBounds'. -/
def inflateBoundsUptoCard : Claim7 := { stood := { row := inflateBoundsUptoRow, standIns := [], harness := (true, "76d430ee9bf368869a8e6793e7decec7f2546b20b89672855c586549fc9f9173"), looks := false }, kinds := [], alts := [], laidByText := true, laidKinds := [.data, .data], laidTests := true, laidLooks := .later }
def InflateBoundsUptoCardSaid : Prop := Claim7.holds Tryd.pinned (.plain (OpenSpec.upto inflateBoundsSpec)) inflateBoundsUptoCard

/-- THE SECOND FORM's CARD OF 'duffellaw18.InflateFixed'. -/
def inflateFixedUptoCard : Claim7 := { stood := { row := inflateFixedUptoRow, standIns := [], harness := (true, "76d430ee9bf368869a8e6793e7decec7f2546b20b89672855c586549fc9f9173"), looks := false }, kinds := [], alts := [], laidByText := true, laidKinds := [.data, .data], laidTests := true, laidLooks := .later }
def InflateFixedUptoCardSaid : Prop := Claim7.holds Tryd.pinned (.plain (OpenSpec.upto inflateFixedSpec)) inflateFixedUptoCard
end Rows
end Go.Proofs.YtokfcgloogdeiaaDoor
