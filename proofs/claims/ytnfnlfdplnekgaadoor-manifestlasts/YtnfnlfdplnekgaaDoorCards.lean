/-
  DERIVED. GIVEN WITH THE SEED: THE CARDS: each row of YtnfnlfdplnekgaaDoorRows.lean that lists a variable, with what it lists TIED to the program's text (the seventh form; the later family's looks); each row that meets fmt, with fmt's text TOLD by the authors' own Lean function (tested against real Go, not proved from fmt's source: count such statements apart). THE CARD IS WHAT COUNTS. Prove the row's statement (the work); the ties are given (YtnfnlfdplnekgaaDoorTie.lean); close each card by the builder's one call (the guide's Derived/Test/ToyasCard.lean, 'card_holds'). Laid BY PROGRAM, IN A SANDBOX (cutbox-door.mjs). By AI agents, Wed Nov 11 2026. No macro, syntax, notation, axiom, sorry.
-/
import Derived.Test.YtnfnlfdplnekgaaDoorRows
import GoSem.ClaimSeven
namespace Go.Proofs.YtnfnlfdplnekgaaDoor
namespace Rows

/-- THE TIED CARD OF 'acreagelaw13.ManifestLasts'. -/
def manifestLastsCard : Claim7 := { stood := { row := manifestLastsRow, standIns := [], harness := (true, "fe2a7cfc197ce3f31903bd0f9eb1503262839f08dd46e7e5275cdce8ad0897da"), looks := false }, kinds := [], alts := [], laidByText := true, laidKinds := [.data, .data], laidTests := true, laidLooks := .later }
def ManifestLastsCardSaid : Prop := Claim7.holds Tryd.pinned (.plain (OpenSpec.ofChange manifestLastsSpec)) manifestLastsCard

/-- THE SECOND FORM's CARD OF 'acreagelaw13.ManifestLasts'. -/
def manifestLastsUptoCard : Claim7 := { stood := { row := manifestLastsUptoRow, standIns := [], harness := (true, "fe2a7cfc197ce3f31903bd0f9eb1503262839f08dd46e7e5275cdce8ad0897da"), looks := false }, kinds := [], alts := [], laidByText := true, laidKinds := [.data, .data], laidTests := true, laidLooks := .later }
def ManifestLastsUptoCardSaid : Prop := Claim7.holds Tryd.pinned (.plain (OpenSpec.upto manifestLastsSpec)) manifestLastsUptoCard
end Rows
end Go.Proofs.YtnfnlfdplnekgaaDoor
