/-
  DERIVED. GIVEN WITH THE SEED: THE CARDS: each row of YtmimmbcchbmnbaaDoorRows.lean that lists a variable, with what it lists TIED to the program's text (the seventh form; the later family's looks); each row that meets fmt, with fmt's text TOLD by the authors' own Lean function (tested against real Go, not proved from fmt's source: count such statements apart). THE CARD IS WHAT COUNTS. Prove the row's statement (the work); the ties are given (YtmimmbcchbmnbaaDoorTie.lean); close each card by the builder's one call (the guide's Derived/Test/ToyasCard.lean, 'card_holds'). Laid BY PROGRAM, IN A SANDBOX (cutbox-door.mjs). By AI agents, Wed Nov 11 2026. No macro, syntax, notation, axiom, sorry.
-/
import Derived.Test.YtmimmbcchbmnbaaDoorRows
import GoSem.ClaimSeven
namespace Go.Proofs.YtmimmbcchbmnbaaDoor
namespace Rows

/-- THE TIED CARD OF 'acreagelaw02.SealSums'. -/
def sealSumsCard : Claim7 := { stood := { row := sealSumsRow, standIns := [], harness := (true, "4832b577175e05fb097171081a28e93a49dafd175a0a767a103984200554046f"), looks := false }, kinds := [], alts := [], laidByText := true, laidKinds := [.data, .data], laidTests := true, laidLooks := .later }
def SealSumsCardSaid : Prop := Claim7.holds Tryd.pinned (.plain (OpenSpec.ofChange sealSumsSpec)) sealSumsCard

/-- THE TIED CARD OF 'acreagelaw02.SealOpens'. -/
def sealOpensCard : Claim7 := { stood := { row := sealOpensRow, standIns := [], harness := (true, "4832b577175e05fb097171081a28e93a49dafd175a0a767a103984200554046f"), looks := false }, kinds := [], alts := [], laidByText := true, laidKinds := [.data, .data], laidTests := true, laidLooks := .later }
def SealOpensCardSaid : Prop := Claim7.holds Tryd.pinned (.plain (OpenSpec.ofChange sealOpensSpec)) sealOpensCard

/-- THE TIED CARD OF 'acreagelaw02.SealScans'. -/
def sealScansCard : Claim7 := { stood := { row := sealScansRow, standIns := [], harness := (true, "4832b577175e05fb097171081a28e93a49dafd175a0a767a103984200554046f"), looks := false }, kinds := [], alts := [], laidByText := true, laidKinds := [.data, .data], laidTests := true, laidLooks := .later }
def SealScansCardSaid : Prop := Claim7.holds Tryd.pinned (.plain (OpenSpec.ofChange sealScansSpec)) sealScansCard

/-- THE TIED CARD OF 'acreagelaw02.SealParts'. -/
def sealPartsCard : Claim7 := { stood := { row := sealPartsRow, standIns := [], harness := (true, "4832b577175e05fb097171081a28e93a49dafd175a0a767a103984200554046f"), looks := false }, kinds := [], alts := [], laidByText := true, laidKinds := [.data, .data], laidTests := true, laidLooks := .later }
def SealPartsCardSaid : Prop := Claim7.holds Tryd.pinned (.plain (OpenSpec.ofChange sealPartsSpec)) sealPartsCard

/-- THE TIED CARD OF 'acreagelaw02.SealBack'. -/
def sealBackCard : Claim7 := { stood := { row := sealBackRow, standIns := [], harness := (true, "4832b577175e05fb097171081a28e93a49dafd175a0a767a103984200554046f"), looks := false }, kinds := [], alts := [], laidByText := true, laidKinds := [.data, .data], laidTests := true, laidLooks := .later }
def SealBackCardSaid : Prop := Claim7.holds Tryd.pinned (.plain (OpenSpec.ofChange sealBackSpec)) sealBackCard

/-- THE TIED CARD OF 'acreagelaw02.SealRow'. -/
def sealRowCard : Claim7 := { stood := { row := sealRowRow, standIns := [], harness := (true, "4832b577175e05fb097171081a28e93a49dafd175a0a767a103984200554046f"), looks := false }, kinds := [], alts := [], laidByText := true, laidKinds := [.data, .data], laidTests := true, laidLooks := .later }
def SealRowCardSaid : Prop := Claim7.holds Tryd.pinned (.plain (OpenSpec.ofChange sealRowSpec)) sealRowCard

/-- THE SECOND FORM's CARD OF 'acreagelaw02.SealSums'. -/
def sealSumsUptoCard : Claim7 := { stood := { row := sealSumsUptoRow, standIns := [], harness := (true, "4832b577175e05fb097171081a28e93a49dafd175a0a767a103984200554046f"), looks := false }, kinds := [], alts := [], laidByText := true, laidKinds := [.data, .data], laidTests := true, laidLooks := .later }
def SealSumsUptoCardSaid : Prop := Claim7.holds Tryd.pinned (.plain (OpenSpec.upto sealSumsSpec)) sealSumsUptoCard

/-- THE SECOND FORM's CARD OF 'acreagelaw02.SealOpens'. -/
def sealOpensUptoCard : Claim7 := { stood := { row := sealOpensUptoRow, standIns := [], harness := (true, "4832b577175e05fb097171081a28e93a49dafd175a0a767a103984200554046f"), looks := false }, kinds := [], alts := [], laidByText := true, laidKinds := [.data, .data], laidTests := true, laidLooks := .later }
def SealOpensUptoCardSaid : Prop := Claim7.holds Tryd.pinned (.plain (OpenSpec.upto sealOpensSpec)) sealOpensUptoCard

/-- THE SECOND FORM's CARD OF 'acreagelaw02.SealScans'. -/
def sealScansUptoCard : Claim7 := { stood := { row := sealScansUptoRow, standIns := [], harness := (true, "4832b577175e05fb097171081a28e93a49dafd175a0a767a103984200554046f"), looks := false }, kinds := [], alts := [], laidByText := true, laidKinds := [.data, .data], laidTests := true, laidLooks := .later }
def SealScansUptoCardSaid : Prop := Claim7.holds Tryd.pinned (.plain (OpenSpec.upto sealScansSpec)) sealScansUptoCard

/-- THE SECOND FORM's CARD OF 'acreagelaw02.SealParts'. -/
def sealPartsUptoCard : Claim7 := { stood := { row := sealPartsUptoRow, standIns := [], harness := (true, "4832b577175e05fb097171081a28e93a49dafd175a0a767a103984200554046f"), looks := false }, kinds := [], alts := [], laidByText := true, laidKinds := [.data, .data], laidTests := true, laidLooks := .later }
def SealPartsUptoCardSaid : Prop := Claim7.holds Tryd.pinned (.plain (OpenSpec.upto sealPartsSpec)) sealPartsUptoCard

/-- THE SECOND FORM's CARD OF 'acreagelaw02.SealBack'. -/
def sealBackUptoCard : Claim7 := { stood := { row := sealBackUptoRow, standIns := [], harness := (true, "4832b577175e05fb097171081a28e93a49dafd175a0a767a103984200554046f"), looks := false }, kinds := [], alts := [], laidByText := true, laidKinds := [.data, .data], laidTests := true, laidLooks := .later }
def SealBackUptoCardSaid : Prop := Claim7.holds Tryd.pinned (.plain (OpenSpec.upto sealBackSpec)) sealBackUptoCard

/-- THE SECOND FORM's CARD OF 'acreagelaw02.SealRow'. -/
def sealRowUptoCard : Claim7 := { stood := { row := sealRowUptoRow, standIns := [], harness := (true, "4832b577175e05fb097171081a28e93a49dafd175a0a767a103984200554046f"), looks := false }, kinds := [], alts := [], laidByText := true, laidKinds := [.data, .data], laidTests := true, laidLooks := .later }
def SealRowUptoCardSaid : Prop := Claim7.holds Tryd.pinned (.plain (OpenSpec.upto sealRowSpec)) sealRowUptoCard
end Rows
end Go.Proofs.YtmimmbcchbmnbaaDoor
