/-
  NARROWER THAN 'FOR EVERY INPUT', by the rows' own cells (each row's printed sentence says how): SealSums: laid · SealOpens: laid · SealScans: laid · SealParts: laid · SealBack: laid · SealRow: laid.
  DERIVED. THE GIVEN ROWS OF THIS SEAT. 6 by the template 'for every input the law returns true; each argument reads behind the call as it read before'; 0 by the template 'total and deterministic' (their statements: YtmimmbcchbmnbaaDoorTotals.lean).
  GIVEN WITH THE SEED: the statements are not yours to turn. If you find one false, say at which input.
  Laid BY PROGRAM, IN A SANDBOX (cutbox-rows.mjs): the forced cells as the released guide's own fill.sh prints them over the translation f79f273dffe13799… (all of the seat's roots in one cut). By AI agents, Wed Nov 11 2026. No macro, syntax, notation, axiom, sorry.
-/
import Derived.Test.YtmimmbcchbmnbaaDoorChecked
import GoSem.Claim
import GoSem.ClaimJoined
import GoSem.ClaimMapViews
import Derived.JoinedTies
import Derived.KernelRfl
namespace Go.Proofs.YtmimmbcchbmnbaaDoor
/- THE CELL 'sum', in the pinned program and in every row, IS THE sha256 OF THE DUMP (.gsa) THAT YtmimmbcchbmnbaaDoorProg.lean LOADS. Nothing in Lean hashes anything: it is a label: what it is worth is what the hold of that sum in a sandbox is worth. -/
noncomputable def Tryd.pinned : Pinned := { name := "ytmimmbcchbmnbaadoor", sum := "f79f273dffe13799982c8f20cfc66a69693fd95c6bfa306ffd5fe0ccb8f31e02", checked := Tryd.checked }
namespace Rows
def none {H : Type} : Left H := { results := [], args := [] }

/- WHAT THE LISTED PACKAGE-LEVEL VARIABLES READ AS WHEN THE CALL BEGINS. Each datum BY PROGRAM (the guide's laid-datum.mjs) off the statement by which the dump's own 'gosem.cut.vars' lays the variable. In a bare row this is a premise. The card (YtmimmbcchbmnbaaDoorCards.lean) ties it to the program's text. -/
def laid_acreage_seal_lowHalf {H : Type} : DataW H := .agg [.lit (.int .u32 0), .lit (.int .u32 1996959894), .lit (.int .u32 3993919788), .lit (.int .u32 2567524794), .lit (.int .u32 124634137), .lit (.int .u32 1886057615), .lit (.int .u32 3915621685), .lit (.int .u32 2657392035), .lit (.int .u32 249268274), .lit (.int .u32 2044508324), .lit (.int .u32 3772115230), .lit (.int .u32 2547177864), .lit (.int .u32 162941995), .lit (.int .u32 2125561021), .lit (.int .u32 3887607047), .lit (.int .u32 2428444049)]
def laid_acreage_seal_highHalf {H : Type} : DataW H := .agg [.lit (.int .u32 0), .lit (.int .u32 498536548), .lit (.int .u32 997073096), .lit (.int .u32 651767980), .lit (.int .u32 1994146192), .lit (.int .u32 1802195444), .lit (.int .u32 1303535960), .lit (.int .u32 1342533948), .lit (.int .u32 3988292384), .lit (.int .u32 4027552580), .lit (.int .u32 3604390888), .lit (.int .u32 3412177804), .lit (.int .u32 2607071920), .lit (.int .u32 2262029012), .lit (.int .u32 2685067896), .lit (.int .u32 3183342108)]

/-- 'acreagelaw02.SealSums': WHATEVER THE INPUT: true; the input reads as it did. -/
def sealSumsSpec : ChangeSpec := { name := "sealSums", fn := fun _ => fun
  | [d1, d2] => { results := [.lit (.bool true)], args := [d1, d2] }
  | _ => none }
def sealSumsRow : OpenClaim := { program := "ytmimmbcchbmnbaadoor", sum := "f79f273dffe13799982c8f20cfc66a69693fd95c6bfa306ffd5fe0ccb8f31e02", func := "acreage/acreagelaw02.SealSums", spec := "sealSums", named := ["acreage/seal.lowHalf", "acreage/seal.highHalf"], apart := false, laid := [("acreage/seal.lowHalf", laid_acreage_seal_lowHalf), ("acreage/seal.highHalf", laid_acreage_seal_highHalf)] }
def SealSumsSaid : Prop := sealSumsRow.holds Tryd.pinned (OpenSpec.ofChange sealSumsSpec)

/-- ITS FALSE NEIGHBOUR: 'it returns false'. Refute it at one input. -/
def sealSumsWrong : ChangeSpec := { name := "sealSums", fn := fun _ => fun
  | [d1, d2] => { results := [.lit (.bool false)], args := [d1, d2] }
  | _ => none }
def SealSumsWrongFalsely : Prop := sealSumsRow.holds Tryd.pinned (OpenSpec.ofChange sealSumsWrong)

/-- 'acreagelaw02.SealOpens': WHATEVER THE INPUT: true; the input reads as it did. -/
def sealOpensSpec : ChangeSpec := { name := "sealOpens", fn := fun _ => fun
  | [d] => { results := [.lit (.bool true)], args := [d] }
  | _ => none }
def sealOpensRow : OpenClaim := { program := "ytmimmbcchbmnbaadoor", sum := "f79f273dffe13799982c8f20cfc66a69693fd95c6bfa306ffd5fe0ccb8f31e02", func := "acreage/acreagelaw02.SealOpens", spec := "sealOpens", named := ["acreage/seal.lowHalf", "acreage/seal.highHalf"], apart := false, laid := [("acreage/seal.lowHalf", laid_acreage_seal_lowHalf), ("acreage/seal.highHalf", laid_acreage_seal_highHalf)] }
def SealOpensSaid : Prop := sealOpensRow.holds Tryd.pinned (OpenSpec.ofChange sealOpensSpec)

/-- ITS FALSE NEIGHBOUR: 'it returns false'. Refute it at one input. -/
def sealOpensWrong : ChangeSpec := { name := "sealOpens", fn := fun _ => fun
  | [d] => { results := [.lit (.bool false)], args := [d] }
  | _ => none }
def SealOpensWrongFalsely : Prop := sealOpensRow.holds Tryd.pinned (OpenSpec.ofChange sealOpensWrong)

/-- 'acreagelaw02.SealScans': WHATEVER THE INPUT: true; the input reads as it did. -/
def sealScansSpec : ChangeSpec := { name := "sealScans", fn := fun _ => fun
  | [d] => { results := [.lit (.bool true)], args := [d] }
  | _ => none }
def sealScansRow : OpenClaim := { program := "ytmimmbcchbmnbaadoor", sum := "f79f273dffe13799982c8f20cfc66a69693fd95c6bfa306ffd5fe0ccb8f31e02", func := "acreage/acreagelaw02.SealScans", spec := "sealScans", named := ["acreage/seal.lowHalf", "acreage/seal.highHalf"], apart := false, laid := [("acreage/seal.lowHalf", laid_acreage_seal_lowHalf), ("acreage/seal.highHalf", laid_acreage_seal_highHalf)] }
def SealScansSaid : Prop := sealScansRow.holds Tryd.pinned (OpenSpec.ofChange sealScansSpec)

/-- ITS FALSE NEIGHBOUR: 'it returns false'. Refute it at one input. -/
def sealScansWrong : ChangeSpec := { name := "sealScans", fn := fun _ => fun
  | [d] => { results := [.lit (.bool false)], args := [d] }
  | _ => none }
def SealScansWrongFalsely : Prop := sealScansRow.holds Tryd.pinned (OpenSpec.ofChange sealScansWrong)

/-- 'acreagelaw02.SealParts': WHATEVER THE INPUT: true; the input reads as it did. -/
def sealPartsSpec : ChangeSpec := { name := "sealParts", fn := fun _ => fun
  | [d1, d2, d3] => { results := [.lit (.bool true)], args := [d1, d2, d3] }
  | _ => none }
def sealPartsRow : OpenClaim := { program := "ytmimmbcchbmnbaadoor", sum := "f79f273dffe13799982c8f20cfc66a69693fd95c6bfa306ffd5fe0ccb8f31e02", func := "acreage/acreagelaw02.SealParts", spec := "sealParts", named := ["acreage/seal.lowHalf", "acreage/seal.highHalf"], apart := false, laid := [("acreage/seal.lowHalf", laid_acreage_seal_lowHalf), ("acreage/seal.highHalf", laid_acreage_seal_highHalf)] }
def SealPartsSaid : Prop := sealPartsRow.holds Tryd.pinned (OpenSpec.ofChange sealPartsSpec)

/-- ITS FALSE NEIGHBOUR: 'it returns false'. Refute it at one input. -/
def sealPartsWrong : ChangeSpec := { name := "sealParts", fn := fun _ => fun
  | [d1, d2, d3] => { results := [.lit (.bool false)], args := [d1, d2, d3] }
  | _ => none }
def SealPartsWrongFalsely : Prop := sealPartsRow.holds Tryd.pinned (OpenSpec.ofChange sealPartsWrong)

/-- 'acreagelaw02.SealBack': WHATEVER THE INPUT: true; the input reads as it did. -/
def sealBackSpec : ChangeSpec := { name := "sealBack", fn := fun _ => fun
  | [d1, d2] => { results := [.lit (.bool true)], args := [d1, d2] }
  | _ => none }
def sealBackRow : OpenClaim := { program := "ytmimmbcchbmnbaadoor", sum := "f79f273dffe13799982c8f20cfc66a69693fd95c6bfa306ffd5fe0ccb8f31e02", func := "acreage/acreagelaw02.SealBack", spec := "sealBack", named := ["acreage/seal.lowHalf", "acreage/seal.highHalf"], apart := false, laid := [("acreage/seal.lowHalf", laid_acreage_seal_lowHalf), ("acreage/seal.highHalf", laid_acreage_seal_highHalf)] }
def SealBackSaid : Prop := sealBackRow.holds Tryd.pinned (OpenSpec.ofChange sealBackSpec)

/-- ITS FALSE NEIGHBOUR: 'it returns false'. Refute it at one input. -/
def sealBackWrong : ChangeSpec := { name := "sealBack", fn := fun _ => fun
  | [d1, d2] => { results := [.lit (.bool false)], args := [d1, d2] }
  | _ => none }
def SealBackWrongFalsely : Prop := sealBackRow.holds Tryd.pinned (OpenSpec.ofChange sealBackWrong)

/-- 'acreagelaw02.SealRow': WHATEVER THE INPUT: true; the input reads as it did. -/
def sealRowSpec : ChangeSpec := { name := "sealRow", fn := fun _ => fun
  | [d1, d2, d3] => { results := [.lit (.bool true)], args := [d1, d2, d3] }
  | _ => none }
def sealRowRow : OpenClaim := { program := "ytmimmbcchbmnbaadoor", sum := "f79f273dffe13799982c8f20cfc66a69693fd95c6bfa306ffd5fe0ccb8f31e02", func := "acreage/acreagelaw02.SealRow", spec := "sealRow", named := ["acreage/seal.lowHalf", "acreage/seal.highHalf"], apart := false, laid := [("acreage/seal.lowHalf", laid_acreage_seal_lowHalf), ("acreage/seal.highHalf", laid_acreage_seal_highHalf)] }
def SealRowSaid : Prop := sealRowRow.holds Tryd.pinned (OpenSpec.ofChange sealRowSpec)

/-- ITS FALSE NEIGHBOUR: 'it returns false'. Refute it at one input. -/
def sealRowWrong : ChangeSpec := { name := "sealRow", fn := fun _ => fun
  | [d1, d2, d3] => { results := [.lit (.bool false)], args := [d1, d2, d3] }
  | _ => none }
def SealRowWrongFalsely : Prop := sealRowRow.holds Tryd.pinned (OpenSpec.ofChange sealRowWrong)

/- THE SECOND FORM. 'bulk': how many values and letters a reading holds, each counted each time it is reached (what is shared counts as often as it is met; a slice's spare places count too). A statement '..UptoSaid' is the law's where the arguments, and the package variables that the reading takes, are together of bulk at most 1048576: NARROWER than '..Said'. Prove '..Said' where nothing that the law and all that it calls make is longer than what came in: it says more and counts as full. Else prove '..UptoSaid'. A law counts once. -/
mutual
def uptoBulk {H : Type} : DataW H → Nat
  | .lit (.string bytes) => bytes.length + 1
  | .lit _ => 1
  | .nil => 1
  | .ptr d => uptoBulk d + 1
  | .slice elems spare => uptoBulkAll elems + uptoBulkAll spare + 1
  | .agg parts => uptoBulkAll parts + 1
  | .iface _ d => uptoBulk d + 1
  | .map entries => uptoBulkEntries entries + 1
  | .held _ => 1
def uptoBulkAll {H : Type} : List (DataW H) → Nat
  | [] => 0
  | d :: r => uptoBulk d + uptoBulkAll r
def uptoBulkEntries {H : Type} : List (Lit × DataW H) → Nat
  | [] => 0
  | x :: r => uptoBulkEntry x + uptoBulkEntries r
def uptoBulkEntry {H : Type} : Lit × DataW H → Nat
  | (.string bytes, d) => bytes.length + uptoBulk d + 1
  | (_, d) => uptoBulk d + 1
 end
def uptoSmall : (H : Type) → List (DataW H) → Bool := fun _ ds => decide (uptoBulkAll ds ≤ 1048576)
def OpenSpec.upto (s : _root_.Go.ChangeSpec) : _root_.Go.OpenSpec := { _root_.Go.OpenSpec.ofChange s with cond := some uptoSmall }

/-- 'acreagelaw02.SealSums', WHERE WHAT IT READS IS OF BULK AT MOST 1048576: true; the input reads as it did. -/
def sealSumsUptoRow : OpenClaim := { program := "ytmimmbcchbmnbaadoor", sum := "f79f273dffe13799982c8f20cfc66a69693fd95c6bfa306ffd5fe0ccb8f31e02", func := "acreage/acreagelaw02.SealSums", spec := "sealSums", named := ["acreage/seal.lowHalf", "acreage/seal.highHalf"], apart := false, laid := [("acreage/seal.lowHalf", laid_acreage_seal_lowHalf), ("acreage/seal.highHalf", laid_acreage_seal_highHalf)], narrowed := true }
def SealSumsUptoSaid : Prop := sealSumsUptoRow.holds Tryd.pinned (OpenSpec.upto sealSumsSpec)

/-- 'acreagelaw02.SealOpens', WHERE WHAT IT READS IS OF BULK AT MOST 1048576: true; the input reads as it did. -/
def sealOpensUptoRow : OpenClaim := { program := "ytmimmbcchbmnbaadoor", sum := "f79f273dffe13799982c8f20cfc66a69693fd95c6bfa306ffd5fe0ccb8f31e02", func := "acreage/acreagelaw02.SealOpens", spec := "sealOpens", named := ["acreage/seal.lowHalf", "acreage/seal.highHalf"], apart := false, laid := [("acreage/seal.lowHalf", laid_acreage_seal_lowHalf), ("acreage/seal.highHalf", laid_acreage_seal_highHalf)], narrowed := true }
def SealOpensUptoSaid : Prop := sealOpensUptoRow.holds Tryd.pinned (OpenSpec.upto sealOpensSpec)

/-- 'acreagelaw02.SealScans', WHERE WHAT IT READS IS OF BULK AT MOST 1048576: true; the input reads as it did. -/
def sealScansUptoRow : OpenClaim := { program := "ytmimmbcchbmnbaadoor", sum := "f79f273dffe13799982c8f20cfc66a69693fd95c6bfa306ffd5fe0ccb8f31e02", func := "acreage/acreagelaw02.SealScans", spec := "sealScans", named := ["acreage/seal.lowHalf", "acreage/seal.highHalf"], apart := false, laid := [("acreage/seal.lowHalf", laid_acreage_seal_lowHalf), ("acreage/seal.highHalf", laid_acreage_seal_highHalf)], narrowed := true }
def SealScansUptoSaid : Prop := sealScansUptoRow.holds Tryd.pinned (OpenSpec.upto sealScansSpec)

/-- 'acreagelaw02.SealParts', WHERE WHAT IT READS IS OF BULK AT MOST 1048576: true; the input reads as it did. -/
def sealPartsUptoRow : OpenClaim := { program := "ytmimmbcchbmnbaadoor", sum := "f79f273dffe13799982c8f20cfc66a69693fd95c6bfa306ffd5fe0ccb8f31e02", func := "acreage/acreagelaw02.SealParts", spec := "sealParts", named := ["acreage/seal.lowHalf", "acreage/seal.highHalf"], apart := false, laid := [("acreage/seal.lowHalf", laid_acreage_seal_lowHalf), ("acreage/seal.highHalf", laid_acreage_seal_highHalf)], narrowed := true }
def SealPartsUptoSaid : Prop := sealPartsUptoRow.holds Tryd.pinned (OpenSpec.upto sealPartsSpec)

/-- 'acreagelaw02.SealBack', WHERE WHAT IT READS IS OF BULK AT MOST 1048576: true; the input reads as it did. -/
def sealBackUptoRow : OpenClaim := { program := "ytmimmbcchbmnbaadoor", sum := "f79f273dffe13799982c8f20cfc66a69693fd95c6bfa306ffd5fe0ccb8f31e02", func := "acreage/acreagelaw02.SealBack", spec := "sealBack", named := ["acreage/seal.lowHalf", "acreage/seal.highHalf"], apart := false, laid := [("acreage/seal.lowHalf", laid_acreage_seal_lowHalf), ("acreage/seal.highHalf", laid_acreage_seal_highHalf)], narrowed := true }
def SealBackUptoSaid : Prop := sealBackUptoRow.holds Tryd.pinned (OpenSpec.upto sealBackSpec)

/-- 'acreagelaw02.SealRow', WHERE WHAT IT READS IS OF BULK AT MOST 1048576: true; the input reads as it did. -/
def sealRowUptoRow : OpenClaim := { program := "ytmimmbcchbmnbaadoor", sum := "f79f273dffe13799982c8f20cfc66a69693fd95c6bfa306ffd5fe0ccb8f31e02", func := "acreage/acreagelaw02.SealRow", spec := "sealRow", named := ["acreage/seal.lowHalf", "acreage/seal.highHalf"], apart := false, laid := [("acreage/seal.lowHalf", laid_acreage_seal_lowHalf), ("acreage/seal.highHalf", laid_acreage_seal_highHalf)], narrowed := true }
def SealRowUptoSaid : Prop := sealRowUptoRow.holds Tryd.pinned (OpenSpec.upto sealRowSpec)

end Rows
end Go.Proofs.YtmimmbcchbmnbaaDoor
