/-
  No cell of these rows narrows 'for every input' (looked for: loops, veiled, ifaces, maps, wideKeys, modest, calm, conditions, laid).
  DERIVED. THE GIVEN ROWS OF THIS SEAT. 3 by the template 'for every input the law returns true; each argument reads behind the call as it read before'; 0 by the template 'total and deterministic' (their statements: YtbdbefgfejdbjabGreatTotals.lean).
  GIVEN WITH THE SEED: the statements are not yours to turn. If you find one false, say at which input.
  Laid BY PROGRAM, IN A SANDBOX (cutbox-rows.mjs): the forced cells as the released guide's own fill.sh prints them over the translation 1293dc718337e2e1… (all of the seat's roots in one cut). By AI agents, Wed Nov 11 2026. No macro, syntax, notation, axiom, sorry.
-/
import Derived.Test.YtbdbefgfejdbjabGreatChecked
import GoSem.Claim
import GoSem.ClaimJoined
import GoSem.ClaimMapViews
import Derived.JoinedTies
import Derived.KernelRfl
namespace Go.Proofs.YtbdbefgfejdbjabGreat
/- THE CELL 'sum', in the pinned program and in every row, IS THE sha256 OF THE DUMP (.gsa) THAT YtbdbefgfejdbjabGreatProg.lean LOADS. Nothing in Lean hashes anything: it is a label: what it is worth is what the hold of that sum in a sandbox is worth. -/
noncomputable def Tryz.pinned : Pinned := { name := "ytbdbefgfejdbjabgreat", sum := "1293dc718337e2e107d291edf115dd7d38a3f2e7b3baa4d461362d11c301506b", checked := Tryz.checked }
namespace Rows
def none {H : Type} : Left H := { results := [], args := [] }

/-- 'acreagelaw16.OpsAgain': WHATEVER THE INPUT: true; the input reads as it did. -/
def opsAgainSpec : ChangeSpec := { name := "opsAgain", fn := fun _ => fun
  | [d] => { results := [.lit (.bool true)], args := [d] }
  | _ => none }
def opsAgainRow : OpenClaim := { program := "ytbdbefgfejdbjabgreat", sum := "1293dc718337e2e107d291edf115dd7d38a3f2e7b3baa4d461362d11c301506b", func := "acreage/acreagelaw16.OpsAgain", spec := "opsAgain", inPlace := ["internal/abi.NoEscape"], unfollowed := true, recurses := true, apart := false }
def OpsAgainSaid : Prop := opsAgainRow.holds Tryz.pinned (OpenSpec.ofChange opsAgainSpec)

/-- ITS FALSE NEIGHBOUR: 'it returns false'. Refute it at one input. -/
def opsAgainWrong : ChangeSpec := { name := "opsAgain", fn := fun _ => fun
  | [d] => { results := [.lit (.bool false)], args := [d] }
  | _ => none }
def OpsAgainWrongFalsely : Prop := opsAgainRow.holds Tryz.pinned (OpenSpec.ofChange opsAgainWrong)

/-- 'acreagelaw16.OpsAlone': WHATEVER THE INPUT: true; the input reads as it did. -/
def opsAloneSpec : ChangeSpec := { name := "opsAlone", fn := fun _ => fun
  | [d1, d2] => { results := [.lit (.bool true)], args := [d1, d2] }
  | _ => none }
def opsAloneRow : OpenClaim := { program := "ytbdbefgfejdbjabgreat", sum := "1293dc718337e2e107d291edf115dd7d38a3f2e7b3baa4d461362d11c301506b", func := "acreage/acreagelaw16.OpsAlone", spec := "opsAlone", inPlace := ["internal/abi.NoEscape"], unfollowed := true, recurses := true, apart := false }
def OpsAloneSaid : Prop := opsAloneRow.holds Tryz.pinned (OpenSpec.ofChange opsAloneSpec)

/-- ITS FALSE NEIGHBOUR: 'it returns false'. Refute it at one input. -/
def opsAloneWrong : ChangeSpec := { name := "opsAlone", fn := fun _ => fun
  | [d1, d2] => { results := [.lit (.bool false)], args := [d1, d2] }
  | _ => none }
def OpsAloneWrongFalsely : Prop := opsAloneRow.holds Tryz.pinned (OpenSpec.ofChange opsAloneWrong)

/-- 'acreagelaw16.OpsKnown': WHATEVER THE INPUT: true; the input reads as it did. -/
def opsKnownSpec : ChangeSpec := { name := "opsKnown", fn := fun _ => fun
  | [] => { results := [.lit (.bool true)], args := [] }
  | _ => none }
def opsKnownRow : OpenClaim := { program := "ytbdbefgfejdbjabgreat", sum := "1293dc718337e2e107d291edf115dd7d38a3f2e7b3baa4d461362d11c301506b", func := "acreage/acreagelaw16.OpsKnown", spec := "opsKnown", inPlace := ["internal/abi.NoEscape"], unfollowed := true, recurses := true, apart := false }
def OpsKnownSaid : Prop := opsKnownRow.holds Tryz.pinned (OpenSpec.ofChange opsKnownSpec)

/-- ITS FALSE NEIGHBOUR: 'it returns false'. Refute it at one input. -/
def opsKnownWrong : ChangeSpec := { name := "opsKnown", fn := fun _ => fun
  | [] => { results := [.lit (.bool false)], args := [] }
  | _ => none }
def OpsKnownWrongFalsely : Prop := opsKnownRow.holds Tryz.pinned (OpenSpec.ofChange opsKnownWrong)

/- THE SECOND FORM. 'bulk': how many values and letters a reading holds, each counted each time it is reached (what is shared counts as often as it is met; a slice's spare places count too). A statement '..UptoSaid' is the law's where the arguments, and the package variables that the reading takes, are together of bulk at most 1048576: NARROWER than '..Said'. Prove '..Said' where nothing that the law and all that it calls make is longer than what came in: it says more and counts as full. Else prove '..UptoSaid'. A law counts once. -/
mutual
def uptoBulk {H : Type} : DataW H → Nat
  | .lit (.string bytes) => bytes.length + 1
  | .lit _ => 1
  | .nil => 1
  | .ptr d => uptoBulk d + 1
  | .slice elems spare => uptoBulkAll elems + uptoBulkAll spare + 1
  | .agg parts => uptoBulkAll parts + 1
  | .iface _ d => uptoBulk d + 1
  | .map entries => uptoBulkEntries entries + 1
  | .held _ => 1
def uptoBulkAll {H : Type} : List (DataW H) → Nat
  | [] => 0
  | d :: r => uptoBulk d + uptoBulkAll r
def uptoBulkEntries {H : Type} : List (Lit × DataW H) → Nat
  | [] => 0
  | x :: r => uptoBulkEntry x + uptoBulkEntries r
def uptoBulkEntry {H : Type} : Lit × DataW H → Nat
  | (.string bytes, d) => bytes.length + uptoBulk d + 1
  | (_, d) => uptoBulk d + 1
 end
def uptoSmall : (H : Type) → List (DataW H) → Bool := fun _ ds => decide (uptoBulkAll ds ≤ 1048576)
def OpenSpec.upto (s : _root_.Go.ChangeSpec) : _root_.Go.OpenSpec := { _root_.Go.OpenSpec.ofChange s with cond := some uptoSmall }

/-- 'acreagelaw16.OpsAgain', WHERE WHAT IT READS IS OF BULK AT MOST 1048576: true; the input reads as it did. -/
def opsAgainUptoRow : OpenClaim := { program := "ytbdbefgfejdbjabgreat", sum := "1293dc718337e2e107d291edf115dd7d38a3f2e7b3baa4d461362d11c301506b", func := "acreage/acreagelaw16.OpsAgain", spec := "opsAgain", inPlace := ["internal/abi.NoEscape"], unfollowed := true, recurses := true, apart := false, narrowed := true }
def OpsAgainUptoSaid : Prop := opsAgainUptoRow.holds Tryz.pinned (OpenSpec.upto opsAgainSpec)

/-- 'acreagelaw16.OpsAlone', WHERE WHAT IT READS IS OF BULK AT MOST 1048576: true; the input reads as it did. -/
def opsAloneUptoRow : OpenClaim := { program := "ytbdbefgfejdbjabgreat", sum := "1293dc718337e2e107d291edf115dd7d38a3f2e7b3baa4d461362d11c301506b", func := "acreage/acreagelaw16.OpsAlone", spec := "opsAlone", inPlace := ["internal/abi.NoEscape"], unfollowed := true, recurses := true, apart := false, narrowed := true }
def OpsAloneUptoSaid : Prop := opsAloneUptoRow.holds Tryz.pinned (OpenSpec.upto opsAloneSpec)

/-- 'acreagelaw16.OpsKnown', WHERE WHAT IT READS IS OF BULK AT MOST 1048576: true; the input reads as it did. -/
def opsKnownUptoRow : OpenClaim := { program := "ytbdbefgfejdbjabgreat", sum := "1293dc718337e2e107d291edf115dd7d38a3f2e7b3baa4d461362d11c301506b", func := "acreage/acreagelaw16.OpsKnown", spec := "opsKnown", inPlace := ["internal/abi.NoEscape"], unfollowed := true, recurses := true, apart := false, narrowed := true }
def OpsKnownUptoSaid : Prop := opsKnownUptoRow.holds Tryz.pinned (OpenSpec.upto opsKnownSpec)

end Rows
end Go.Proofs.YtbdbefgfejdbjabGreat
