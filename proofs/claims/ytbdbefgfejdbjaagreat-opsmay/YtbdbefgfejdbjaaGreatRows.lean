/-
  No cell of these rows narrows 'for every input' (looked for: loops, veiled, ifaces, maps, wideKeys, modest, calm, conditions, laid).
  DERIVED. THE GIVEN ROWS OF THIS SEAT. 6 by the template 'for every input the law returns true; each argument reads behind the call as it read before'; 0 by the template 'total and deterministic' (their statements: YtbdbefgfejdbjaaGreatTotals.lean).
  GIVEN WITH THE SEED: the statements are not yours to turn. If you find one false, say at which input.
  Laid BY PROGRAM, IN A SANDBOX (cutbox-rows.mjs): the forced cells as the released guide's own fill.sh prints them over the translation c76dcf51e201a6e6… (all of the seat's roots in one cut). By AI agents, Wed Nov 11 2026. No macro, syntax, notation, axiom, sorry.
-/
import Derived.Test.YtbdbefgfejdbjaaGreatChecked
import GoSem.Claim
import GoSem.ClaimJoined
import GoSem.ClaimMapViews
import Derived.JoinedTies
import Derived.KernelRfl
namespace Go.Proofs.YtbdbefgfejdbjaaGreat
/- THE CELL 'sum', in the pinned program and in every row, IS THE sha256 OF THE DUMP (.gsa) THAT YtbdbefgfejdbjaaGreatProg.lean LOADS. Nothing in Lean hashes anything: it is a label: what it is worth is what the hold of that sum in a sandbox is worth. -/
noncomputable def Tryz.pinned : Pinned := { name := "ytbdbefgfejdbjaagreat", sum := "c76dcf51e201a6e6dc50359e4c2a099a0c0ae83c203e58bb1b08beba6f523868", checked := Tryz.checked }
namespace Rows
def none {H : Type} : Left H := { results := [], args := [] }

/-- 'acreagelaw16.OpsMay': WHATEVER THE INPUT: true; the input reads as it did. -/
def opsMaySpec : ChangeSpec := { name := "opsMay", fn := fun _ => fun
  | [d1, d2] => { results := [.lit (.bool true)], args := [d1, d2] }
  | _ => none }
def opsMayRow : OpenClaim := { program := "ytbdbefgfejdbjaagreat", sum := "c76dcf51e201a6e6dc50359e4c2a099a0c0ae83c203e58bb1b08beba6f523868", func := "acreage/acreagelaw16.OpsMay", spec := "opsMay", inPlace := ["internal/abi.NoEscape"], unfollowed := true, recurses := true, apart := false }
def OpsMaySaid : Prop := opsMayRow.holds Tryz.pinned (OpenSpec.ofChange opsMaySpec)

/-- ITS FALSE NEIGHBOUR: 'it returns false'. Refute it at one input. -/
def opsMayWrong : ChangeSpec := { name := "opsMay", fn := fun _ => fun
  | [d1, d2] => { results := [.lit (.bool false)], args := [d1, d2] }
  | _ => none }
def OpsMayWrongFalsely : Prop := opsMayRow.holds Tryz.pinned (OpenSpec.ofChange opsMayWrong)

/-- 'acreagelaw16.OpsEntries': WHATEVER THE INPUT: true; the input reads as it did. -/
def opsEntriesSpec : ChangeSpec := { name := "opsEntries", fn := fun _ => fun
  | [d] => { results := [.lit (.bool true)], args := [d] }
  | _ => none }
def opsEntriesRow : OpenClaim := { program := "ytbdbefgfejdbjaagreat", sum := "c76dcf51e201a6e6dc50359e4c2a099a0c0ae83c203e58bb1b08beba6f523868", func := "acreage/acreagelaw16.OpsEntries", spec := "opsEntries", inPlace := ["internal/abi.NoEscape"], unfollowed := true, recurses := true, apart := false }
def OpsEntriesSaid : Prop := opsEntriesRow.holds Tryz.pinned (OpenSpec.ofChange opsEntriesSpec)

/-- ITS FALSE NEIGHBOUR: 'it returns false'. Refute it at one input. -/
def opsEntriesWrong : ChangeSpec := { name := "opsEntries", fn := fun _ => fun
  | [d] => { results := [.lit (.bool false)], args := [d] }
  | _ => none }
def OpsEntriesWrongFalsely : Prop := opsEntriesRow.holds Tryz.pinned (OpenSpec.ofChange opsEntriesWrong)

/-- 'acreagelaw16.OpsResults': WHATEVER THE INPUT: true; the input reads as it did. -/
def opsResultsSpec : ChangeSpec := { name := "opsResults", fn := fun _ => fun
  | [d] => { results := [.lit (.bool true)], args := [d] }
  | _ => none }
def opsResultsRow : OpenClaim := { program := "ytbdbefgfejdbjaagreat", sum := "c76dcf51e201a6e6dc50359e4c2a099a0c0ae83c203e58bb1b08beba6f523868", func := "acreage/acreagelaw16.OpsResults", spec := "opsResults", inPlace := ["internal/abi.NoEscape"], unfollowed := true, recurses := true, apart := false }
def OpsResultsSaid : Prop := opsResultsRow.holds Tryz.pinned (OpenSpec.ofChange opsResultsSpec)

/-- ITS FALSE NEIGHBOUR: 'it returns false'. Refute it at one input. -/
def opsResultsWrong : ChangeSpec := { name := "opsResults", fn := fun _ => fun
  | [d] => { results := [.lit (.bool false)], args := [d] }
  | _ => none }
def OpsResultsWrongFalsely : Prop := opsResultsRow.holds Tryz.pinned (OpenSpec.ofChange opsResultsWrong)

/-- 'acreagelaw16.OpsSame': WHATEVER THE INPUT: true; the input reads as it did. -/
def opsSameSpec : ChangeSpec := { name := "opsSame", fn := fun _ => fun
  | [d1, d2] => { results := [.lit (.bool true)], args := [d1, d2] }
  | _ => none }
def opsSameRow : OpenClaim := { program := "ytbdbefgfejdbjaagreat", sum := "c76dcf51e201a6e6dc50359e4c2a099a0c0ae83c203e58bb1b08beba6f523868", func := "acreage/acreagelaw16.OpsSame", spec := "opsSame", inPlace := ["internal/abi.NoEscape"], unfollowed := true, recurses := true, apart := false }
def OpsSameSaid : Prop := opsSameRow.holds Tryz.pinned (OpenSpec.ofChange opsSameSpec)

/-- ITS FALSE NEIGHBOUR: 'it returns false'. Refute it at one input. -/
def opsSameWrong : ChangeSpec := { name := "opsSame", fn := fun _ => fun
  | [d1, d2] => { results := [.lit (.bool false)], args := [d1, d2] }
  | _ => none }
def OpsSameWrongFalsely : Prop := opsSameRow.holds Tryz.pinned (OpenSpec.ofChange opsSameWrong)

/-- 'acreagelaw16.OpsBack': WHATEVER THE INPUT: true; the input reads as it did. -/
def opsBackSpec : ChangeSpec := { name := "opsBack", fn := fun _ => fun
  | [d] => { results := [.lit (.bool true)], args := [d] }
  | _ => none }
def opsBackRow : OpenClaim := { program := "ytbdbefgfejdbjaagreat", sum := "c76dcf51e201a6e6dc50359e4c2a099a0c0ae83c203e58bb1b08beba6f523868", func := "acreage/acreagelaw16.OpsBack", spec := "opsBack", inPlace := ["internal/abi.NoEscape"], unfollowed := true, recurses := true, apart := false }
def OpsBackSaid : Prop := opsBackRow.holds Tryz.pinned (OpenSpec.ofChange opsBackSpec)

/-- ITS FALSE NEIGHBOUR: 'it returns false'. Refute it at one input. -/
def opsBackWrong : ChangeSpec := { name := "opsBack", fn := fun _ => fun
  | [d] => { results := [.lit (.bool false)], args := [d] }
  | _ => none }
def OpsBackWrongFalsely : Prop := opsBackRow.holds Tryz.pinned (OpenSpec.ofChange opsBackWrong)

/-- 'acreagelaw16.OpsOther': WHATEVER THE INPUT: true; the input reads as it did. -/
def opsOtherSpec : ChangeSpec := { name := "opsOther", fn := fun _ => fun
  | [d1, d2] => { results := [.lit (.bool true)], args := [d1, d2] }
  | _ => none }
def opsOtherRow : OpenClaim := { program := "ytbdbefgfejdbjaagreat", sum := "c76dcf51e201a6e6dc50359e4c2a099a0c0ae83c203e58bb1b08beba6f523868", func := "acreage/acreagelaw16.OpsOther", spec := "opsOther", inPlace := ["internal/abi.NoEscape"], unfollowed := true, recurses := true, apart := false }
def OpsOtherSaid : Prop := opsOtherRow.holds Tryz.pinned (OpenSpec.ofChange opsOtherSpec)

/-- ITS FALSE NEIGHBOUR: 'it returns false'. Refute it at one input. -/
def opsOtherWrong : ChangeSpec := { name := "opsOther", fn := fun _ => fun
  | [d1, d2] => { results := [.lit (.bool false)], args := [d1, d2] }
  | _ => none }
def OpsOtherWrongFalsely : Prop := opsOtherRow.holds Tryz.pinned (OpenSpec.ofChange opsOtherWrong)

/- THE SECOND FORM. 'bulk': how many values and letters a reading holds, each counted each time it is reached (what is shared counts as often as it is met; a slice's spare places count too). A statement '..UptoSaid' is the law's where the arguments, and the package variables that the reading takes, are together of bulk at most 1048576: NARROWER than '..Said'. Prove '..Said' where nothing that the law and all that it calls make is longer than what came in: it says more and counts as full. Else prove '..UptoSaid'. A law counts once. -/
mutual
def uptoBulk {H : Type} : DataW H → Nat
  | .lit (.string bytes) => bytes.length + 1
  | .lit _ => 1
  | .nil => 1
  | .ptr d => uptoBulk d + 1
  | .slice elems spare => uptoBulkAll elems + uptoBulkAll spare + 1
  | .agg parts => uptoBulkAll parts + 1
  | .iface _ d => uptoBulk d + 1
  | .map entries => uptoBulkEntries entries + 1
  | .held _ => 1
def uptoBulkAll {H : Type} : List (DataW H) → Nat
  | [] => 0
  | d :: r => uptoBulk d + uptoBulkAll r
def uptoBulkEntries {H : Type} : List (Lit × DataW H) → Nat
  | [] => 0
  | x :: r => uptoBulkEntry x + uptoBulkEntries r
def uptoBulkEntry {H : Type} : Lit × DataW H → Nat
  | (.string bytes, d) => bytes.length + uptoBulk d + 1
  | (_, d) => uptoBulk d + 1
 end
def uptoSmall : (H : Type) → List (DataW H) → Bool := fun _ ds => decide (uptoBulkAll ds ≤ 1048576)
def OpenSpec.upto (s : _root_.Go.ChangeSpec) : _root_.Go.OpenSpec := { _root_.Go.OpenSpec.ofChange s with cond := some uptoSmall }

/-- 'acreagelaw16.OpsMay', WHERE WHAT IT READS IS OF BULK AT MOST 1048576: true; the input reads as it did. -/
def opsMayUptoRow : OpenClaim := { program := "ytbdbefgfejdbjaagreat", sum := "c76dcf51e201a6e6dc50359e4c2a099a0c0ae83c203e58bb1b08beba6f523868", func := "acreage/acreagelaw16.OpsMay", spec := "opsMay", inPlace := ["internal/abi.NoEscape"], unfollowed := true, recurses := true, apart := false, narrowed := true }
def OpsMayUptoSaid : Prop := opsMayUptoRow.holds Tryz.pinned (OpenSpec.upto opsMaySpec)

/-- 'acreagelaw16.OpsEntries', WHERE WHAT IT READS IS OF BULK AT MOST 1048576: true; the input reads as it did. -/
def opsEntriesUptoRow : OpenClaim := { program := "ytbdbefgfejdbjaagreat", sum := "c76dcf51e201a6e6dc50359e4c2a099a0c0ae83c203e58bb1b08beba6f523868", func := "acreage/acreagelaw16.OpsEntries", spec := "opsEntries", inPlace := ["internal/abi.NoEscape"], unfollowed := true, recurses := true, apart := false, narrowed := true }
def OpsEntriesUptoSaid : Prop := opsEntriesUptoRow.holds Tryz.pinned (OpenSpec.upto opsEntriesSpec)

/-- 'acreagelaw16.OpsResults', WHERE WHAT IT READS IS OF BULK AT MOST 1048576: true; the input reads as it did. -/
def opsResultsUptoRow : OpenClaim := { program := "ytbdbefgfejdbjaagreat", sum := "c76dcf51e201a6e6dc50359e4c2a099a0c0ae83c203e58bb1b08beba6f523868", func := "acreage/acreagelaw16.OpsResults", spec := "opsResults", inPlace := ["internal/abi.NoEscape"], unfollowed := true, recurses := true, apart := false, narrowed := true }
def OpsResultsUptoSaid : Prop := opsResultsUptoRow.holds Tryz.pinned (OpenSpec.upto opsResultsSpec)

/-- 'acreagelaw16.OpsSame', WHERE WHAT IT READS IS OF BULK AT MOST 1048576: true; the input reads as it did. -/
def opsSameUptoRow : OpenClaim := { program := "ytbdbefgfejdbjaagreat", sum := "c76dcf51e201a6e6dc50359e4c2a099a0c0ae83c203e58bb1b08beba6f523868", func := "acreage/acreagelaw16.OpsSame", spec := "opsSame", inPlace := ["internal/abi.NoEscape"], unfollowed := true, recurses := true, apart := false, narrowed := true }
def OpsSameUptoSaid : Prop := opsSameUptoRow.holds Tryz.pinned (OpenSpec.upto opsSameSpec)

/-- 'acreagelaw16.OpsBack', WHERE WHAT IT READS IS OF BULK AT MOST 1048576: true; the input reads as it did. -/
def opsBackUptoRow : OpenClaim := { program := "ytbdbefgfejdbjaagreat", sum := "c76dcf51e201a6e6dc50359e4c2a099a0c0ae83c203e58bb1b08beba6f523868", func := "acreage/acreagelaw16.OpsBack", spec := "opsBack", inPlace := ["internal/abi.NoEscape"], unfollowed := true, recurses := true, apart := false, narrowed := true }
def OpsBackUptoSaid : Prop := opsBackUptoRow.holds Tryz.pinned (OpenSpec.upto opsBackSpec)

/-- 'acreagelaw16.OpsOther', WHERE WHAT IT READS IS OF BULK AT MOST 1048576: true; the input reads as it did. -/
def opsOtherUptoRow : OpenClaim := { program := "ytbdbefgfejdbjaagreat", sum := "c76dcf51e201a6e6dc50359e4c2a099a0c0ae83c203e58bb1b08beba6f523868", func := "acreage/acreagelaw16.OpsOther", spec := "opsOther", inPlace := ["internal/abi.NoEscape"], unfollowed := true, recurses := true, apart := false, narrowed := true }
def OpsOtherUptoSaid : Prop := opsOtherUptoRow.holds Tryz.pinned (OpenSpec.upto opsOtherSpec)

end Rows
end Go.Proofs.YtbdbefgfejdbjaaGreat
