/-
  SkipKnown's walk, as a contract.
-/
import Derived.Test.YtmekcfbopjgbeaaSKn
namespace Go.Proofs.Ytmekcfbopjgbeaa
open Go.RowKit

theorem Known8_any (w : World) : Calls Try.prog 7 #[] w fun e w' => e = .returned (.bool true) ∧ Below w.heap.size w w' := Known8_rp w _ fun _ h => ⟨rfl, h⟩

end Go.Proofs.Ytmekcfbopjgbeaa
