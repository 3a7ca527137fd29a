/-
  '==' and '!=' of two ranges, as the model has them: both ends alike.
-/
import Derived.Test.YtbllbcbjjocphabKOrd
import Derived.Laws.StructEq
import Derived.WalkKit
namespace Go.Proofs.Ytbllbcbjjocphab
open Go.RowKit

end Go.Proofs.Ytbllbcbjjocphab
