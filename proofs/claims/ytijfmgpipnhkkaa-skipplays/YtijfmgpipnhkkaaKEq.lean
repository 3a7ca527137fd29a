/-
  '==' and '!=' of two ranges, as the model has them: both ends alike.
-/
import Derived.Test.YtijfmgpipnhkkaaKOrd
import Derived.Laws.StructEq
import Derived.WalkKit
namespace Go.Proofs.Ytijfmgpipnhkkaa
open Go.RowKit

end Go.Proofs.Ytijfmgpipnhkkaa
