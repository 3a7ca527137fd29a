/-
  '==' and '!=' of two ranges, as the model has them: both ends alike.
-/
import Derived.Test.YtmekcfbopjgbeaaKOrd
import Derived.Laws.StructEq
import Derived.WalkKit
namespace Go.Proofs.Ytmekcfbopjgbeaa
open Go.RowKit

end Go.Proofs.Ytmekcfbopjgbeaa
