/-
  '==' and '!=' of two ranges, as the model has them: both ends alike.
-/
import Derived.Test.YtpihdjemjfkidaaKOrd
import Derived.Laws.StructEq
import Derived.WalkKit
namespace Go.Proofs.Ytpihdjemjfkidaa
open Go.RowKit

end Go.Proofs.Ytpihdjemjfkidaa
