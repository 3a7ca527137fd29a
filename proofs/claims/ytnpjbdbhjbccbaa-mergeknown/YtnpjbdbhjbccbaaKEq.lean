/-
  '==' and '!=' of two ranges, as the model has them: both ends alike.
-/
import Derived.Test.YtnpjbdbhjbccbaaKOrd
import Derived.Laws.StructEq
import Derived.WalkKit
namespace Go.Proofs.Ytnpjbdbhjbccbaa
open Go.RowKit

end Go.Proofs.Ytnpjbdbhjbccbaa
