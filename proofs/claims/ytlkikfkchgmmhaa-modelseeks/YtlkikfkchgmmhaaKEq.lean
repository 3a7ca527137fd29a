/-
  '==' and '!=' of two ranges, as the model has them: both ends alike.
-/
import Derived.Test.YtlkikfkchgmmhaaKOrd
import Derived.Laws.StructEq
import Derived.WalkKit
namespace Go.Proofs.Ytlkikfkchgmmhaa
open Go.RowKit

end Go.Proofs.Ytlkikfkchgmmhaa
