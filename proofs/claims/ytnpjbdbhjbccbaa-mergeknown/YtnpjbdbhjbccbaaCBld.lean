/-
  What is written into a strings.Builder stands behind what it had.
-/
import Derived.Test.YtnpjbdbhjbccbaaAid
import Derived.Test.YtnpjbdbhjbccbaaShelf
import Derived.Lib.Builder
import Derived.Lib.AppendStr
import Derived.Laws.Externs
namespace Go.Proofs.Ytnpjbdbhjbccbaa
open Go.RowKit

end Go.Proofs.Ytnpjbdbhjbccbaa
