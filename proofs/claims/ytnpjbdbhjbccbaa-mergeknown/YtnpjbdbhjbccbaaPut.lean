/-
  The contracts of wire's functions that lay (behind, layNumber, PutByte, PutNumber, PutText), over this seat's translation.
-/
import Derived.Test.YtnpjbdbhjbccbaaAid
namespace Go.Proofs.Ytnpjbdbhjbccbaa
open Go.RowKit

/-- One byte laid in a block of its own: the cells that are appended. -/
theorem news_one (wr : World) (u : Value) (t : TypeId) : ∀ j x, [u][j]? = some x → (wr.alloc (.cells #[u] t)).cell? ((⟨wr.heap.size, 0, none⟩ : Addr).add j) = some x := by
  intro j x hj
  match j, hj with
  | 0, hj => simp at hj; subst hj; simp [Addr.add]

end Go.Proofs.Ytnpjbdbhjbccbaa
