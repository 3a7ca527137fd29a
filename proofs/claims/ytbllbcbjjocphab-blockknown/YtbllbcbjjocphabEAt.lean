/-
  A cell in a block is kept where another block is written.
-/
import Derived.Test.YtbllbcbjjocphabKCmp
import Derived.Laws.AppendOwn
namespace Go.Proofs.Ytbllbcbjjocphab
open Go.RowKit

theorem CellAt.grow {W W' : World} {n : Nat} {r c : List UInt8} {v : Int} {g : Bool} {x : List UInt8} {row : Option Nat} (h : CellAt W n r c v g x) (hg : W.grownBy W' row) (hne : some n ≠ row) : CellAt W' n r c v g x :=
  ⟨hg.cell h.c0 hne, hg.cell h.c1 hne, hg.cell h.c2 hne, hg.cell h.c3 hne, hg.cell h.c4 hne⟩

end Go.Proofs.Ytbllbcbjjocphab
