/-
  The contracts of keys.Split where it refuses, of the document's own Split, of the law's 'works', of User and Stored.
-/
import Derived.Test.YtlkikfkchgmmhaaKSplit
namespace Go.Proofs.Ytlkikfkchgmmhaa
open Go.RowKit
attribute [local go_sem] size_bstr toList_bstr ls_def

theorem cell_drew1 (W : World) (a : Addr) : W.drew.cell? a = W.cell? a := rfl
theorem set4_cell_d {W : World} {n o : Nat} {p q r s v : Value} (h : W.cell? ⟨n, o, none⟩ = some v) :
    ((((W.setCell ⟨n + 1, 0, none⟩ p).setCell ⟨n + 1, 1, none⟩ q).setCell ⟨n + 1 + 1, 0, none⟩ r).setCell ⟨n + 1 + 1, 1, none⟩ s).drew.cell? ⟨n, o, none⟩ = some v := (cell_drew1 _ _).trans (set4_cell h)
theorem set2_cell_d {W : World} {n o : Nat} {p q v : Value} (h : W.cell? ⟨n, o, none⟩ = some v) :
    ((W.setCell ⟨n + 1, 0, none⟩ p).setCell ⟨n + 1, 1, none⟩ q).drew.cell? ⟨n, o, none⟩ = some v := (cell_drew1 _ _).trans (set2_cell h)

/-- What a split answers. -/
def splitV (lo hi k : List UInt8) : Value := if splitB lo hi k = true then triV lo k k hi 0 else triV [] [] [] [] 2

end Go.Proofs.Ytlkikfkchgmmhaa
