/-
  The contract of cells.Decode.
-/
import Derived.Test.YtbllbcbjjocphabCBackM
namespace Go.Proofs.Ytbllbcbjjocphab
open Go.RowKit Go.BigFrame Go.Sort
attribute [local go_sem] size_bstr toList_bstr ls_def

/-- A row stays where one block below its own changes. -/
theorem own_grown {w w' : World} {B e size n g : Nat} {v : Value} {xs : List Value} (h : w.ownsRow B e size v n xs) (hg : w.grownBy w' (some g)) (hB : g < B) : w'.ownsRow B e size v n xs := by
  rcases h.2 with h0 | ⟨g', cap, cur, hv, hbg, hg', r⟩
  · exact ⟨h.1, .inl h0⟩
  · exact ⟨h.1, .inr ⟨g', cap, cur, hv, hbg, (hg.block g' (lt_of_block hg') (fun e => by cases e; omega)).trans hg', r⟩⟩
theorem lay_pos (c : Cl) : 1 ≤ (layL c).length := by
  have := Lib.uvarint_pos c.row.length
  simp [layL, txt]
  omega

end Go.Proofs.Ytbllbcbjjocphab
