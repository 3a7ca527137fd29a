/-
  The contracts of the document's own order of cells, and of the two functions that say whether a cell may be.
-/
import Derived.Test.YtlkikfkchgmmhaaKCmp
namespace Go.Proofs.Ytlkikfkchgmmhaa
open Go.RowKit
attribute [local go_sem] size_bstr toList_bstr ls_def

theorem ct_lt {a b : List UInt8} (h : ls a b = true) : ct a b = -1 := by unfold ct; rw [if_pos h]
theorem ct_gt {a b : List UInt8} (h : ls b a = true) : ct a b = 1 := by unfold ct; rw [if_neg (by rw [ls_asymm h]; simp), if_pos h]
theorem ct_self (a : List UInt8) : ct a a = 0 := by unfold ct; rw [ls_irrefl]; rfl
theorem ct_ne {a b : List UInt8} (h : a ≠ b) : ct a b = if ls a b = true then -1 else 1 := by
  rcases ls_tri a b with h1 | h1 | h1
  · rw [ct_lt h1, if_pos h1]
  · exact absurd h1 h
  · rw [ct_gt h1, if_neg (by rw [ls_asymm h1]; simp)]
theorem ct_ne0 {a b : List UInt8} (h : a ≠ b) : ct a b ≠ 0 := by
  rw [ct_ne h]; split <;> decide
theorem ct_zero {a b : List UInt8} : ct a b = 0 ↔ a = b := by
  constructor
  · intro h
    rcases Classical.em (a = b) with e | e
    · exact e
    · exact absurd h (ct_ne0 e)
  · rintro rfl; exact ct_self a

/-- A cell may be. -/
def mayC (r c : List UInt8) (v : Int) (g : Bool) (x : List UInt8) : Bool :=
  storedB r && decide (c.length ≤ 16) && !(r == [] && c == []) && decide (1 ≤ v) && decide (v ≤ 1099511627776) && decide (x.length ≤ 65536) && !(g && !(x == []))

end Go.Proofs.Ytlkikfkchgmmhaa
