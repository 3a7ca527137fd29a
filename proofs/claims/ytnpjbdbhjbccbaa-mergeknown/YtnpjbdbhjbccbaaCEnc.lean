/-
  The bytes of a list of cells, and the contract of cells.Encode.
-/
import Derived.Test.YtnpjbdbhjbccbaaCFresh
import Derived.Test.YtnpjbdbhjbccbaaCBld
import Derived.Test.YtnpjbdbhjbccbaaPut
import Derived.Lib.QuietBelow
import Derived.BigQuiet
namespace Go.Proofs.Ytnpjbdbhjbccbaa
open Go.RowKit Go.BigFrame Go.Sort
attribute [local go_sem] size_bstr toList_bstr ls_def

/-- A text as bytes; a cell; a list. -/
def txt (s : List UInt8) : List UInt8 := Lib.uvarint s.length ++ s
def layL (c : Cl) : List UInt8 := txt c.row ++ (txt c.col ++ (Lib.uvarint c.ver.toNat ++ ((if c.gone then [1] else [0]) ++ txt c.val)))
def bodyL (l : List Cl) : List UInt8 := l.flatMap layL
def encL (l : List Cl) : List UInt8 := Lib.uvarint l.length ++ bodyL l
/-- A cell may be. -/
def okC (c : Cl) : Bool := mayC c.row c.col c.ver c.gone c.val
theorem okC_len {c : Cl} (h : okC c = true) : c.row.length ≤ 32 ∧ c.col.length ≤ 16 ∧ 1 ≤ c.ver ∧ c.ver ≤ 1099511627776 ∧ c.val.length ≤ 65536 := by
  simp only [okC, mayC, storedB, Bool.and_eq_true, decide_eq_true_eq] at h
  omega

/-- What Encode answers. -/
def encB (l : List Cl) : List UInt8 := if l.all okC = true then (if (encL l).length ≤ 1048576 then encL l else []) else []
def encE (l : List Cl) : Int := if l.all okC = true then (if (encL l).length ≤ 1048576 then 0 else 3) else 2
theorem all_take {l : List Cl} {i : Nat} (h : i < l.length) : (l.take (i + 1)).all okC = ((l.take i).all okC && okC l[i]) := by
  rw [List.take_succ_eq_append_getElem h, List.all_append]
  simp
theorem all_no {l : List Cl} {i : Nat} (h : i < l.length) (k : okC l[i] = false) : l.all okC = false := by
  rw [List.all_eq_false]
  exact ⟨l[i], List.getElem_mem h, by rw [k]; simp⟩
theorem all_get {l : List Cl} (h : l.all okC = true) {i : Nat} (hi : i < l.length) : okC l[i] = true := List.all_eq_true.1 h _ (List.getElem_mem hi)
theorem body_take {l : List Cl} {i : Nat} (h : i < l.length) : bodyL (l.take (i + 1)) = bodyL (l.take i) ++ layL l[i] := by
  unfold bodyL
  rw [List.take_succ_eq_append_getElem h, List.flatMap_append]
  simp
theorem body_mono (l : List Cl) (i : Nat) : (bodyL (l.take i)).length ≤ (bodyL l).length := by
  have : l = l.take i ++ l.drop i := (List.take_append_drop i l).symm
  conv => rhs; rw [this]
  unfold bodyL
  rw [List.flatMap_append, List.length_append]
  omega

end Go.Proofs.Ytnpjbdbhjbccbaa
