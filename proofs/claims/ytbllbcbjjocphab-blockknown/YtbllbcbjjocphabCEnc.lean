/-
  The bytes of a list of cells, and the contract of cells.Encode.
-/
import Derived.Test.YtbllbcbjjocphabCFresh
import Derived.Test.YtbllbcbjjocphabCBld
import Derived.Test.YtbllbcbjjocphabPut
import Derived.Lib.QuietBelow
import Derived.BigQuiet
namespace Go.Proofs.Ytbllbcbjjocphab
open Go.RowKit Go.BigFrame Go.Sort
attribute [local go_sem] size_bstr toList_bstr ls_def

/-- A text as bytes; a cell; a list. -/
def txt (s : List UInt8) : List UInt8 := Lib.uvarint s.length ++ s
def layL (c : Cl) : List UInt8 := txt c.row ++ (txt c.col ++ (Lib.uvarint c.ver.toNat ++ ((if c.gone then [1] else [0]) ++ txt c.val)))
def bodyL (l : List Cl) : List UInt8 := l.flatMap layL
def encL (l : List Cl) : List UInt8 := Lib.uvarint l.length ++ bodyL l
/-- A cell may be. -/
def okC (c : Cl) : Bool := mayC c.row c.col c.ver c.gone c.val
theorem okC_len {c : Cl} (h : okC c = true) : c.row.length ≤ 32 ∧ c.col.length ≤ 16 ∧ 1 ≤ c.ver ∧ c.ver ≤ 1099511627776 ∧ c.val.length ≤ 65536 := by
  simp only [okC, mayC, storedB, Bool.and_eq_true, decide_eq_true_eq] at h
  omega

theorem putText (b s : List UInt8) (w : World) (hb : b.length ≤ 10000000000) (hs : s.length ≤ 10000000000) :
    Calls Try.prog 29 #[.string (bstr b), .string (bstr s)] w fun e w' => e = .returned (.string (bstr (b ++ txt s))) ∧ RowKit.Below w.heap.size w w' := by
  have := PutText_any (bstr b) (bstr s) w (by rw [size_bstr]; exact hb) (by rw [size_bstr]; exact hs)
  rw [append_text, data_bstr, data_bstr, size_bstr] at this
  exact this
theorem putNum (b : List UInt8) (x : Nat) (w : World) (hx : x < 18446744073709551616) (hb : b.length ≤ 10000000000) :
    Calls Try.prog 30 #[.string (bstr b), .int .u64 x] w fun e w' => e = .returned (.string (bstr (b ++ Lib.uvarint x))) ∧ RowKit.Below w.heap.size w w' := by
  have := PutNumber_any (bstr b) x w hx (by rw [size_bstr]; exact hb)
  rw [append_bstr] at this
  exact this
theorem putByte (b : List UInt8) (x : Nat) (w : World) (hx : x < 256) (hb : b.length ≤ 10000000000) :
    Calls Try.prog 31 #[.string (bstr b), .int .u8 x] w fun e w' => e = .returned (.string (bstr (b ++ [x.toUInt8]))) ∧ RowKit.Below w.heap.size w w' := by
  have := PutByte_any (bstr b) x w hx (by rw [size_bstr]; exact hb)
  rw [append_bstr] at this
  exact this
theorem txt_len {s : List UInt8} (h : s.length ≤ 10000000000) : (txt s).length ≤ s.length + 10 := by
  unfold txt
  rw [List.length_append]
  have := Lib.uvarint_length64 (x := s.length) (by omega)
  omega
theorem layL_len {c : Cl} (h : okC c = true) : (layL c).length ≤ 66000 := by
  obtain ⟨h1, h2, h3, h4, h5⟩ := okC_len h
  have t1 := txt_len (s := c.row) (by omega)
  have t2 := txt_len (s := c.col) (by omega)
  have t3 := txt_len (s := c.val) (by omega)
  have t4 := Lib.uvarint_length64 (x := c.ver.toNat) (by omega)
  unfold layL
  simp only [List.length_append]
  cases c.gone <;> simp <;> omega

/-- What Encode answers. -/
def encB (l : List Cl) : List UInt8 := if l.all okC = true then (if (encL l).length ≤ 1048576 then encL l else []) else []
def encE (l : List Cl) : Int := if l.all okC = true then (if (encL l).length ≤ 1048576 then 0 else 3) else 2
theorem all_take {l : List Cl} {i : Nat} (h : i < l.length) : (l.take (i + 1)).all okC = ((l.take i).all okC && okC l[i]) := by
  rw [List.take_succ_eq_append_getElem h, List.all_append]
  simp
theorem all_no {l : List Cl} {i : Nat} (h : i < l.length) (k : okC l[i] = false) : l.all okC = false := by
  rw [List.all_eq_false]
  exact ⟨l[i], List.getElem_mem h, by rw [k]; simp⟩
theorem all_get {l : List Cl} (h : l.all okC = true) {i : Nat} (hi : i < l.length) : okC l[i] = true := List.all_eq_true.1 h _ (List.getElem_mem hi)
theorem body_take {l : List Cl} {i : Nat} (h : i < l.length) : bodyL (l.take (i + 1)) = bodyL (l.take i) ++ layL l[i] := by
  unfold bodyL
  rw [List.take_succ_eq_append_getElem h, List.flatMap_append]
  simp
theorem body_mono (l : List Cl) (i : Nat) : (bodyL (l.take i)).length ≤ (bodyL l).length := by
  have : l = l.take i ++ l.drop i := (List.take_append_drop i l).symm
  conv => rhs; rw [this]
  unfold bodyL
  rw [List.flatMap_append, List.length_append]
  omega

end Go.Proofs.Ytbllbcbjjocphab
