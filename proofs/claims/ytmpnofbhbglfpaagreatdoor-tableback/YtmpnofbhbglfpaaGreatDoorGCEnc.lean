/-
  The contracts of wire's functions that lay (behind, layNumber, PutByte, PutNumber, PutText), over this seat's translation.
  The bytes of a list of cells, and the contract of cells.Encode.
-/
import Derived.Test.YtmpnofbhbglfpaaGreatDoorAid
import Derived.Test.YtmpnofbhbglfpaaGreatDoorGEOpen
import Derived.Test.YtmpnofbhbglfpaaGreatDoorCBld
import Derived.Lib.QuietBelow
import Derived.BigQuiet
namespace Go.Proofs.YtmpnofbhbglfpaaGreatDoor
open Go.RowKit

set_option maxHeartbeats 400000 in
/-- 'behind(b, more)': a row of the call's own that holds b's bytes. -/
theorem behind_any (b : ByteArray) (m : Int) (w : World) (h0 : 0 ≤ m) (hb : (b.size : Int) + m ≤ 100000000000) :
    Calls Tryz.prog 104 #[.string b, .int .i64 m] w fun e w' => ∃ v, e = .returned v ∧ w'.ownsRow w.heap.size 5 1 v b.size (Lib.byteCells b.data.toList) ∧ Below w.heap.size w w' := by
  obtain ⟨i0, hi, hz0, hz1, hz2⟩ := info_parts Tryz.infoByte
  go_enter Tryz.func104, Tryz.ntmps104
  go_wp2_with (first
    | (at_make; refine wpList_make_own _ rfl _ _ 88 rfl w.heap.size 5 i0 (.int .u8 0) 1 Tryz.underlying88 hi hz0 hz1 .i64 .i64 ((b.size : Int) + m) (b.size + m.toNat) rfl rfl (by omega) (by rw [hz2]; omega) (by unfold maxLen; omega) (Nat.le_refl _) ?_; intro w1 hown1 hgrow1)
    | (at_builtin; refine Lib.wpList_append_own_string _ rfl _ _ 88 9 rfl w.heap.size 5 i0 Tryz.underlying88 Tryz.underlying9 hi hz0 hz1 hz2 _ _ _ rfl hown1 b rfl (by unfold maxLen; omega) (by omega) hgrow1.size ?_; intro v' w2 hown2 hgrow2 _))
  go_ret
  refine ⟨v', rfl, by simpa [strCells_eq] using hown2, ?_⟩
  exact ((Below.refl _ w).grown hgrow1 (Nat.le_refl _) (fun k hk => by cases hk)).grown hgrow2 hgrow1.size (fun k hk => (hown1.lt k hk).1)

/-- One byte laid in a block of its own: the cells that are appended. -/
theorem news_one (wr : World) (u : Value) (t : TypeId) : ∀ j x, [u][j]? = some x → (wr.alloc (.cells #[u] t)).cell? ((⟨wr.heap.size, 0, none⟩ : Addr).add j) = some x := by
  intro j x hj
  match j, hj with
  | 0, hj => simp at hj; subst hj; simp [Addr.add]

set_option maxHeartbeats 1000000 in
set_option maxRecDepth 100000 in
/-- 'layNumber(out, v)': v's bytes behind what out owns. -/
theorem layNumber_any (B n x : Nat) (hx : x < 18446744073709551616) (sv : Value) (xs : List Value) (w : World) (hown : w.ownsRow B 5 1 sv n xs) (hBw : B ≤ w.heap.size) (hlim : n + 10 ≤ 140737488355328) :
    Calls Tryz.prog 103 #[sv, .int .u64 x] w fun e w' => ∃ v', e = .returned v' ∧ w'.ownsRow B 5 1 v' (n + (Lib.uvarint x).length) (xs ++ Lib.byteCells (Lib.uvarint x)) ∧ Below B w w' := by
  obtain ⟨i0, hi, hz0, hz1, hz2⟩ := info_parts Tryz.infoByte
  have hlen := Lib.uvarint_length64 hx
  go_enter Tryz.func103, Tryz.ntmps103
  go_wp2
  go_loopw [0, 1] (fun vb vx wr => ∃ (y : Nat) (pre : List UInt8), vx = .int .u64 y ∧ y ≤ x ∧ Lib.uvarint x = pre ++ Lib.uvarint y ∧ wr.ownsRow B 5 1 vb (n + pre.length) (xs ++ Lib.byteCells pre) ∧ Below B w wr)
    (fun _ vx _ => (intOf vx).toNat)
  case atStart => exact ⟨x, [], rfl, Nat.le_refl _, rfl, by simpa [Lib.byteCells] using hown, Below.refl _ _⟩
  case round =>
    obtain ⟨y, pre, rfl, hy, hsplit, hown1, hnx⟩ := hrel
    have hpl : pre.length + (Lib.uvarint y).length ≤ 10 := by
      have h2 := congrArg List.length hsplit
      rw [List.length_append] at h2
      omega
    have hyp := Lib.uvarint_pos y
    by_cases h128 : 128 ≤ y
    · have hor : bits .or .u8 ((y : Int) % 256) 128 = ((y % 128 + 128 : Nat) : Int) := by
        rw [Lib.u8_or128_any _ (by omega) (by omega)]
        omega
      go_wp2_with (at_builtin; refine wpList_append_own _ rfl _ _ 88 rfl B 5 i0 (.int .u8 0) 1 1 Tryz.underlying88 hi hz0 hz1 hz2 rfl (by decide) _ _ _ rfl (hown1.alloc _) ⟨wr.heap.size, 0, none⟩ 1 1 [Value.int .u8 ((y % 128 + 128 : Nat) : Int)] rfl rfl ?c1 ?c2 ?c3 ?c4 ?c5 ?_)
      case c1 =>
        intro j u hj
        match j, hj with
        | 0, hj => simp at hj; subst hj; simp [Addr.add]
      case c2 => intro u hu; simp at hu; subst hu; rfl
      case c3 => unfold maxLen; omega
      case c4 => omega
      case c5 => have := hnx.size; simp; omega
      intro v' w1 hown' hgrow _
      have hnx1 : Below B w w1 := (hnx.alloc (by have := hnx.size; omega) _).grown hgrow (by have := hnx.size; simp; omega) (fun k hk => (hown1.lt k hk).1)
      go_wp2
      go_roundw
      case rel =>
        refine ⟨y / 128, pre ++ [(y % 128 + 128).toUInt8], by go_num, by omega, by rw [hsplit, Lib.uvarint_big h128]; simp, ?_, hnx1⟩
        have ec : ((y % 128 + 128 : Nat) : Int) = (y : Int) % 128 + 128 := by omega
        rw [Lib.byteCells_snoc pre (by omega), List.length_append, List.length_singleton, ← Nat.add_assoc, ec]
        exact hown'
      case measure => simp [intOf]; omega
    · have hsm : Lib.uvarint y = [y.toUInt8] := Lib.uvarint_small (by omega)
      go_wp2_with (at_builtin; refine wpList_append_own _ rfl _ _ 88 rfl B 5 i0 (.int .u8 0) 1 1 Tryz.underlying88 hi hz0 hz1 hz2 rfl (by decide) _ _ _ rfl (hown1.alloc _) ⟨wr.heap.size, 0, none⟩ 1 1 [Value.int .u8 (y : Int)] rfl rfl ?c1 ?c2 ?c3 ?c4 ?c5 ?_)
      case c1 =>
        intro j u hj
        match j, hj with
        | 0, hj => simp at hj; subst hj; simp [Addr.add]
      case c2 => intro u hu; simp at hu; subst hu; rfl
      case c3 => unfold maxLen; omega
      case c4 => omega
      case c5 => have := hnx.size; simp; omega
      intro v' w1 hown' hgrow _
      have hnx1 : Below B w w1 := (hnx.alloc (by have := hnx.size; omega) _).grown hgrow (by have := hnx.size; simp; omega) (fun k hk => (hown1.lt k hk).1)
      go_wp2
      go_ret
      refine ⟨v', rfl, ?_, hnx1⟩
      rw [hsplit, hsm, Lib.byteCells_snoc pre (by omega), List.length_append, List.length_singleton, ← Nat.add_assoc]
      exact hown'

set_option maxHeartbeats 400000 in
/-- 'PutByte(b, v)': b and the byte behind it. -/
theorem PutByte_any (b : ByteArray) (x : Nat) (w : World) (hx : x < 256) (hb : b.size ≤ 10000000000) :
    Calls Tryz.prog 132 #[.string b, .int .u8 x] w fun e w' => e = .returned (.string (b ++ bstr [x.toUInt8])) ∧ Below w.heap.size w w' := by
  obtain ⟨i0, hi, hz0, hz1, hz2⟩ := info_parts Tryz.infoByte
  go_enter Tryz.func132, Tryz.ntmps132
  go_wp2_with fail
  refine (behind_any b 1 _ (by omega) (by omega)).mono ?_
  rintro e w1 ⟨v, rfl, hown, hbel⟩
  go_wp2_with (at_builtin; refine wpList_append_own _ rfl _ _ 88 rfl w.heap.size 5 i0 (.int .u8 0) 1 1 Tryz.underlying88 hi hz0 hz1 hz2 rfl (by decide) _ _ _ rfl (hown.alloc _) ⟨w1.heap.size, 0, none⟩ 1 1 [Value.int .u8 (x : Int)] rfl rfl (news_one _ _ _) ?c2 ?c3 ?c4 ?c5 ?_)
  case c2 => intro u hu; simp at hu; subst hu; rfl
  case c3 => unfold maxLen; omega
  case c4 => omega
  case c5 => have := hbel.size; simp; omega
  intro v' w2 hown' hgrow _
  have e0 : Lib.byteCells b.data.toList ++ [Value.int .u8 (x : Int)] = Lib.byteCells (b.data.toList ++ [x.toUInt8]) := by rw [Lib.byteCells_snoc _ hx]
  rw [e0] at hown'
  have hcv := run_convert_own (P := Tryz.prog) (src := 88) (dst := 9) hown' Tryz.underlying88 Tryz.underlying5 Tryz.underlying9
  have hnx1 : Below w.heap.size w w2 := (hbel.alloc hbel.size _).grown hgrow (by have := hbel.size; simp; omega) (fun k hk => (hown.lt k hk).1)
  clear hgrow hown' hown
  go_wp2
  go_ret
  exact ⟨by rw [append_str]; rfl, hnx1⟩

set_option maxHeartbeats 400000 in
/-- 'PutNumber(b, v)': b and v's bytes behind it. -/
theorem PutNumber_any (b : ByteArray) (x : Nat) (w : World) (hx : x < 18446744073709551616) (hb : b.size ≤ 10000000000) :
    Calls Tryz.prog 56 #[.string b, .int .u64 x] w fun e w' => e = .returned (.string (b ++ bstr (Lib.uvarint x))) ∧ Below w.heap.size w w' := by
  go_enter Tryz.func56, Tryz.ntmps56
  go_wp2_with fail
  refine (behind_any b 10 _ (by omega) (by omega)).mono ?_
  rintro e w1 ⟨v, rfl, hown, hbel⟩
  go_wp2_with fail
  refine (layNumber_any w.heap.size b.size x hx v _ _ hown hbel.size (by omega)).mono ?_
  rintro e w2 ⟨v', rfl, hown', hbel'⟩
  rw [← byteCells_append] at hown'
  have hcv := run_convert_own (P := Tryz.prog) (src := 88) (dst := 9) hown' Tryz.underlying88 Tryz.underlying5 Tryz.underlying9
  clear hown' hown
  go_wp2
  go_ret
  exact ⟨by rw [append_str]; rfl, hbel.trans hbel'⟩

set_option maxHeartbeats 400000 in
/-- 'PutText(b, s)': b, then the length of s as a number, then s. -/
theorem PutText_any (b s : ByteArray) (w : World) (hb : b.size ≤ 10000000000) (hs : s.size ≤ 10000000000) :
    Calls Tryz.prog 102 #[.string b, .string s] w fun e w' => e = .returned (.string (b ++ bstr (Lib.uvarint s.size) ++ s)) ∧ Below w.heap.size w w' := by
  obtain ⟨i0, hi, hz0, hz1, hz2⟩ := info_parts Tryz.infoByte
  have hlen := Lib.uvarint_length64 (x := s.size) (by omega)
  go_enter Tryz.func102, Tryz.ntmps102
  go_wp2_with fail
  refine (behind_any b _ _ (by omega) (by omega)).mono ?_
  rintro e w1 ⟨v, rfl, hown, hbel⟩
  go_wp2_with fail
  refine (layNumber_any w.heap.size b.size s.size (by omega) v _ _ hown hbel.size (by omega)).mono ?_
  rintro e w2 ⟨v', rfl, hown', hbel'⟩
  have hbel2 := hbel.trans hbel'
  rw [← byteCells_append] at hown'
  go_wp2_with (at_builtin; refine Lib.wpList_append_own_string _ rfl _ _ 88 9 rfl w.heap.size 5 i0 Tryz.underlying88 Tryz.underlying9 hi hz0 hz1 hz2 _ _ _ rfl hown' s rfl (by unfold maxLen; omega) (by omega) hbel2.size ?_)
  intro v3 w3 hown3 hgrow3 _
  rw [strCells_eq, ← byteCells_append] at hown3
  have hcv := run_convert_own (P := Tryz.prog) (src := 88) (dst := 9) hown3 Tryz.underlying88 Tryz.underlying5 Tryz.underlying9
  have hnx := hbel2.grown hgrow3 hbel2.size (fun k hk => (hown'.lt k hk).1)
  clear hown3 hown' hown hgrow3
  go_wp2
  go_ret
  exact ⟨ret_str (append_text _ _ _).symm, hnx⟩

end Go.Proofs.YtmpnofbhbglfpaaGreatDoor

namespace Go.Proofs.YtmpnofbhbglfpaaGreatDoor
open Go.RowKit Go.BigFrame Go.Sort
attribute [local go_sem] size_bstr toList_bstr ls_def

/-- A text as bytes; a cell; a list. -/
def txt (s : List UInt8) : List UInt8 := Lib.uvarint s.length ++ s
def layL (c : Cl) : List UInt8 := txt c.row ++ (txt c.col ++ (Lib.uvarint c.ver.toNat ++ ((if c.gone then [1] else [0]) ++ txt c.val)))
def bodyL (l : List Cl) : List UInt8 := l.flatMap layL
def encL (l : List Cl) : List UInt8 := Lib.uvarint l.length ++ bodyL l
/-- A cell may be. -/
def okC (c : Cl) : Bool := mayC c.row c.col c.ver c.gone c.val
theorem okC_len {c : Cl} (h : okC c = true) : c.row.length ≤ 32 ∧ c.col.length ≤ 16 ∧ 1 ≤ c.ver ∧ c.ver ≤ 1099511627776 ∧ c.val.length ≤ 65536 := by
  simp only [okC, mayC, storedB, Bool.and_eq_true, decide_eq_true_eq] at h
  omega

theorem putText (b s : List UInt8) (w : World) (hb : b.length ≤ 10000000000) (hs : s.length ≤ 10000000000) :
    Calls Tryz.prog 102 #[.string (bstr b), .string (bstr s)] w fun e w' => e = .returned (.string (bstr (b ++ txt s))) ∧ RowKit.Below w.heap.size w w' := by
  have := PutText_any (bstr b) (bstr s) w (by rw [size_bstr]; exact hb) (by rw [size_bstr]; exact hs)
  rw [append_text, data_bstr, data_bstr, size_bstr] at this
  exact this
theorem putNum (b : List UInt8) (x : Nat) (w : World) (hx : x < 18446744073709551616) (hb : b.length ≤ 10000000000) :
    Calls Tryz.prog 56 #[.string (bstr b), .int .u64 x] w fun e w' => e = .returned (.string (bstr (b ++ Lib.uvarint x))) ∧ RowKit.Below w.heap.size w w' := by
  have := PutNumber_any (bstr b) x w hx (by rw [size_bstr]; exact hb)
  rw [append_bstr] at this
  exact this
theorem putByte (b : List UInt8) (x : Nat) (w : World) (hx : x < 256) (hb : b.length ≤ 10000000000) :
    Calls Tryz.prog 132 #[.string (bstr b), .int .u8 x] w fun e w' => e = .returned (.string (bstr (b ++ [x.toUInt8]))) ∧ RowKit.Below w.heap.size w w' := by
  have := PutByte_any (bstr b) x w hx (by rw [size_bstr]; exact hb)
  rw [append_bstr] at this
  exact this
theorem txt_len {s : List UInt8} (h : s.length ≤ 10000000000) : (txt s).length ≤ s.length + 10 := by
  unfold txt
  rw [List.length_append]
  have := Lib.uvarint_length64 (x := s.length) (by omega)
  omega
theorem layL_len {c : Cl} (h : okC c = true) : (layL c).length ≤ 66000 := by
  obtain ⟨h1, h2, h3, h4, h5⟩ := okC_len h
  have t1 := txt_len (s := c.row) (by omega)
  have t2 := txt_len (s := c.col) (by omega)
  have t3 := txt_len (s := c.val) (by omega)
  have t4 := Lib.uvarint_length64 (x := c.ver.toNat) (by omega)
  unfold layL
  simp only [List.length_append]
  cases c.gone <;> simp <;> omega

/-- What Encode answers. -/
def encB (l : List Cl) : List UInt8 := if l.all okC = true then (if (encL l).length ≤ 1048576 then encL l else []) else []
def encE (l : List Cl) : Int := if l.all okC = true then (if (encL l).length ≤ 1048576 then 0 else 3) else 2
theorem all_take {l : List Cl} {i : Nat} (h : i < l.length) : (l.take (i + 1)).all okC = ((l.take i).all okC && okC l[i]) := by
  rw [List.take_succ_eq_append_getElem h, List.all_append]
  simp
theorem all_no {l : List Cl} {i : Nat} (h : i < l.length) (k : okC l[i] = false) : l.all okC = false := by
  rw [List.all_eq_false]
  exact ⟨l[i], List.getElem_mem h, by rw [k]; simp⟩
theorem all_get {l : List Cl} (h : l.all okC = true) {i : Nat} (hi : i < l.length) : okC l[i] = true := List.all_eq_true.1 h _ (List.getElem_mem hi)
theorem body_take {l : List Cl} {i : Nat} (h : i < l.length) : bodyL (l.take (i + 1)) = bodyL (l.take i) ++ layL l[i] := by
  unfold bodyL
  rw [List.take_succ_eq_append_getElem h, List.flatMap_append]
  simp
theorem body_mono (l : List Cl) (i : Nat) : (bodyL (l.take i)).length ≤ (bodyL l).length := by
  have : l = l.take i ++ l.drop i := (List.take_append_drop i l).symm
  conv => rhs; rw [this]
  unfold bodyL
  rw [List.flatMap_append, List.length_append]
  omega

end Go.Proofs.YtmpnofbhbglfpaaGreatDoor
