/-
  The contracts of wire's functions that lay (behind, layNumber, PutByte, PutNumber, PutText), over this seat's translation.
-/
import Derived.Test.YtbdbefgfejdbjaaGreatAid
namespace Go.Proofs.YtbdbefgfejdbjaaGreat
open Go.RowKit

set_option maxHeartbeats 400000 in
/-- 'behind(b, more)': a row of the call's own that holds b's bytes. -/
theorem behind_any (b : ByteArray) (m : Int) (w : World) (h0 : 0 ≤ m) (hb : (b.size : Int) + m ≤ 100000000000) :
    Calls Tryz.prog 137 #[.string b, .int .i64 m] w fun e w' => ∃ v, e = .returned v ∧ w'.ownsRow w.heap.size 5 1 v b.size (Lib.byteCells b.data.toList) ∧ Below w.heap.size w w' := by
  obtain ⟨i0, hi, hz0, hz1, hz2⟩ := info_parts Tryz.infoByte
  go_enter Tryz.func137, Tryz.ntmps137
  go_wp2_with (first
    | (at_make; refine wpList_make_own _ rfl _ _ 153 rfl w.heap.size 5 i0 (.int .u8 0) 1 Tryz.underlying153 hi hz0 hz1 .i64 .i64 ((b.size : Int) + m) (b.size + m.toNat) rfl rfl (by omega) (by rw [hz2]; omega) (by unfold maxLen; omega) (Nat.le_refl _) ?_; intro w1 hown1 hgrow1)
    | (at_builtin; refine Lib.wpList_append_own_string _ rfl _ _ 153 9 rfl w.heap.size 5 i0 Tryz.underlying153 Tryz.underlying9 hi hz0 hz1 hz2 _ _ _ rfl hown1 b rfl (by unfold maxLen; omega) (by omega) hgrow1.size ?_; intro v' w2 hown2 hgrow2 _))
  go_ret
  refine ⟨v', rfl, by simpa [strCells_eq] using hown2, ?_⟩
  exact ((Below.refl _ w).grown hgrow1 (Nat.le_refl _) (fun k hk => by cases hk)).grown hgrow2 hgrow1.size (fun k hk => (hown1.lt k hk).1)

/-- One byte laid in a block of its own: the cells that are appended. -/
theorem news_one (wr : World) (u : Value) (t : TypeId) : ∀ j x, [u][j]? = some x → (wr.alloc (.cells #[u] t)).cell? ((⟨wr.heap.size, 0, none⟩ : Addr).add j) = some x := by
  intro j x hj
  match j, hj with
  | 0, hj => simp at hj; subst hj; simp [Addr.add]

set_option maxHeartbeats 1000000 in
set_option maxRecDepth 100000 in
/-- 'layNumber(out, v)': v's bytes behind what out owns. -/
theorem layNumber_any (B n x : Nat) (hx : x < 18446744073709551616) (sv : Value) (xs : List Value) (w : World) (hown : w.ownsRow B 5 1 sv n xs) (hBw : B ≤ w.heap.size) (hlim : n + 10 ≤ 140737488355328) :
    Calls Tryz.prog 136 #[sv, .int .u64 x] w fun e w' => ∃ v', e = .returned v' ∧ w'.ownsRow B 5 1 v' (n + (Lib.uvarint x).length) (xs ++ Lib.byteCells (Lib.uvarint x)) ∧ Below B w w' := by
  obtain ⟨i0, hi, hz0, hz1, hz2⟩ := info_parts Tryz.infoByte
  have hlen := Lib.uvarint_length64 hx
  go_enter Tryz.func136, Tryz.ntmps136
  go_wp2
  go_loopw [0, 1] (fun vb vx wr => ∃ (y : Nat) (pre : List UInt8), vx = .int .u64 y ∧ y ≤ x ∧ Lib.uvarint x = pre ++ Lib.uvarint y ∧ wr.ownsRow B 5 1 vb (n + pre.length) (xs ++ Lib.byteCells pre) ∧ Below B w wr)
    (fun _ vx _ => (intOf vx).toNat)
  case atStart => exact ⟨x, [], rfl, Nat.le_refl _, rfl, by simpa [Lib.byteCells] using hown, Below.refl _ _⟩
  case round =>
    obtain ⟨y, pre, rfl, hy, hsplit, hown1, hnx⟩ := hrel
    have hpl : pre.length + (Lib.uvarint y).length ≤ 10 := by
      have h2 := congrArg List.length hsplit
      rw [List.length_append] at h2
      omega
    have hyp := Lib.uvarint_pos y
    by_cases h128 : 128 ≤ y
    · have hor : bits .or .u8 ((y : Int) % 256) 128 = ((y % 128 + 128 : Nat) : Int) := by
        rw [Lib.u8_or128_any _ (by omega) (by omega)]
        omega
      go_wp2_with (at_builtin; refine wpList_append_own _ rfl _ _ 153 rfl B 5 i0 (.int .u8 0) 1 1 Tryz.underlying153 hi hz0 hz1 hz2 rfl (by decide) _ _ _ rfl (hown1.alloc _) ⟨wr.heap.size, 0, none⟩ 1 1 [Value.int .u8 ((y % 128 + 128 : Nat) : Int)] rfl rfl ?c1 ?c2 ?c3 ?c4 ?c5 ?_)
      case c1 =>
        intro j u hj
        match j, hj with
        | 0, hj => simp at hj; subst hj; simp [Addr.add]
      case c2 => intro u hu; simp at hu; subst hu; rfl
      case c3 => unfold maxLen; omega
      case c4 => omega
      case c5 => have := hnx.size; simp; omega
      intro v' w1 hown' hgrow _
      have hnx1 : Below B w w1 := (hnx.alloc (by have := hnx.size; omega) _).grown hgrow (by have := hnx.size; simp; omega) (fun k hk => (hown1.lt k hk).1)
      go_wp2
      go_roundw
      case rel =>
        refine ⟨y / 128, pre ++ [(y % 128 + 128).toUInt8], by go_num, by omega, by rw [hsplit, Lib.uvarint_big h128]; simp, ?_, hnx1⟩
        have ec : ((y % 128 + 128 : Nat) : Int) = (y : Int) % 128 + 128 := by omega
        rw [Lib.byteCells_snoc pre (by omega), List.length_append, List.length_singleton, ← Nat.add_assoc, ec]
        exact hown'
      case measure => simp [intOf]; omega
    · have hsm : Lib.uvarint y = [y.toUInt8] := Lib.uvarint_small (by omega)
      go_wp2_with (at_builtin; refine wpList_append_own _ rfl _ _ 153 rfl B 5 i0 (.int .u8 0) 1 1 Tryz.underlying153 hi hz0 hz1 hz2 rfl (by decide) _ _ _ rfl (hown1.alloc _) ⟨wr.heap.size, 0, none⟩ 1 1 [Value.int .u8 (y : Int)] rfl rfl ?c1 ?c2 ?c3 ?c4 ?c5 ?_)
      case c1 =>
        intro j u hj
        match j, hj with
        | 0, hj => simp at hj; subst hj; simp [Addr.add]
      case c2 => intro u hu; simp at hu; subst hu; rfl
      case c3 => unfold maxLen; omega
      case c4 => omega
      case c5 => have := hnx.size; simp; omega
      intro v' w1 hown' hgrow _
      have hnx1 : Below B w w1 := (hnx.alloc (by have := hnx.size; omega) _).grown hgrow (by have := hnx.size; simp; omega) (fun k hk => (hown1.lt k hk).1)
      go_wp2
      go_ret
      refine ⟨v', rfl, ?_, hnx1⟩
      rw [hsplit, hsm, Lib.byteCells_snoc pre (by omega), List.length_append, List.length_singleton, ← Nat.add_assoc]
      exact hown'

set_option maxHeartbeats 400000 in
/-- 'PutByte(b, v)': b and the byte behind it. -/
theorem PutByte_any (b : ByteArray) (x : Nat) (w : World) (hx : x < 256) (hb : b.size ≤ 10000000000) :
    Calls Tryz.prog 120 #[.string b, .int .u8 x] w fun e w' => e = .returned (.string (b ++ bstr [x.toUInt8])) ∧ Below w.heap.size w w' := by
  obtain ⟨i0, hi, hz0, hz1, hz2⟩ := info_parts Tryz.infoByte
  go_enter Tryz.func120, Tryz.ntmps120
  go_wp2_with fail
  refine (behind_any b 1 _ (by omega) (by omega)).mono ?_
  rintro e w1 ⟨v, rfl, hown, hbel⟩
  go_wp2_with (at_builtin; refine wpList_append_own _ rfl _ _ 153 rfl w.heap.size 5 i0 (.int .u8 0) 1 1 Tryz.underlying153 hi hz0 hz1 hz2 rfl (by decide) _ _ _ rfl (hown.alloc _) ⟨w1.heap.size, 0, none⟩ 1 1 [Value.int .u8 (x : Int)] rfl rfl (news_one _ _ _) ?c2 ?c3 ?c4 ?c5 ?_)
  case c2 => intro u hu; simp at hu; subst hu; rfl
  case c3 => unfold maxLen; omega
  case c4 => omega
  case c5 => have := hbel.size; simp; omega
  intro v' w2 hown' hgrow _
  have e0 : Lib.byteCells b.data.toList ++ [Value.int .u8 (x : Int)] = Lib.byteCells (b.data.toList ++ [x.toUInt8]) := by rw [Lib.byteCells_snoc _ hx]
  rw [e0] at hown'
  have hcv := run_convert_own (P := Tryz.prog) (src := 153) (dst := 9) hown' Tryz.underlying153 Tryz.underlying5 Tryz.underlying9
  have hnx1 : Below w.heap.size w w2 := (hbel.alloc hbel.size _).grown hgrow (by have := hbel.size; simp; omega) (fun k hk => (hown.lt k hk).1)
  clear hgrow hown' hown
  go_wp2
  go_ret
  exact ⟨by rw [append_str]; rfl, hnx1⟩

set_option maxHeartbeats 400000 in
/-- 'PutNumber(b, v)': b and v's bytes behind it. -/
theorem PutNumber_any (b : ByteArray) (x : Nat) (w : World) (hx : x < 18446744073709551616) (hb : b.size ≤ 10000000000) :
    Calls Tryz.prog 113 #[.string b, .int .u64 x] w fun e w' => e = .returned (.string (b ++ bstr (Lib.uvarint x))) ∧ Below w.heap.size w w' := by
  go_enter Tryz.func113, Tryz.ntmps113
  go_wp2_with fail
  refine (behind_any b 10 _ (by omega) (by omega)).mono ?_
  rintro e w1 ⟨v, rfl, hown, hbel⟩
  go_wp2_with fail
  refine (layNumber_any w.heap.size b.size x hx v _ _ hown hbel.size (by omega)).mono ?_
  rintro e w2 ⟨v', rfl, hown', hbel'⟩
  rw [← byteCells_append] at hown'
  have hcv := run_convert_own (P := Tryz.prog) (src := 153) (dst := 9) hown' Tryz.underlying153 Tryz.underlying5 Tryz.underlying9
  clear hown' hown
  go_wp2
  go_ret
  exact ⟨by rw [append_str]; rfl, hbel.trans hbel'⟩

set_option maxHeartbeats 400000 in
/-- 'PutText(b, s)': b, then the length of s as a number, then s. -/
theorem PutText_any (b s : ByteArray) (w : World) (hb : b.size ≤ 10000000000) (hs : s.size ≤ 10000000000) :
    Calls Tryz.prog 121 #[.string b, .string s] w fun e w' => e = .returned (.string (b ++ bstr (Lib.uvarint s.size) ++ s)) ∧ Below w.heap.size w w' := by
  obtain ⟨i0, hi, hz0, hz1, hz2⟩ := info_parts Tryz.infoByte
  have hlen := Lib.uvarint_length64 (x := s.size) (by omega)
  go_enter Tryz.func121, Tryz.ntmps121
  go_wp2_with fail
  refine (behind_any b _ _ (by omega) (by omega)).mono ?_
  rintro e w1 ⟨v, rfl, hown, hbel⟩
  go_wp2_with fail
  refine (layNumber_any w.heap.size b.size s.size (by omega) v _ _ hown hbel.size (by omega)).mono ?_
  rintro e w2 ⟨v', rfl, hown', hbel'⟩
  have hbel2 := hbel.trans hbel'
  rw [← byteCells_append] at hown'
  go_wp2_with (at_builtin; refine Lib.wpList_append_own_string _ rfl _ _ 153 9 rfl w.heap.size 5 i0 Tryz.underlying153 Tryz.underlying9 hi hz0 hz1 hz2 _ _ _ rfl hown' s rfl (by unfold maxLen; omega) (by omega) hbel2.size ?_)
  intro v3 w3 hown3 hgrow3 _
  rw [strCells_eq, ← byteCells_append] at hown3
  have hcv := run_convert_own (P := Tryz.prog) (src := 153) (dst := 9) hown3 Tryz.underlying153 Tryz.underlying5 Tryz.underlying9
  have hnx := hbel2.grown hgrow3 hbel2.size (fun k hk => (hown'.lt k hk).1)
  clear hown3 hown' hown hgrow3
  go_wp2
  go_ret
  exact ⟨ret_str (append_text _ _ _).symm, hnx⟩

end Go.Proofs.YtbdbefgfejdbjaaGreat
