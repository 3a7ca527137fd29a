/-
  The contracts of the document's answers for numbers and texts as bytes, and for lists of cells as bytes.
-/
import Derived.Test.YtbllbcbjjocphaaCEnc
namespace Go.Proofs.Ytbllbcbjjocphaa
open Go.RowKit Go.BigFrame Go.Sort
attribute [local go_sem] size_bstr getElem_bstr toList_bstr append_bstr

theorem val_str {a b : ByteArray} (h : a = b) : Value.string a = .string b := by rw [h]
/-- 'string([]byte{z})'. -/
theorem run_convert_one (W : World) (z : Nat) (hz : z < 256) :
    (convert 43 9 (.slice (some ⟨W.heap.size, 0, none⟩) 1 1)).run Try.prog (W.alloc (.cells #[.int .u8 (z : Int)] 5)) = .ok (.string (bstr [z.toUInt8])) (W.alloc (.cells #[.int .u8 (z : Int)] 5)) := by
  have hown : (W.alloc (.cells #[.int .u8 (z : Int)] 5)).ownsRow W.heap.size 5 1 (.slice (some ⟨W.heap.size, 0, none⟩) 1 1) 1 (Lib.byteCells [z.toUInt8]) := by
    have h := World.ownsRow_lit (base := W.heap.size) (e := 5) (size := 1) W #[.int .u8 (z : Int)] 1 (Nat.le_refl _) (by decide) (by simp)
    have e : Lib.byteCells [z.toUInt8] = [.int .u8 (z : Int)] := by simp [Lib.byteCells, Nat.toUInt8]; omega
    rw [e]
    exact h
  exact run_convert_own hown Try.underlying43 Try.underlying5 Try.underlying9

set_option maxHeartbeats 1000000 in
set_option maxRecDepth 100000 in
theorem RNumber_any (x : Nat) (w : World) (hx : x < 18446744073709551616) :
    Calls Try.prog 84 #[.int .u64 x] w fun e w' => e = .returned (.string (bstr (Lib.uvarint x))) ∧ RowKit.Below w.heap.size w w' := by
  have hlen := Lib.uvarint_length64 hx
  have hE : (⟨#[]⟩ : ByteArray) = bstr [] := rfl
  go_enter Try.func84, Try.ntmps84
  go_wp2
  go_loopw [0, 3] (fun vx vs wr => ∃ (y : Nat) (pre : List UInt8), vx = .int .u64 y ∧ y ≤ x ∧ Lib.uvarint x = pre ++ Lib.uvarint y ∧ vs = .string (bstr pre) ∧ RowKit.Below w.heap.size w wr) (fun vx _ _ => (intOf vx).toNat)
  case atStart => exact ⟨x, [], rfl, Nat.le_refl _, rfl, rfl, RowKit.Below.refl _ _⟩
  case round =>
    obtain ⟨y, pre, rfl, hy, hsplit, rfl, hbel⟩ := hrel
    have HS : Hid (Lib.uvarint x = pre ++ Lib.uvarint y) := hsplit
    have hpl : pre.length ≤ 10 := by
      have h2 := congrArg List.length hsplit
      rw [List.length_append] at h2
      omega
    clear hsplit
    by_cases h128 : 128 ≤ y
    · obtain ⟨bb, hbb⟩ : ∃ bb, bb = (y % 128 + 128).toUInt8 := ⟨_, rfl⟩
      have hcv : ∀ W : World, (convert 43 9 (.slice (some ⟨W.heap.size, 0, none⟩) 1 1)).run Try.prog (W.alloc (.cells #[.int .u8 ((y : Int) % 128 + 128)] 5)) = .ok (.string (bstr [bb])) (W.alloc (.cells #[.int .u8 ((y : Int) % 128 + 128)] 5)) := by
        intro W
        have := run_convert_one W (y % 128 + 128) (by omega)
        rw [← hbb] at this
        rw [show ((y % 128 + 128 : Nat) : Int) = (y : Int) % 128 + 128 from by omega] at this
        exact this
      have HB : Hid (bb = (y % 128 + 128).toUInt8) := hbb
      clear hbb
      go_wp2
      go_roundw
      case rel => exact ⟨y / 128, pre ++ [bb], by go_num, by omega, by rw [HS.out, Lib.uvarint_big h128, HB.out]; simp, rfl, hbel.alloc hbel.size _⟩
      case measure => simp [intOf]; omega
    · have hcv : ∀ W : World, (convert 43 9 (.slice (some ⟨W.heap.size, 0, none⟩) 1 1)).run Try.prog (W.alloc (.cells #[.int .u8 (y : Int)] 5)) = .ok (.string (bstr [y.toUInt8])) (W.alloc (.cells #[.int .u8 (y : Int)] 5)) := fun W => run_convert_one W y (by omega)
      go_wp2
      go_ret
      exact ⟨ret_str (by rw [HS.out, Lib.uvarint_small (by omega)]), hbel.alloc hbel.size _⟩

set_option maxHeartbeats 400000 in
theorem RText_any (l : List UInt8) (w : World) (hl : l.length ≤ 10000000000) :
    Calls Try.prog 85 #[.string (bstr l)] w fun e w' => e = .returned (.string (bstr (Lib.uvarint l.length ++ l))) ∧ RowKit.Below w.heap.size w w' := by
  have hlen := Lib.uvarint_length64 (x := l.length) (by omega)
  go_enter Try.func85, Try.ntmps85
  go_wp2_with fail
  refine (RNumber_any l.length _ (by omega)).mono ?_
  rintro e w1 ⟨rfl, hb⟩
  go_wp2
  go_ret
  exact ⟨rfl, hb⟩


set_option maxHeartbeats 400000 in
theorem RPutText_any (b l : List UInt8) (w : World) (hb : b.length ≤ 100000000000) (hl : l.length ≤ 10000000000) :
    Calls Try.prog 61 #[.string (bstr b), .string (bstr l)] w fun e w' => e = .returned (.string (bstr (b ++ txt l))) ∧ RowKit.Below w.heap.size w w' := by
  have hlen := txt_len hl
  have hc : ∀ W, Calls Try.prog 85 #[.string (bstr l)] W fun e w' => e = .returned (.string (bstr (txt l))) ∧ RowKit.Below W.heap.size W w' := fun W => RText_any l W hl
  generalize txt l = t at *
  go_enter Try.func61, Try.ntmps61
  go_wp2_with fail
  refine (hc _).mono ?_
  rintro e w1 ⟨rfl, hb1⟩
  go_wp2
  go_ret
  exact ⟨rfl, hb1⟩

set_option maxHeartbeats 400000 in
theorem RPutNumber_any (b : List UInt8) (x : Nat) (w : World) (hb : b.length ≤ 100000000000) (hx : x < 18446744073709551616) :
    Calls Try.prog 60 #[.string (bstr b), .int .u64 x] w fun e w' => e = .returned (.string (bstr (b ++ Lib.uvarint x))) ∧ RowKit.Below w.heap.size w w' := by
  have hlen := Lib.uvarint_length64 hx
  have hc := fun W => RNumber_any x W hx
  generalize Lib.uvarint x = t at *
  go_enter Try.func60, Try.ntmps60
  go_wp2_with fail
  refine (hc _).mono ?_
  rintro e w1 ⟨rfl, hb1⟩
  go_wp2
  go_ret
  exact ⟨rfl, hb1⟩

/-- How long the texts of cells are, and five bytes for each. -/
def sizeL (l : List Cl) : Nat := (l.map fun c => c.row.length + c.col.length + c.val.length + 5).sum
theorem size_take {l : List Cl} {i : Nat} (h : i < l.length) : sizeL (l.take (i + 1)) = sizeL (l.take i) + (l[i].row.length + l[i].col.length + l[i].val.length + 5) := by
  unfold sizeL
  rw [List.take_succ_eq_append_getElem h, List.map_append, List.sum_append]
  simp only [List.map_cons, List.map_nil, List.sum_cons, List.sum_nil, Nat.add_zero]
theorem size_lay (c : Cl) : c.row.length + c.col.length + c.val.length + 5 ≤ (layL c).length := by
  have h1 := Lib.uvarint_pos c.row.length
  have h2 := Lib.uvarint_pos c.col.length
  have h3 := Lib.uvarint_pos c.val.length
  have h4 := Lib.uvarint_pos c.ver.toNat
  unfold layL txt
  simp only [List.length_append]
  cases c.gone <;> simp <;> omega
theorem size_body : ∀ (l : List Cl), sizeL l ≤ (bodyL l).length
  | [] => by simp [sizeL, bodyL]
  | c :: l => by
    have ih := size_body l
    have h := size_lay c
    have e : bodyL (c :: l) = layL c ++ bodyL l := by simp [bodyL]
    have e2 : sizeL (c :: l) = c.row.length + c.col.length + c.val.length + 5 + sizeL l := by simp [sizeL]
    rw [e, e2, List.length_append]
    omega
theorem size_enc (l : List Cl) : sizeL l ≤ (encL l).length := by
  have := size_body l
  unfold encL
  rw [List.length_append]
  omega
theorem size_len (l : List Cl) : l.length * 5 ≤ sizeL l := by
  induction l with
  | nil => simp [sizeL]
  | cons c l ih =>
    have e2 : sizeL (c :: l) = c.row.length + c.col.length + c.val.length + 5 + sizeL l := by simp [sizeL]
    rw [e2, List.length_cons]
    omega
theorem size_mono (l : List Cl) (i : Nat) : sizeL (l.take i) ≤ sizeL l := by
  have : l = l.take i ++ l.drop i := (List.take_append_drop i l).symm
  conv => rhs; rw [this]
  unfold sizeL
  rw [List.map_append, List.sum_append]
  omega

end Go.Proofs.Ytbllbcbjjocphaa
