/-
  The contracts of the document's answers for wire (Number, Text, Hex, Unhex), over this seat's translation.
-/
import Derived.Test.YtbkalfpgeclibaaUnhex
namespace Go.Proofs.Ytbkalfpgeclibaa
open Go.RowKit
attribute [local go_sem] size_bstr getElem_bstr toList_bstr append_bstr

/-- 'string([]byte{z})'. -/
theorem run_convert_one (W : World) (z : Nat) (hz : z < 256) :
    (convert 26 9 (.slice (some ⟨W.heap.size, 0, none⟩) 1 1)).run Try.prog (W.alloc (.cells #[.int .u8 (z : Int)] 5)) = .ok (.string (bstr [z.toUInt8])) (W.alloc (.cells #[.int .u8 (z : Int)] 5)) := by
  have hown : (W.alloc (.cells #[.int .u8 (z : Int)] 5)).ownsRow W.heap.size 5 1 (.slice (some ⟨W.heap.size, 0, none⟩) 1 1) 1 (Lib.byteCells [z.toUInt8]) := by
    have h := World.ownsRow_lit (base := W.heap.size) (e := 5) (size := 1) W #[.int .u8 (z : Int)] 1 (Nat.le_refl _) (by decide) (by simp)
    have e : Lib.byteCells [z.toUInt8] = [.int .u8 (z : Int)] := by simp [Lib.byteCells, Nat.toUInt8]; omega
    rw [e]
    exact h
  exact run_convert_own hown Try.underlying26 Try.underlying5 Try.underlying9

set_option maxHeartbeats 1000000 in
set_option maxRecDepth 100000 in
theorem RNumber_any (x : Nat) (w : World) (hx : x < 18446744073709551616) :
    Calls Try.prog 11 #[.int .u64 x] w fun e w' => e = .returned (.string (bstr (Lib.uvarint x))) ∧ Below w.heap.size w w' := by
  have hlen := Lib.uvarint_length64 hx
  have hE : (⟨#[]⟩ : ByteArray) = bstr [] := rfl
  go_enter Try.func11, Try.ntmps11
  go_wp2
  go_loopw [0, 3] (fun vx vs wr => ∃ (y : Nat) (pre : List UInt8), vx = .int .u64 y ∧ y ≤ x ∧ Lib.uvarint x = pre ++ Lib.uvarint y ∧ vs = .string (bstr pre) ∧ Below w.heap.size w wr) (fun vx _ _ => (intOf vx).toNat)
  case atStart => exact ⟨x, [], rfl, Nat.le_refl _, rfl, rfl, Below.refl _ _⟩
  case round =>
    obtain ⟨y, pre, rfl, hy, hsplit, rfl, hbel⟩ := hrel
    have HS : Hid (Lib.uvarint x = pre ++ Lib.uvarint y) := hsplit
    have hpl : pre.length ≤ 10 := by
      have h2 := congrArg List.length hsplit
      rw [List.length_append] at h2
      omega
    clear hsplit
    by_cases h128 : 128 ≤ y
    · obtain ⟨bb, hbb⟩ : ∃ bb, bb = (y % 128 + 128).toUInt8 := ⟨_, rfl⟩
      have hcv : ∀ W : World, (convert 26 9 (.slice (some ⟨W.heap.size, 0, none⟩) 1 1)).run Try.prog (W.alloc (.cells #[.int .u8 ((y : Int) % 128 + 128)] 5)) = .ok (.string (bstr [bb])) (W.alloc (.cells #[.int .u8 ((y : Int) % 128 + 128)] 5)) := by
        intro W
        have := run_convert_one W (y % 128 + 128) (by omega)
        rw [← hbb] at this
        rw [show ((y % 128 + 128 : Nat) : Int) = (y : Int) % 128 + 128 from by omega] at this
        exact this
      have HB : Hid (bb = (y % 128 + 128).toUInt8) := hbb
      clear hbb
      go_wp2
      go_roundw
      case rel => exact ⟨y / 128, pre ++ [bb], by go_num, by omega, by rw [HS.out, Lib.uvarint_big h128, HB.out]; simp, rfl, hbel.alloc hbel.size _⟩
      case measure => simp [intOf]; omega
    · have hcv : ∀ W : World, (convert 26 9 (.slice (some ⟨W.heap.size, 0, none⟩) 1 1)).run Try.prog (W.alloc (.cells #[.int .u8 (y : Int)] 5)) = .ok (.string (bstr [y.toUInt8])) (W.alloc (.cells #[.int .u8 (y : Int)] 5)) := fun W => run_convert_one W y (by omega)
      go_wp2
      go_ret
      exact ⟨ret_str (by rw [HS.out, Lib.uvarint_small (by omega)]), hbel.alloc hbel.size _⟩

set_option maxHeartbeats 400000 in
theorem RText_any (l : List UInt8) (w : World) (hl : l.length ≤ 10000000000) :
    Calls Try.prog 13 #[.string (bstr l)] w fun e w' => e = .returned (.string (bstr (Lib.uvarint l.length ++ l))) ∧ Below w.heap.size w w' := by
  have hlen := Lib.uvarint_length64 (x := l.length) (by omega)
  go_enter Try.func13, Try.ntmps13
  go_wp2_with fail
  refine (RNumber_any l.length _ (by omega)).mono ?_
  rintro e w1 ⟨rfl, hb⟩
  go_wp2
  go_ret
  exact ⟨rfl, hb⟩

set_option maxHeartbeats 400000 in
theorem Rhalf_any (c : UInt8) (w : World) :
    Calls Try.prog 24 #[.int .u8 (c.toNat : Int)] w fun e w' => e = .returned (.int .u8 (dg c : Int)) ∧ w' = w := by
  have hc := c.toNat_lt
  have hd : (48 ≤ c.toNat ∧ c.toNat ≤ 57 ∧ dg c = c.toNat - 48) ∨ (97 ≤ c.toNat ∧ c.toNat ≤ 102 ∧ dg c = c.toNat - 87) ∨ ((c.toNat < 48 ∨ (57 < c.toNat ∧ c.toNat < 97) ∨ 102 < c.toNat) ∧ dg c = 16) := by
    unfold dg
    by_cases h1 : 48 ≤ c.toNat ∧ c.toNat ≤ 57
    · rw [if_pos h1]; exact .inl ⟨h1.1, h1.2, rfl⟩
    · rw [if_neg h1]
      by_cases h2 : 97 ≤ c.toNat ∧ c.toNat ≤ 102
      · rw [if_pos h2]; exact .inr (.inl ⟨h2.1, h2.2, rfl⟩)
      · rw [if_neg h2]; exact .inr (.inr ⟨by omega, rfl⟩)
  generalize dg c = d at *
  generalize c.toNat = n at *
  rcases hd with ⟨a, b, e⟩ | ⟨a, b, e⟩ | ⟨a | a | a, e⟩
  all_goals
    have HE : Hid (d = _) := e
    clear e
    go_enter Try.func24, Try.ntmps24
    go_wp2
    go_ret
    exact ⟨by rw [HE.out]; first | rfl | (show Ending.returned (.int .u8 _) = .returned (.int .u8 _); congr 2; omega), rfl⟩

end Go.Proofs.Ytbkalfpgeclibaa
