/-
  The contracts of seal's small functions: layLength, laySum, readLength; and of Sum of nothing.
-/
import Derived.Test.YtmimmbcchbmnbabDoorTab
namespace Go.Proofs.YtmimmbcchbmnbabDoor
open Go.RowKit
attribute [local go_sem] size_bstr getElem_bstr toList_bstr append_bstr

/-- A number in four bytes, the highest first; the lowest first. -/
def be4 (n : Nat) : List UInt8 := [(n / 16777216 % 256).toUInt8, (n / 65536 % 256).toUInt8, (n / 256 % 256).toUInt8, (n % 256).toUInt8]
def le4 (n : Nat) : List UInt8 := [(n % 256).toUInt8, (n / 256 % 256).toUInt8, (n / 65536 % 256).toUInt8, (n / 16777216 % 256).toUInt8]
theorem be4_length (n : Nat) : (be4 n).length = 4 := rfl
theorem le4_length (n : Nat) : (le4 n).length = 4 := rfl
theorem toNat_toU8 {n : Nat} (h : n < 256) : n.toUInt8.toNat = n := by simp [Nat.toUInt8]; omega
/-- What four bytes say. -/
def rd4 (a b c d : UInt8) : Nat := a.toNat * 16777216 + b.toNat * 65536 + c.toNat * 256 + d.toNat
theorem rd4_lt (a b c d : UInt8) : rd4 a b c d < 4294967296 := by
  have := a.toNat_lt; have := b.toNat_lt; have := c.toNat_lt; have := d.toNat_lt
  unfold rd4; omega
theorem u8_eq {n : Nat} {a : UInt8} (h : n = a.toNat) : n.toUInt8 = a := by
  subst h
  simp
theorem be4_rd4 (a b c d : UInt8) : be4 (rd4 a b c d) = [a, b, c, d] := by
  have := a.toNat_lt; have := b.toNat_lt; have := c.toNat_lt; have := d.toNat_lt
  unfold be4 rd4
  rw [u8_eq (a := a) (by omega), u8_eq (a := b) (by omega), u8_eq (a := c) (by omega), u8_eq (a := d) (by omega)]
theorem rd4_be4 {n : Nat} (h : n < 4294967296) : rd4 (n / 16777216 % 256).toUInt8 (n / 65536 % 256).toUInt8 (n / 256 % 256).toUInt8 (n % 256).toUInt8 = n := by
  unfold rd4
  rw [toNat_toU8 (by omega), toNat_toU8 (by omega), toNat_toU8 (by omega), toNat_toU8 (by omega)]
  omega
theorem le4_inj {n m : Nat} (hn : n < 4294967296) (hm : m < 4294967296) (h : le4 n = le4 m) : n = m := by
  unfold le4 at h
  simp only [List.cons.injEq, and_true] at h
  obtain ⟨h1, h2, h3, h4⟩ := h
  have g1 := congrArg UInt8.toNat h1
  have g2 := congrArg UInt8.toNat h2
  have g3 := congrArg UInt8.toNat h3
  have g4 := congrArg UInt8.toNat h4
  rw [toNat_toU8 (by omega), toNat_toU8 (by omega)] at g1 g2 g3 g4
  omega

/-- 'string([]byte{a, b, c, d})'. -/
theorem run_convert_four (W : World) (a b c d : Nat) (ha : a < 256) (hb : b < 256) (hc : c < 256) (hd : d < 256) :
    (convert 27 9 (.slice (some ⟨W.heap.size, 0, none⟩) 4 4)).run Tryd.prog (W.alloc (.cells #[.int .u8 (a : Int), .int .u8 (b : Int), .int .u8 (c : Int), .int .u8 (d : Int)] 5)) =
      .ok (.string (bstr [a.toUInt8, b.toUInt8, c.toUInt8, d.toUInt8])) (W.alloc (.cells #[.int .u8 (a : Int), .int .u8 (b : Int), .int .u8 (c : Int), .int .u8 (d : Int)] 5)) := by
  have hown : (W.alloc (.cells #[.int .u8 (a : Int), .int .u8 (b : Int), .int .u8 (c : Int), .int .u8 (d : Int)] 5)).ownsRow W.heap.size 5 1 (.slice (some ⟨W.heap.size, 0, none⟩) 4 4) 4 (Lib.byteCells [a.toUInt8, b.toUInt8, c.toUInt8, d.toUInt8]) := by
    have h := World.ownsRow_lit (base := W.heap.size) (e := 5) (size := 1) W #[.int .u8 (a : Int), .int .u8 (b : Int), .int .u8 (c : Int), .int .u8 (d : Int)] 4 (Nat.le_refl _) (by decide) (by simp)
    have e : Lib.byteCells [a.toUInt8, b.toUInt8, c.toUInt8, d.toUInt8] = [.int .u8 (a : Int), .int .u8 (b : Int), .int .u8 (c : Int), .int .u8 (d : Int)] := by
      simp only [Lib.byteCells, List.map_cons, List.map_nil, toNat_toU8 ha, toNat_toU8 hb, toNat_toU8 hc, toNat_toU8 hd]
    rw [e]
    exact h
  exact run_convert_own hown Tryd.underlying27 Tryd.underlying5 Tryd.underlying9

set_option maxHeartbeats 400000 in
theorem layLength_any (n : Nat) (w : World) (hn : n < 4294967296) :
    Calls Tryd.prog 10 #[.int .u32 n] w fun e w' => e = .returned (.string (bstr (be4 n))) ∧ Below w.heap.size w w' := by
  have hcv : ∀ W : World, (convert 27 9 (.slice (some ⟨W.heap.size, 0, none⟩) 4 4)).run Tryd.prog (W.alloc (.cells #[.int .u8 ((n : Int) / 16777216), .int .u8 ((n : Int) / 65536 % 256), .int .u8 ((n : Int) / 256 % 256), .int .u8 ((n : Int) % 256)] 5)) =
      .ok (.string (bstr (be4 n))) (W.alloc (.cells #[.int .u8 ((n : Int) / 16777216), .int .u8 ((n : Int) / 65536 % 256), .int .u8 ((n : Int) / 256 % 256), .int .u8 ((n : Int) % 256)] 5)) := by
    intro W
    have := run_convert_four W (n / 16777216 % 256) (n / 65536 % 256) (n / 256 % 256) (n % 256) (by omega) (by omega) (by omega) (by omega)
    rw [show ((n / 16777216 % 256 : Nat) : Int) = (n : Int) / 16777216 from by omega] at this
    exact this
  go_enter Tryd.func10, Tryd.ntmps10
  go_wp2
  go_ret
  exact ⟨rfl, (Below.refl _ w).alloc (Nat.le_refl _) _⟩

set_option maxHeartbeats 400000 in
theorem laySum_any (n : Nat) (w : World) (hn : n < 4294967296) :
    Calls Tryd.prog 11 #[.int .u32 n] w fun e w' => e = .returned (.string (bstr (le4 n))) ∧ Below w.heap.size w w' := by
  have hcv : ∀ W : World, (convert 27 9 (.slice (some ⟨W.heap.size, 0, none⟩) 4 4)).run Tryd.prog (W.alloc (.cells #[.int .u8 ((n : Int) % 256), .int .u8 ((n : Int) / 256 % 256), .int .u8 ((n : Int) / 65536 % 256), .int .u8 ((n : Int) / 16777216)] 5)) =
      .ok (.string (bstr (le4 n))) (W.alloc (.cells #[.int .u8 ((n : Int) % 256), .int .u8 ((n : Int) / 256 % 256), .int .u8 ((n : Int) / 65536 % 256), .int .u8 ((n : Int) / 16777216)] 5)) := by
    intro W
    have := run_convert_four W (n % 256) (n / 256 % 256) (n / 65536 % 256) (n / 16777216 % 256) (by omega) (by omega) (by omega) (by omega)
    rw [show ((n / 16777216 % 256 : Nat) : Int) = (n : Int) / 16777216 from by omega] at this
    exact this
  go_enter Tryd.func11, Tryd.ntmps11
  go_wp2
  go_ret
  exact ⟨rfl, (Below.refl _ w).alloc (Nat.le_refl _) _⟩

theorem or_join {a b k : Nat} (hb : b < 2 ^ k) : (a * 2 ^ k) ||| b = a * 2 ^ k + b := by
  rw [← Nat.shiftLeft_eq, Nat.shiftLeft_add_eq_or_of_lt hb]

set_option maxHeartbeats 1000000 in
theorem readLength_any (a b c d : UInt8) (t : List UInt8) (w : World) :
    Calls Tryd.prog 14 #[.string (bstr (a :: b :: c :: d :: t))] w fun e w' => e = .returned (.int .u32 (rd4 a b c d : Int)) ∧ Below w.heap.size w w' := by
  have ha := a.toNat_lt
  have hb := b.toNat_lt
  have hc := c.toNat_lt
  have hd := d.toNat_lt
  have h1 : bits .or .u32 ((a.toNat : Int) * 16777216) ((b.toNat : Int) * 65536) = (a.toNat : Int) * 16777216 + (b.toNat : Int) * 65536 := by
    have := u32_or_nat (a.toNat * 16777216) (b.toNat * 65536) (by omega) (by omega)
    have j := or_join (a := a.toNat) (b := b.toNat * 65536) (k := 24) (by omega)
    rw [show (2 : Nat) ^ 24 = 16777216 from rfl] at j
    rw [j] at this
    simp only [Int.natCast_add, Int.natCast_mul] at this
    exact this
  have h2 : bits .or .u32 ((a.toNat : Int) * 16777216 + (b.toNat : Int) * 65536) ((c.toNat : Int) * 256) = (a.toNat : Int) * 16777216 + (b.toNat : Int) * 65536 + (c.toNat : Int) * 256 := by
    have := u32_or_nat (a.toNat * 16777216 + b.toNat * 65536) (c.toNat * 256) (by omega) (by omega)
    have e : a.toNat * 16777216 + b.toNat * 65536 = (a.toNat * 256 + b.toNat) * 2 ^ 16 := by omega
    have j := or_join (a := a.toNat * 256 + b.toNat) (b := c.toNat * 256) (k := 16) (by omega)
    rw [← e] at j
    rw [j] at this
    simp only [Int.natCast_add, Int.natCast_mul] at this
    exact this
  have h3 : bits .or .u32 ((a.toNat : Int) * 16777216 + (b.toNat : Int) * 65536 + (c.toNat : Int) * 256) (d.toNat : Int) = (rd4 a b c d : Int) := by
    have := u32_or_nat (a.toNat * 16777216 + b.toNat * 65536 + c.toNat * 256) d.toNat (by omega) (by omega)
    have e : a.toNat * 16777216 + b.toNat * 65536 + c.toNat * 256 = (a.toNat * 65536 + b.toNat * 256 + c.toNat) * 2 ^ 8 := by omega
    have j := or_join (a := a.toNat * 65536 + b.toNat * 256 + c.toNat) (b := d.toNat) (k := 8) (by omega)
    rw [← e] at j
    rw [j] at this
    simp only [Int.natCast_add, Int.natCast_mul] at this
    unfold rd4
    simp only [Int.natCast_add, Int.natCast_mul]
    exact this
  have H1 : Hid _ := h1
  have H2 : Hid _ := h2
  have H3 : Hid _ := h3
  clear h1 h2 h3
  go_enter Tryd.func14, Tryd.ntmps14
  go_wp2
  go_quiet (fail)
  rw [H1.out, H2.out, H3.out]
  go_wp2
  go_ret
  exact ⟨rfl, below_drewN (Below.refl _ _) _⟩

end Go.Proofs.YtmimmbcchbmnbabDoor
