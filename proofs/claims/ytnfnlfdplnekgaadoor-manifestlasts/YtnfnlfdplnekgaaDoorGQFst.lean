/-
  The contracts of seal's small functions: layLength, laySum, readLength; and of Sum of nothing.
  Frames as lists of bytes; the contracts of seal.Frame, seal.first, seal.Open.
  The contracts of seal.first and seal.Open.
-/
import Derived.Test.YtnfnlfdplnekgaaDoorGTLaid
import Derived.Test.YtnfnlfdplnekgaaDoorGVWir
import Derived.RegionTactic
import Derived.BigQuiet
import Derived.Lib.QuietBelow
import Derived.Deep.RegionHeld3
namespace Go.Proofs.YtnfnlfdplnekgaaDoor
open Go.RowKit
attribute [local go_sem] size_bstr getElem_bstr toList_bstr append_bstr

/-- A number in four bytes, the highest first; the lowest first. -/
def be4 (n : Nat) : List UInt8 := [(n / 16777216 % 256).toUInt8, (n / 65536 % 256).toUInt8, (n / 256 % 256).toUInt8, (n % 256).toUInt8]
def le4 (n : Nat) : List UInt8 := [(n % 256).toUInt8, (n / 256 % 256).toUInt8, (n / 65536 % 256).toUInt8, (n / 16777216 % 256).toUInt8]
theorem be4_length (n : Nat) : (be4 n).length = 4 := rfl
theorem le4_length (n : Nat) : (le4 n).length = 4 := rfl
theorem toNat_toU8 {n : Nat} (h : n < 256) : n.toUInt8.toNat = n := by simp [Nat.toUInt8]; omega
/-- What four bytes say. -/
def rd4 (a b c d : UInt8) : Nat := a.toNat * 16777216 + b.toNat * 65536 + c.toNat * 256 + d.toNat
theorem rd4_lt (a b c d : UInt8) : rd4 a b c d < 4294967296 := by
  have := a.toNat_lt; have := b.toNat_lt; have := c.toNat_lt; have := d.toNat_lt
  unfold rd4; omega
theorem u8_eq {n : Nat} {a : UInt8} (h : n = a.toNat) : n.toUInt8 = a := by
  subst h
  simp
theorem be4_rd4 (a b c d : UInt8) : be4 (rd4 a b c d) = [a, b, c, d] := by
  have := a.toNat_lt; have := b.toNat_lt; have := c.toNat_lt; have := d.toNat_lt
  unfold be4 rd4
  rw [u8_eq (a := a) (by omega), u8_eq (a := b) (by omega), u8_eq (a := c) (by omega), u8_eq (a := d) (by omega)]
theorem rd4_be4 {n : Nat} (h : n < 4294967296) : rd4 (n / 16777216 % 256).toUInt8 (n / 65536 % 256).toUInt8 (n / 256 % 256).toUInt8 (n % 256).toUInt8 = n := by
  unfold rd4
  rw [toNat_toU8 (by omega), toNat_toU8 (by omega), toNat_toU8 (by omega), toNat_toU8 (by omega)]
  omega
theorem le4_inj {n m : Nat} (hn : n < 4294967296) (hm : m < 4294967296) (h : le4 n = le4 m) : n = m := by
  unfold le4 at h
  simp only [List.cons.injEq, and_true] at h
  obtain ⟨h1, h2, h3, h4⟩ := h
  have g1 := congrArg UInt8.toNat h1
  have g2 := congrArg UInt8.toNat h2
  have g3 := congrArg UInt8.toNat h3
  have g4 := congrArg UInt8.toNat h4
  rw [toNat_toU8 (by omega), toNat_toU8 (by omega)] at g1 g2 g3 g4
  omega

/-- 'string([]byte{a, b, c, d})'. -/
theorem run_convert_four (W : World) (a b c d : Nat) (ha : a < 256) (hb : b < 256) (hc : c < 256) (hd : d < 256) :
    (convert 30 9 (.slice (some ⟨W.heap.size, 0, none⟩) 4 4)).run Tryd.prog (W.alloc (.cells #[.int .u8 (a : Int), .int .u8 (b : Int), .int .u8 (c : Int), .int .u8 (d : Int)] 5)) =
      .ok (.string (bstr [a.toUInt8, b.toUInt8, c.toUInt8, d.toUInt8])) (W.alloc (.cells #[.int .u8 (a : Int), .int .u8 (b : Int), .int .u8 (c : Int), .int .u8 (d : Int)] 5)) := by
  have hown : (W.alloc (.cells #[.int .u8 (a : Int), .int .u8 (b : Int), .int .u8 (c : Int), .int .u8 (d : Int)] 5)).ownsRow W.heap.size 5 1 (.slice (some ⟨W.heap.size, 0, none⟩) 4 4) 4 (Lib.byteCells [a.toUInt8, b.toUInt8, c.toUInt8, d.toUInt8]) := by
    have h := World.ownsRow_lit (base := W.heap.size) (e := 5) (size := 1) W #[.int .u8 (a : Int), .int .u8 (b : Int), .int .u8 (c : Int), .int .u8 (d : Int)] 4 (Nat.le_refl _) (by decide) (by simp)
    have e : Lib.byteCells [a.toUInt8, b.toUInt8, c.toUInt8, d.toUInt8] = [.int .u8 (a : Int), .int .u8 (b : Int), .int .u8 (c : Int), .int .u8 (d : Int)] := by
      simp only [Lib.byteCells, List.map_cons, List.map_nil, toNat_toU8 ha, toNat_toU8 hb, toNat_toU8 hc, toNat_toU8 hd]
    rw [e]
    exact h
  exact run_convert_own hown Tryd.underlying30 Tryd.underlying5 Tryd.underlying9

set_option maxHeartbeats 400000 in
theorem layLength_any (n : Nat) (w : World) (hn : n < 4294967296) :
    Calls Tryd.prog 38 #[.int .u32 n] w fun e w' => e = .returned (.string (bstr (be4 n))) ∧ Below w.heap.size w w' := by
  have hcv : ∀ W : World, (convert 30 9 (.slice (some ⟨W.heap.size, 0, none⟩) 4 4)).run Tryd.prog (W.alloc (.cells #[.int .u8 ((n : Int) / 16777216), .int .u8 ((n : Int) / 65536 % 256), .int .u8 ((n : Int) / 256 % 256), .int .u8 ((n : Int) % 256)] 5)) =
      .ok (.string (bstr (be4 n))) (W.alloc (.cells #[.int .u8 ((n : Int) / 16777216), .int .u8 ((n : Int) / 65536 % 256), .int .u8 ((n : Int) / 256 % 256), .int .u8 ((n : Int) % 256)] 5)) := by
    intro W
    have := run_convert_four W (n / 16777216 % 256) (n / 65536 % 256) (n / 256 % 256) (n % 256) (by omega) (by omega) (by omega) (by omega)
    rw [show ((n / 16777216 % 256 : Nat) : Int) = (n : Int) / 16777216 from by omega] at this
    exact this
  go_enter Tryd.func38, Tryd.ntmps38
  go_wp2
  go_ret
  exact ⟨rfl, (Below.refl _ w).alloc (Nat.le_refl _) _⟩

set_option maxHeartbeats 400000 in
theorem laySum_any (n : Nat) (w : World) (hn : n < 4294967296) :
    Calls Tryd.prog 39 #[.int .u32 n] w fun e w' => e = .returned (.string (bstr (le4 n))) ∧ Below w.heap.size w w' := by
  have hcv : ∀ W : World, (convert 30 9 (.slice (some ⟨W.heap.size, 0, none⟩) 4 4)).run Tryd.prog (W.alloc (.cells #[.int .u8 ((n : Int) % 256), .int .u8 ((n : Int) / 256 % 256), .int .u8 ((n : Int) / 65536 % 256), .int .u8 ((n : Int) / 16777216)] 5)) =
      .ok (.string (bstr (le4 n))) (W.alloc (.cells #[.int .u8 ((n : Int) % 256), .int .u8 ((n : Int) / 256 % 256), .int .u8 ((n : Int) / 65536 % 256), .int .u8 ((n : Int) / 16777216)] 5)) := by
    intro W
    have := run_convert_four W (n % 256) (n / 256 % 256) (n / 65536 % 256) (n / 16777216 % 256) (by omega) (by omega) (by omega) (by omega)
    rw [show ((n / 16777216 % 256 : Nat) : Int) = (n : Int) / 16777216 from by omega] at this
    exact this
  go_enter Tryd.func39, Tryd.ntmps39
  go_wp2
  go_ret
  exact ⟨rfl, (Below.refl _ w).alloc (Nat.le_refl _) _⟩

theorem or_join {a b k : Nat} (hb : b < 2 ^ k) : (a * 2 ^ k) ||| b = a * 2 ^ k + b := by
  rw [← Nat.shiftLeft_eq, Nat.shiftLeft_add_eq_or_of_lt hb]

set_option maxHeartbeats 1000000 in
theorem readLength_any (a b c d : UInt8) (t : List UInt8) (w : World) :
    Calls Tryd.prog 69 #[.string (bstr (a :: b :: c :: d :: t))] w fun e w' => e = .returned (.int .u32 (rd4 a b c d : Int)) ∧ Below w.heap.size w w' := by
  have ha := a.toNat_lt
  have hb := b.toNat_lt
  have hc := c.toNat_lt
  have hd := d.toNat_lt
  have h1 : bits .or .u32 ((a.toNat : Int) * 16777216) ((b.toNat : Int) * 65536) = (a.toNat : Int) * 16777216 + (b.toNat : Int) * 65536 := by
    have := u32_or_nat (a.toNat * 16777216) (b.toNat * 65536) (by omega) (by omega)
    have j := or_join (a := a.toNat) (b := b.toNat * 65536) (k := 24) (by omega)
    rw [show (2 : Nat) ^ 24 = 16777216 from rfl] at j
    rw [j] at this
    simp only [Int.natCast_add, Int.natCast_mul] at this
    exact this
  have h2 : bits .or .u32 ((a.toNat : Int) * 16777216 + (b.toNat : Int) * 65536) ((c.toNat : Int) * 256) = (a.toNat : Int) * 16777216 + (b.toNat : Int) * 65536 + (c.toNat : Int) * 256 := by
    have := u32_or_nat (a.toNat * 16777216 + b.toNat * 65536) (c.toNat * 256) (by omega) (by omega)
    have e : a.toNat * 16777216 + b.toNat * 65536 = (a.toNat * 256 + b.toNat) * 2 ^ 16 := by omega
    have j := or_join (a := a.toNat * 256 + b.toNat) (b := c.toNat * 256) (k := 16) (by omega)
    rw [← e] at j
    rw [j] at this
    simp only [Int.natCast_add, Int.natCast_mul] at this
    exact this
  have h3 : bits .or .u32 ((a.toNat : Int) * 16777216 + (b.toNat : Int) * 65536 + (c.toNat : Int) * 256) (d.toNat : Int) = (rd4 a b c d : Int) := by
    have := u32_or_nat (a.toNat * 16777216 + b.toNat * 65536 + c.toNat * 256) d.toNat (by omega) (by omega)
    have e : a.toNat * 16777216 + b.toNat * 65536 + c.toNat * 256 = (a.toNat * 65536 + b.toNat * 256 + c.toNat) * 2 ^ 8 := by omega
    have j := or_join (a := a.toNat * 65536 + b.toNat * 256 + c.toNat) (b := d.toNat) (k := 8) (by omega)
    rw [← e] at j
    rw [j] at this
    simp only [Int.natCast_add, Int.natCast_mul] at this
    unfold rd4
    simp only [Int.natCast_add, Int.natCast_mul]
    exact this
  have H1 : Hid _ := h1
  have H2 : Hid _ := h2
  have H3 : Hid _ := h3
  clear h1 h2 h3
  go_enter Tryd.func69, Tryd.ntmps69
  go_wp2
  go_quiet (fail)
  rw [H1.out, H2.out, H3.out]
  go_wp2
  go_ret
  exact ⟨rfl, below_drewN (Below.refl _ _) _⟩

end Go.Proofs.YtnfnlfdplnekgaaDoor

namespace Go.Proofs.YtnfnlfdplnekgaaDoor
open Go.RowKit
attribute [local go_sem] size_bstr getElem_bstr toList_bstr append_bstr

/-- A body's frame. -/
def frm (l : List UInt8) : List UInt8 := be4 l.length ++ (le4 (crc (be4 l.length ++ l)).toNat ++ l)
theorem frm_length (l : List UInt8) : (frm l).length = l.length + 8 := by
  unfold frm
  rw [List.length_append, List.length_append, be4_length, le4_length]
  omega
/-- The body of the frame with which bytes begin. -/
def opn : List UInt8 → Option (List UInt8)
  | a :: b :: c :: d :: e :: f :: g :: h :: t =>
    if rd4 a b c d ≤ 1048576 ∧ rd4 a b c d ≤ t.length ∧ le4 (crc ([a, b, c, d] ++ t.take (rd4 a b c d))).toNat = [e, f, g, h] then some (t.take (rd4 a b c d)) else none
  | _ => none
theorem opn_short {s : List UInt8} (h : s.length < 8) : opn s = none := by
  match s, h with
  | [], _ => rfl
  | [_], _ => rfl
  | [_, _], _ => rfl
  | [_, _, _], _ => rfl
  | [_, _, _, _], _ => rfl
  | [_, _, _, _, _], _ => rfl
  | [_, _, _, _, _, _], _ => rfl
  | [_, _, _, _, _, _, _], _ => rfl
  | _ :: _ :: _ :: _ :: _ :: _ :: _ :: _ :: t, h => simp at h; omega
theorem opn_eq (a b c d e f g h : UInt8) (t : List UInt8) : opn (a :: b :: c :: d :: e :: f :: g :: h :: t) =
    if rd4 a b c d ≤ 1048576 ∧ rd4 a b c d ≤ t.length ∧ le4 (crc ([a, b, c, d] ++ t.take (rd4 a b c d))).toNat = [e, f, g, h] then some (t.take (rd4 a b c d)) else none := by rw [opn]
theorem ex8 {s : List UInt8} (h : 8 ≤ s.length) : ∃ a b c d e f g i t, s = a :: b :: c :: d :: e :: f :: g :: i :: t := by
  match s, h with
  | a :: b :: c :: d :: e :: f :: g :: i :: t, _ => exact ⟨a, b, c, d, e, f, g, i, t, rfl⟩
theorem frm_of {a b c d e f g i : UInt8} {n : Nat} {u v : List UInt8} (hu : u.length = n) (hb : be4 n = [a, b, c, d]) (hs : le4 (crc ([a, b, c, d] ++ u)).toNat = [e, f, g, i]) : a :: b :: c :: d :: e :: f :: g :: i :: (u ++ v) = frm u ++ v := by
  subst hu
  unfold frm
  rw [hb, hs]
  rfl
theorem opn_some {s b : List UInt8} (h : opn s = some b) : b.length ≤ 1048576 ∧ ∃ r, s = frm b ++ r := by
  by_cases hs : s.length < 8
  · rw [opn_short hs] at h
    exact absurd h (by simp)
  · obtain ⟨a, b1, c, d, e, f, g, i, t, rfl⟩ := ex8 (Nat.le_of_not_lt hs)
    rw [opn_eq] at h
    by_cases hh : rd4 a b1 c d ≤ 1048576 ∧ rd4 a b1 c d ≤ t.length ∧ le4 (crc ([a, b1, c, d] ++ t.take (rd4 a b1 c d))).toNat = [e, f, g, i]
    · rw [if_pos hh] at h
      obtain ⟨h1, h2, h3⟩ := hh
      have hb := Option.some.inj h
      subst hb
      have hl : (t.take (rd4 a b1 c d)).length = rd4 a b1 c d := by rw [List.length_take]; omega
      refine ⟨by omega, t.drop (rd4 a b1 c d), ?_⟩
      have := frm_of (u := t.take (rd4 a b1 c d)) (v := t.drop (rd4 a b1 c d)) hl (be4_rd4 a b1 c d) h3
      rw [List.take_append_drop] at this
      exact this
    · rw [if_neg hh] at h
      exact absurd h (by simp)
theorem opn_frm {b : List UInt8} (h : b.length ≤ 1048576) (r : List UInt8) : opn (frm b ++ r) = some b := by
  have hr : rd4 (b.length / 16777216 % 256).toUInt8 (b.length / 65536 % 256).toUInt8 (b.length / 256 % 256).toUInt8 (b.length % 256).toUInt8 = b.length := rd4_be4 (by omega)
  show opn ((b.length / 16777216 % 256).toUInt8 :: (b.length / 65536 % 256).toUInt8 :: (b.length / 256 % 256).toUInt8 :: (b.length % 256).toUInt8 :: _ :: _ :: _ :: _ :: (b ++ r)) = _
  rw [opn_eq, hr]
  have ht : (b ++ r).take b.length = b := by simp
  rw [ht, if_pos]
  refine ⟨h, by simp, rfl⟩
theorem opn_length {s b : List UInt8} (h : opn s = some b) : b.length + 8 ≤ s.length := by
  obtain ⟨_, r, rfl⟩ := opn_some h
  rw [List.length_append, frm_length]
  omega

theorem strsAt_lit (W : World) (ps : List (List UInt8)) (cs : Array Value) (t : TypeId) (h : cs.toList = ps.map fun p => .string (bstr p)) : StrsAt (W.alloc (.cells cs t)) W.heap.size 0 ps := by
  intro j hj
  rw [World.cell?_alloc_at cs t W.heap.size (0 + j) rfl, ← Array.getElem?_toList, h]
  simp [hj]

/-- The sum of a literal list of parts. -/
theorem Sum_lit (W : World) (n : Nat) (ps : List (List UInt8)) (cs : Array Value) (h : cs.toList = ps.map fun p => .string (bstr p)) (hn : ps.length = n) (ht : Tabs W) (hlen : n ≤ 1000000) (hl : ∀ p ∈ ps, p.length ≤ 9223372036854775807) :
    Calls Tryd.prog 40 #[.slice (some ⟨W.heap.size, 0, none⟩) n n] (W.alloc (.cells cs 9)) fun e w' => e = .returned (.int .u32 ((crc ps.flatten).toNat : Int)) ∧ Below W.heap.size W w' := by
  subst hn
  have hba : Below W.heap.size W (W.alloc (.cells cs 9)) := (Below.refl _ _).alloc (Nat.le_refl _) _
  refine (Sum_any W.heap.size 0 ps.length ps _ (ht.below hba) (strsAt_lit W ps cs _ h) hlen hl).mono ?_
  rintro e w2 ⟨rfl, hb2⟩
  exact ⟨rfl, hba.trans (hb2.mono hba.size)⟩
theorem all2 {a b : List UInt8} {n : Nat} (ha : a.length ≤ n) (hb : b.length ≤ n) : ∀ p ∈ [a, b], p.length ≤ n := by
  intro p hp
  simp at hp
  rcases hp with rfl | rfl
  · exact ha
  · exact hb

set_option maxHeartbeats 400000 in
theorem Frame_long (l : List UInt8) (w : World) (h : 1048576 < l.length) (hm : l.length ≤ 9223372036854775807) :
    Calls Tryd.prog 21 #[.string (bstr l)] w fun e w' => e = .returned (.tuple #[.string (bstr []), .int .i64 3]) ∧ Below w.heap.size w w' := by
  go_enter Tryd.func21, Tryd.ntmps21
  go_wp2
  go_ret2
  exact ⟨rfl, Below.refl _ _⟩

set_option maxHeartbeats 1000000 in
theorem Frame_ok (l : List UInt8) (w : World) (h : l.length ≤ 1048576) (ht : Tabs w) :
    Calls Tryd.prog 21 #[.string (bstr l)] w fun e w' => e = .returned (.tuple #[.string (bstr (frm l)), .int .i64 0]) ∧ Below w.heap.size w w' := by
  have hcl := (crc (be4 l.length ++ l)).isLt
  go_enter Tryd.func21, Tryd.ntmps21
  go_wp2_with fail
  refine (layLength_any l.length _ (by omega)).mono ?_
  rintro e w1 ⟨rfl, hb1⟩
  have hb4 := be4_length l.length
  have ht1 := ht.below hb1
  go_wp2_with fail
  refine (Sum_lit w1 2 [be4 l.length, l] #[.string (bstr (be4 l.length)), .string (bstr l)] rfl rfl ht1 (by decide) (all2 (by omega) (by omega))).mono ?_
  rintro e w2 ⟨rfl, hb2⟩
  rw [show [be4 l.length, l].flatten = be4 l.length ++ l from by simp]
  go_wp2_with fail
  refine (laySum_any (crc (be4 l.length ++ l)).toNat _ hcl).mono ?_
  rintro e w3 ⟨rfl, hb3⟩
  have hl4 := le4_length (crc (be4 l.length ++ l)).toNat
  go_wp2
  go_ret2
  refine ⟨?_, ?_⟩
  · rfl
  · exact hb1.trans ((hb2.trans (hb3.mono hb2.size)).mono hb1.size)

end Go.Proofs.YtnfnlfdplnekgaaDoor

namespace Go.Proofs.YtnfnlfdplnekgaaDoor
open Go.RowKit Go.BigFrame
attribute [local go_sem] size_bstr getElem_bstr toList_bstr append_bstr

theorem run_piece {P : Program} (t : TypeId) (L : List UInt8) (i j : Nat) (hij : i ≤ j) (hj : j ≤ L.length) (w : World) (ht : P.underlying t = some .string) :
    (Instr.slice t (.string (bstr L)) (some (.int .i64 (i : Int))) (some (.int .i64 (j : Int))) none).run P w = .ok (.string (bstr ((L.drop i).take (j - i)))) w := by
  have h := run_slice_string (P := P) (w := w) t (bstr L) .i64 .i64 (i : Int) (j : Int) ht (by omega) (by omega) (by rw [size_bstr]; omega)
  rw [h]
  have e2 : (bstr L).extract ((i : Int).toNat) ((j : Int).toNat) = bstr ((L.drop i).take (j - i)) := by
    apply ByteArray.ext
    simp [bstr, List.extract_eq_take_drop]
  rw [e2]

set_option maxHeartbeats 400000 in
theorem first_short (s : List UInt8) (w : World) (h : s.length < 8) :
    Calls Tryd.prog 53 #[.string (bstr s)] w fun e w' => e = .returned (.tuple #[.string (bstr []), .int .i64 0]) ∧ Below w.heap.size w w' := by
  go_enter Tryd.func53, Tryd.ntmps53
  go_wp2
  go_ret2
  exact ⟨rfl, Below.refl _ _⟩

set_option maxHeartbeats 200000 in
theorem first_long (a b c d e1 f g i : UInt8) (t : List UInt8) (w : World) (hm : t.length ≤ 9223372036854775000) (hbad : ¬ (rd4 a b c d ≤ 1048576 ∧ rd4 a b c d ≤ t.length)) :
    Calls Tryd.prog 53 #[.string (bstr (a :: b :: c :: d :: e1 :: f :: g :: i :: t))] w fun e w' => e = .returned (.tuple #[.string (bstr []), .int .i64 0]) ∧ Below w.heap.size w w' := by
  have hrd := rd4_lt a b c d
  have hrc := readLength_any a b c d (e1 :: f :: g :: i :: t)
  have hsz : (a :: b :: c :: d :: e1 :: f :: g :: i :: t).length = t.length + 8 := rfl
  generalize rd4 a b c d = n at *
  generalize a :: b :: c :: d :: e1 :: f :: g :: i :: t = s at *
  go_enter Tryd.func53, Tryd.ntmps53
  go_wp2_with fail
  refine (hrc _).mono ?_
  rintro e w1 ⟨rfl, hb1⟩
  clear hrc
  by_cases hn : n ≤ 1048576
  · have hn2 : t.length < n := by omega
    clear hbad
    have hg : decide ((1048576 : Int) < (n : Int)) = false := decide_eq_false (by omega)
    go_wp2
    go_ret2
    exact ⟨rfl, hb1⟩
  · clear hbad
    have hg : decide ((1048576 : Int) < (n : Int)) = true := decide_eq_true (by omega)
    go_wp2
    go_ret2
    exact ⟨rfl, hb1⟩

theorem Sum_lit_drew (W : World) (n : Nat) (ps : List (List UInt8)) (cs : Array Value) (h : cs.toList = ps.map fun p => .string (bstr p)) (hn : ps.length = n) (ht : Tabs W) (hlen : n ≤ 1000000) (hl : ∀ p ∈ ps, p.length ≤ 9223372036854775807) :
    Calls Tryd.prog 40 #[.slice (some ⟨W.heap.size, 0, none⟩) n n] (W.alloc (.cells cs 9)).drew fun e w' => e = .returned (.int .u32 ((crc ps.flatten).toNat : Int)) ∧ Below W.heap.size W w' := by
  subst hn
  have hba : Below W.heap.size W (W.alloc (.cells cs 9)).drew := ((Below.refl _ _).alloc (Nat.le_refl _) _).drew
  have hs : StrsAt (W.alloc (.cells cs 9)).drew W.heap.size 0 ps := strsAt_lit W ps cs _ h
  refine (Sum_any W.heap.size 0 ps.length ps _ (ht.below hba) hs hlen hl).mono ?_
  rintro e w2 ⟨rfl, hb2⟩
  exact ⟨rfl, hba.trans (hb2.mono hba.size)⟩

set_option maxHeartbeats 2000000 in
set_option maxRecDepth 100000 in
theorem first_in (a b c d e1 f g i : UInt8) (t : List UInt8) (w : World) (hm : t.length ≤ 9223372036854775000) (ht : Tabs w) (hn : rd4 a b c d ≤ 1048576) (hn2 : rd4 a b c d ≤ t.length) :
    Calls Tryd.prog 53 #[.string (bstr (a :: b :: c :: d :: e1 :: f :: g :: i :: t))] w fun e w' =>
      (le4 (crc ([a, b, c, d] ++ t.take (rd4 a b c d))).toNat = [e1, f, g, i] → e = .returned (.tuple #[.string (bstr (t.take (rd4 a b c d))), .int .i64 (8 + (rd4 a b c d : Int))])) ∧
      (¬ le4 (crc ([a, b, c, d] ++ t.take (rd4 a b c d))).toNat = [e1, f, g, i] → e = .returned (.tuple #[.string (bstr []), .int .i64 0])) ∧ Below w.heap.size w w' := by
  have hrc := readLength_any a b c d (e1 :: f :: g :: i :: t)
  have hsz : (a :: b :: c :: d :: e1 :: f :: g :: i :: t).length = t.length + 8 := rfl
  have hp1 : ∀ W : World, (Instr.slice 9 (.string (bstr (a :: b :: c :: d :: e1 :: f :: g :: i :: t))) (some (.int .i64 8)) (some (.int .i64 (8 + (rd4 a b c d : Int)))) none).run Tryd.prog W = .ok (.string (bstr (t.take (rd4 a b c d)))) W := by
    intro W
    have := run_piece (P := Tryd.prog) 9 (a :: b :: c :: d :: e1 :: f :: g :: i :: t) 8 (8 + rd4 a b c d) (by omega) (by rw [hsz]; omega) W Tryd.underlying9
    rw [show (a :: b :: c :: d :: e1 :: f :: g :: i :: t).drop 8 = t from rfl, show 8 + rd4 a b c d - 8 = rd4 a b c d from by omega] at this
    exact this
  have hp2 : ∀ W : World, (Instr.slice 9 (.string (bstr (a :: b :: c :: d :: e1 :: f :: g :: i :: t))) none (some (.int .i64 4)) none).run Tryd.prog W = .ok (.string (bstr [a, b, c, d])) W :=
    fun W => run_head (P := Tryd.prog) 9 (a :: b :: c :: d :: e1 :: f :: g :: i :: t) 4 (by rw [hsz]; omega) W Tryd.underlying9
  have hp3 : ∀ W : World, (Instr.slice 9 (.string (bstr (a :: b :: c :: d :: e1 :: f :: g :: i :: t))) (some (.int .i64 4)) (some (.int .i64 8)) none).run Tryd.prog W = .ok (.string (bstr [e1, f, g, i])) W :=
    fun W => run_piece (P := Tryd.prog) 9 (a :: b :: c :: d :: e1 :: f :: g :: i :: t) 4 8 (by omega) (by rw [hsz]; omega) W Tryd.underlying9
  have hul : (t.take (rd4 a b c d)).length ≤ 9223372036854775807 := by rw [List.length_take]; omega
  generalize t.take (rd4 a b c d) = u at *
  generalize rd4 a b c d = n at *
  generalize a :: b :: c :: d :: e1 :: f :: g :: i :: t = s at *
  have hcl := (crc ([a, b, c, d] ++ u)).isLt
  have hq4 : [a, b, c, d].length ≤ 9223372036854775807 := by simp
  generalize [a, b, c, d] = q at *
  generalize [e1, f, g, i] = z at *
  have hg : decide ((1048576 : Int) < (n : Int)) = false := decide_eq_false (by omega)
  go_enter Tryd.func53, Tryd.ntmps53
  go_wp2_with fail
  refine (hrc _).mono ?_
  clear hrc
  rintro e w1 ⟨rfl, hb1⟩
  have ht1 := ht.below hb1
  go_wp2_with fail
  refine wp_region_noPanic ?_
  refine wp_region_any (by kernel_rfl) ?_
  change wpAny _ _ _ _ _ _ _ (World.drew _)
  refine wpAny_take (i := 0) (v := ?v1) rfl (by kernel_rfl) (by kernel_rfl) (by kernel_rfl) (fun _ _ _ h => h) (Or.inl ⟨by rfl, ?y1⟩) ?_
  case y1 => (intro w; go_simp; try with_reducible rfl)
  refine wpAny_take (i := 1) (v := ?v2) rfl (by kernel_rfl) (by kernel_rfl) (by kernel_rfl) (fun _ _ _ h => h) (Or.inl ⟨by rfl, ?y2⟩) ?_
  case y2 => (intro w; go_simp; try with_reducible rfl)
  refine wpAny_take (i := 2) (v := ?v3) rfl (by kernel_rfl) (by kernel_rfl) (by kernel_rfl) (fun _ _ _ h => h) (Or.inl ⟨by rfl, ?y3⟩) ?_
  case y3 => (intro w; go_simp; try with_reducible rfl)
  refine wpAny_take (i := 6) (v := ?v4) rfl (by kernel_rfl) (by kernel_rfl) (by kernel_rfl) (fun _ _ _ h => h) (Or.inl ⟨by rfl, ?y4⟩) ?_
  case y4 => (intro w; go_simp; try with_reducible rfl)
  refine wpAny_take (i := 7) (v := ?v5) rfl (by kernel_rfl) (by kernel_rfl) (by kernel_rfl) (fun _ _ _ h => h) (Or.inl ⟨by rfl, ?y5⟩) ?_
  case y5 => (intro w; go_simp; try with_reducible rfl)
  refine wpAny_ready (rs := [3]) (by kernel_rfl) (by simp) ?_
  refine AllReady.cons rfl (fun K hK => ?_) AllReady.nil
  go_simp
  refine hK _ _ ?_
  clear hK K
  refine wpAny_ready (rs := [4]) (by kernel_rfl) (by simp) ?_
  refine AllReady.cons rfl (fun K hK => ?_) AllReady.nil
  go_simp
  refine (Sum_lit_drew w1 2 [q, u] #[.string (bstr q), .string (bstr u)] rfl rfl ht1 (by decide) (all2 hq4 hul)).mono ?_
  rintro e w2 ⟨rfl, hb2⟩
  rw [show [q, u].flatten = q ++ u from by simp]
  refine hK _ _ ?_
  clear hK K
  refine wpAny_ready (rs := [5]) (by kernel_rfl) (by simp) ?_
  refine AllReady.cons rfl (fun K hK => ?_) AllReady.nil
  go_simp
  refine (laySum_any (crc (q ++ u)).toNat _ hcl).mono ?_
  rintro e w3 ⟨rfl, hb3⟩
  have hbe : Below w.heap.size w w3 := hb1.trans ((hb2.trans (hb3.mono hb2.size)).mono hb1.size)
  generalize hy : le4 (crc (q ++ u)).toNat = y
  have HY : Hid (le4 (crc (q ++ u)).toNat = y) := hy
  clear hy
  refine hK _ _ ?_
  clear hK K
  refine wpAny_ready (rs := [8]) (by kernel_rfl) (by simp) ?_
  refine AllReady.cons rfl (fun K hK => ?_) AllReady.nil
  go_simp
  refine hK _ _ ?_
  clear hK K
  refine wpAny_done (by kernel_rfl) ?_ _
  refine NoPanic.normal ?_
  by_cases hd : y = z
  · have hyt : (y == z) = true := by rw [hd]; simp
    rw [hyt, Bool.not_true]
    go_wp2
    go_ret2
    exact ⟨fun _ => rfl, fun h => absurd (HY.out.trans hd) h, hbe⟩
  · have hyf : (y == z) = false := by simp [hd]
    rw [hyf, Bool.not_false]
    go_wp2
    go_ret2
    exact ⟨fun h => absurd (HY.out.symm.trans h) hd, fun _ => rfl, hbe⟩


/-- seal.first, whatever it is handed. -/
theorem first_none (s : List UInt8) (w : World) (hm : s.length ≤ 9223372036854775000) (ht : Tabs w) (h : opn s = none) :
    Calls Tryd.prog 53 #[.string (bstr s)] w fun e w' => e = .returned (.tuple #[.string (bstr []), .int .i64 0]) ∧ Below w.heap.size w w' := by
  by_cases hs : s.length < 8
  · exact first_short s w hs
  · obtain ⟨a, b, c, d, e, f, g, i, t, rfl⟩ := ex8 (Nat.le_of_not_lt hs)
    simp only [List.length_cons] at hm
    by_cases hin : rd4 a b c d ≤ 1048576 ∧ rd4 a b c d ≤ t.length
    · refine (first_in a b c d e f g i t w (by omega) ht hin.1 hin.2).mono ?_
      rintro x w' ⟨_, h2, h3⟩
      refine ⟨h2 ?_, h3⟩
      intro hc
      rw [opn_eq, if_pos ⟨hin.1, hin.2, hc⟩] at h
      exact absurd h (by simp)
    · exact first_long a b c d e f g i t w (by omega) hin
theorem first_some (s b : List UInt8) (w : World) (hm : s.length ≤ 9223372036854775000) (ht : Tabs w) (h : opn s = some b) :
    Calls Tryd.prog 53 #[.string (bstr s)] w fun e w' => e = .returned (.tuple #[.string (bstr b), .int .i64 (8 + (b.length : Int))]) ∧ Below w.heap.size w w' := by
  by_cases hs : s.length < 8
  · rw [opn_short hs] at h
    exact absurd h (by simp)
  · obtain ⟨a, b1, c, d, e, f, g, i, t, rfl⟩ := ex8 (Nat.le_of_not_lt hs)
    simp only [List.length_cons] at hm
    rw [opn_eq] at h
    by_cases hh : rd4 a b1 c d ≤ 1048576 ∧ rd4 a b1 c d ≤ t.length ∧ le4 (crc ([a, b1, c, d] ++ t.take (rd4 a b1 c d))).toNat = [e, f, g, i]
    · rw [if_pos hh] at h
      obtain ⟨h1, h2, h3⟩ := hh
      have hb := Option.some.inj h
      have hl : b.length = rd4 a b1 c d := by rw [← hb, List.length_take]; omega
      refine (first_in a b1 c d e f g i t w (by omega) ht h1 h2).mono ?_
      rintro x w' ⟨g1, _, g3⟩
      refine ⟨?_, g3⟩
      rw [g1 h3, hl, hb]
    · rw [if_neg hh] at h
      exact absurd h (by simp)

set_option maxHeartbeats 400000 in
theorem SClone_any (l : List UInt8) (w : World) (hl : l.length ≤ 10000000000) :
    Calls Tryd.prog 32 #[.string (bstr l)] w fun e w' => e = .returned (.string (bstr l)) ∧ Below w.heap.size w w' := by
  go_enter Tryd.func32, Tryd.ntmps32
  go_wp2_with fail
  refine (Tryd.stringslite_Clone (bstr l) _ (by rw [size_bstr]; omega)).mono ?_
  rintro e w1 ⟨rfl, hb⟩
  go_wp2
  go_ret
  exact ⟨rfl, hb⟩

set_option maxHeartbeats 400000 in
theorem Open_none (s : List UInt8) (w : World) (hm : s.length ≤ 9223372036854775000) (ht : Tabs w) (h : opn s = none) :
    Calls Tryd.prog 35 #[.string (bstr s)] w fun e w' => e = .returned (.tuple #[.string (bstr []), .int .i64 0, .int .i64 4]) ∧ Below w.heap.size w w' := by
  go_enter Tryd.func35, Tryd.ntmps35
  go_wp2_with fail
  refine (first_none s _ hm ht h).mono ?_
  rintro e w1 ⟨rfl, hb⟩
  go_wp2
  go_ret3
  exact ⟨rfl, hb⟩
set_option maxHeartbeats 400000 in
theorem Open_some (s b : List UInt8) (w : World) (hm : s.length ≤ 9223372036854775000) (ht : Tabs w) (h : opn s = some b) :
    Calls Tryd.prog 35 #[.string (bstr s)] w fun e w' => e = .returned (.tuple #[.string (bstr b), .int .i64 (8 + (b.length : Int)), .int .i64 0]) ∧ Below w.heap.size w w' := by
  have hbl := (opn_some h).1
  go_enter Tryd.func35, Tryd.ntmps35
  go_wp2_with fail
  refine (first_some s b _ hm ht h).mono ?_
  rintro e w1 ⟨rfl, hb⟩
  go_wp2_with fail
  refine (SClone_any b _ (by omega)).mono ?_
  rintro e w2 ⟨rfl, hb2⟩
  go_wp2
  go_ret3
  exact ⟨rfl, hb.trans (hb2.mono hb.size)⟩

end Go.Proofs.YtnfnlfdplnekgaaDoor
