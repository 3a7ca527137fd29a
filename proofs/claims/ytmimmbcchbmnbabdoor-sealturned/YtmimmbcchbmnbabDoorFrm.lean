/-
  Frames as lists of bytes; the contracts of seal.Frame, seal.first, seal.Open.
-/
import Derived.Test.YtmimmbcchbmnbabDoorLay
import Derived.Test.YtmimmbcchbmnbabDoorShelf
import Derived.RegionTactic
namespace Go.Proofs.YtmimmbcchbmnbabDoor
open Go.RowKit
attribute [local go_sem] size_bstr getElem_bstr toList_bstr append_bstr

/-- A body's frame. -/
def frm (l : List UInt8) : List UInt8 := be4 l.length ++ (le4 (crc (be4 l.length ++ l)).toNat ++ l)
theorem frm_length (l : List UInt8) : (frm l).length = l.length + 8 := by
  unfold frm
  rw [List.length_append, List.length_append, be4_length, le4_length]
  omega
/-- The body of the frame with which bytes begin. -/
def opn : List UInt8 → Option (List UInt8)
  | a :: b :: c :: d :: e :: f :: g :: h :: t =>
    if rd4 a b c d ≤ 1048576 ∧ rd4 a b c d ≤ t.length ∧ le4 (crc ([a, b, c, d] ++ t.take (rd4 a b c d))).toNat = [e, f, g, h] then some (t.take (rd4 a b c d)) else none
  | _ => none
theorem opn_short {s : List UInt8} (h : s.length < 8) : opn s = none := by
  match s, h with
  | [], _ => rfl
  | [_], _ => rfl
  | [_, _], _ => rfl
  | [_, _, _], _ => rfl
  | [_, _, _, _], _ => rfl
  | [_, _, _, _, _], _ => rfl
  | [_, _, _, _, _, _], _ => rfl
  | [_, _, _, _, _, _, _], _ => rfl
  | _ :: _ :: _ :: _ :: _ :: _ :: _ :: _ :: t, h => simp at h; omega
theorem opn_eq (a b c d e f g h : UInt8) (t : List UInt8) : opn (a :: b :: c :: d :: e :: f :: g :: h :: t) =
    if rd4 a b c d ≤ 1048576 ∧ rd4 a b c d ≤ t.length ∧ le4 (crc ([a, b, c, d] ++ t.take (rd4 a b c d))).toNat = [e, f, g, h] then some (t.take (rd4 a b c d)) else none := by rw [opn]
theorem ex8 {s : List UInt8} (h : 8 ≤ s.length) : ∃ a b c d e f g i t, s = a :: b :: c :: d :: e :: f :: g :: i :: t := by
  match s, h with
  | a :: b :: c :: d :: e :: f :: g :: i :: t, _ => exact ⟨a, b, c, d, e, f, g, i, t, rfl⟩
theorem frm_of {a b c d e f g i : UInt8} {n : Nat} {u v : List UInt8} (hu : u.length = n) (hb : be4 n = [a, b, c, d]) (hs : le4 (crc ([a, b, c, d] ++ u)).toNat = [e, f, g, i]) : a :: b :: c :: d :: e :: f :: g :: i :: (u ++ v) = frm u ++ v := by
  subst hu
  unfold frm
  rw [hb, hs]
  rfl
theorem opn_some {s b : List UInt8} (h : opn s = some b) : b.length ≤ 1048576 ∧ ∃ r, s = frm b ++ r := by
  by_cases hs : s.length < 8
  · rw [opn_short hs] at h
    exact absurd h (by simp)
  · obtain ⟨a, b1, c, d, e, f, g, i, t, rfl⟩ := ex8 (Nat.le_of_not_lt hs)
    rw [opn_eq] at h
    by_cases hh : rd4 a b1 c d ≤ 1048576 ∧ rd4 a b1 c d ≤ t.length ∧ le4 (crc ([a, b1, c, d] ++ t.take (rd4 a b1 c d))).toNat = [e, f, g, i]
    · rw [if_pos hh] at h
      obtain ⟨h1, h2, h3⟩ := hh
      have hb := Option.some.inj h
      subst hb
      have hl : (t.take (rd4 a b1 c d)).length = rd4 a b1 c d := by rw [List.length_take]; omega
      refine ⟨by omega, t.drop (rd4 a b1 c d), ?_⟩
      have := frm_of (u := t.take (rd4 a b1 c d)) (v := t.drop (rd4 a b1 c d)) hl (be4_rd4 a b1 c d) h3
      rw [List.take_append_drop] at this
      exact this
    · rw [if_neg hh] at h
      exact absurd h (by simp)
theorem opn_frm {b : List UInt8} (h : b.length ≤ 1048576) (r : List UInt8) : opn (frm b ++ r) = some b := by
  have hr : rd4 (b.length / 16777216 % 256).toUInt8 (b.length / 65536 % 256).toUInt8 (b.length / 256 % 256).toUInt8 (b.length % 256).toUInt8 = b.length := rd4_be4 (by omega)
  show opn ((b.length / 16777216 % 256).toUInt8 :: (b.length / 65536 % 256).toUInt8 :: (b.length / 256 % 256).toUInt8 :: (b.length % 256).toUInt8 :: _ :: _ :: _ :: _ :: (b ++ r)) = _
  rw [opn_eq, hr]
  have ht : (b ++ r).take b.length = b := by simp
  rw [ht, if_pos]
  refine ⟨h, by simp, rfl⟩
theorem opn_length {s b : List UInt8} (h : opn s = some b) : b.length + 8 ≤ s.length := by
  obtain ⟨_, r, rfl⟩ := opn_some h
  rw [List.length_append, frm_length]
  omega

theorem strsAt_lit (W : World) (ps : List (List UInt8)) (cs : Array Value) (t : TypeId) (h : cs.toList = ps.map fun p => .string (bstr p)) : StrsAt (W.alloc (.cells cs t)) W.heap.size 0 ps := by
  intro j hj
  rw [World.cell?_alloc_at cs t W.heap.size (0 + j) rfl, ← Array.getElem?_toList, h]
  simp [hj]

/-- The sum of a literal list of parts. -/
theorem Sum_lit (W : World) (n : Nat) (ps : List (List UInt8)) (cs : Array Value) (h : cs.toList = ps.map fun p => .string (bstr p)) (hn : ps.length = n) (ht : Tabs W) (hlen : n ≤ 1000000) (hl : ∀ p ∈ ps, p.length ≤ 9223372036854775807) :
    Calls Tryd.prog 9 #[.slice (some ⟨W.heap.size, 0, none⟩) n n] (W.alloc (.cells cs 9)) fun e w' => e = .returned (.int .u32 ((crc ps.flatten).toNat : Int)) ∧ Below W.heap.size W w' := by
  subst hn
  have hba : Below W.heap.size W (W.alloc (.cells cs 9)) := (Below.refl _ _).alloc (Nat.le_refl _) _
  refine (Sum_any W.heap.size 0 ps.length ps _ (ht.below hba) (strsAt_lit W ps cs _ h) hlen hl).mono ?_
  rintro e w2 ⟨rfl, hb2⟩
  exact ⟨rfl, hba.trans (hb2.mono hba.size)⟩
theorem all2 {a b : List UInt8} {n : Nat} (ha : a.length ≤ n) (hb : b.length ≤ n) : ∀ p ∈ [a, b], p.length ≤ n := by
  intro p hp
  simp at hp
  rcases hp with rfl | rfl
  · exact ha
  · exact hb

set_option maxHeartbeats 400000 in
theorem Frame_long (l : List UInt8) (w : World) (h : 1048576 < l.length) (hm : l.length ≤ 9223372036854775807) :
    Calls Tryd.prog 6 #[.string (bstr l)] w fun e w' => e = .returned (.tuple #[.string (bstr []), .int .i64 3]) ∧ Below w.heap.size w w' := by
  go_enter Tryd.func6, Tryd.ntmps6
  go_wp2
  go_ret2
  exact ⟨rfl, Below.refl _ _⟩

set_option maxHeartbeats 1000000 in
theorem Frame_ok (l : List UInt8) (w : World) (h : l.length ≤ 1048576) (ht : Tabs w) :
    Calls Tryd.prog 6 #[.string (bstr l)] w fun e w' => e = .returned (.tuple #[.string (bstr (frm l)), .int .i64 0]) ∧ Below w.heap.size w w' := by
  have hcl := (crc (be4 l.length ++ l)).isLt
  go_enter Tryd.func6, Tryd.ntmps6
  go_wp2_with fail
  refine (layLength_any l.length _ (by omega)).mono ?_
  rintro e w1 ⟨rfl, hb1⟩
  have hb4 := be4_length l.length
  have ht1 := ht.below hb1
  go_wp2_with fail
  refine (Sum_lit w1 2 [be4 l.length, l] #[.string (bstr (be4 l.length)), .string (bstr l)] rfl rfl ht1 (by decide) (all2 (by omega) (by omega))).mono ?_
  rintro e w2 ⟨rfl, hb2⟩
  rw [show [be4 l.length, l].flatten = be4 l.length ++ l from by simp]
  go_wp2_with fail
  refine (laySum_any (crc (be4 l.length ++ l)).toNat _ hcl).mono ?_
  rintro e w3 ⟨rfl, hb3⟩
  have hl4 := le4_length (crc (be4 l.length ++ l)).toNat
  go_wp2
  go_ret2
  refine ⟨?_, ?_⟩
  · rfl
  · exact hb1.trans ((hb2.trans (hb3.mono hb2.size)).mono hb1.size)

end Go.Proofs.YtmimmbcchbmnbabDoor
