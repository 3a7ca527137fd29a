/-
  Things laid one behind the other, plainly.
-/
import Derived.Test.YtbkalfpgeclibaaNum
namespace Go.Proofs.Ytbkalfpgeclibaa

/-- A number or a text. -/
structure Th where
  t : Bool
  n : Nat
  s : List UInt8

def enc1 (x : Th) : List UInt8 := if x.t then Lib.uvarint (x.s.take 300).length ++ x.s.take 300 else Lib.uvarint x.n
def encs : List Th → List UInt8
  | [] => []
  | x :: r => enc1 x ++ encs r

theorem encs_append : ∀ a b : List Th, encs (a ++ b) = encs a ++ encs b
  | [], _ => rfl
  | x :: a, b => by simp only [List.cons_append, encs, encs_append a b, List.append_assoc]

theorem enc1_length (x : Th) (h : x.n < 18446744073709551616) : (enc1 x).length ≤ 310 := by
  have h1 : (x.s.take 300).length ≤ 300 := List.length_take_le _ _
  have h2 := Lib.uvarint_length64 (x := (x.s.take 300).length) (by omega)
  have h3 := Lib.uvarint_length64 h
  unfold enc1
  split
  · rw [List.length_append]; omega
  · omega

theorem encs_length : ∀ (l : List Th), (∀ x ∈ l, x.n < 18446744073709551616) → (encs l).length ≤ 310 * l.length
  | [], _ => by simp [encs]
  | x :: r, h => by
    have h1 := enc1_length x (h x (by simp))
    have h2 := encs_length r (fun y hy => h y (by simp [hy]))
    simp only [encs, List.length_append, List.length_cons]
    omega

theorem encs_take {l : List Th} {k : Nat} (h : k < l.length) : encs (l.take (k + 1)) = encs (l.take k) ++ enc1 (l[k]) := by
  rw [List.take_succ_eq_append_getElem h, encs_append]
  simp [encs]

theorem encs_drop {l : List Th} {k : Nat} (h : k < l.length) : encs (l.drop k) = enc1 (l[k]) ++ encs (l.drop (k + 1)) := by
  rw [List.drop_eq_getElem_cons h]
  rfl

theorem text_at (y R : List UInt8) : ((Lib.uvarint y.length ++ (y ++ R)).drop (Lib.uvarint y.length).length).take y.length = y := by
  rw [List.drop_left, List.take_left]
theorem text_rest (y R : List UInt8) : (Lib.uvarint y.length ++ (y ++ R)).drop ((Lib.uvarint y.length).length + y.length) = R := by
  rw [← List.drop_drop, List.drop_left, List.drop_left]
theorem num_rest (n : Nat) (R : List UInt8) : (Lib.uvarint n ++ R).drop (Lib.uvarint n).length = R := List.drop_left

end Go.Proofs.Ytbkalfpgeclibaa
