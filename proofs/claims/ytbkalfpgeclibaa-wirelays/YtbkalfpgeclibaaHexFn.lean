/-
  Digits, plainly: bytes as digits ('hexOf'), digits as bytes ('unhexOf'), that the two lead back to one another.
-/
import Derived.Lib.Bytealg
namespace Go.Proofs.Ytbkalfpgeclibaa

/-- The digit of a number below 16. -/
def hx (n : Nat) : UInt8 := if n < 10 then (48 + n).toUInt8 else (87 + n).toUInt8
/-- What a digit tells; 16: it is none. -/
def dg (c : UInt8) : Nat := if 48 ≤ c.toNat ∧ c.toNat ≤ 57 then c.toNat - 48 else if 97 ≤ c.toNat ∧ c.toNat ≤ 102 then c.toNat - 87 else 16

def hexOf : List UInt8 → List UInt8
  | [] => []
  | b :: r => hx (b.toNat / 16) :: hx (b.toNat % 16) :: hexOf r

def unhexOf : List UInt8 → Option (List UInt8)
  | [] => some []
  | [_] => none
  | a :: b :: r => if dg a < 16 ∧ dg b < 16 then (unhexOf r).map fun t => (dg a * 16 + dg b).toUInt8 :: t else none

def digits : List UInt8 := [48, 49, 50, 51, 52, 53, 54, 55, 56, 57, 97, 98, 99, 100, 101, 102]

theorem indexByte_digits (c : UInt8) : Lib.indexByte digits c = if dg c < 16 then (dg c : Int) else -1 := by
  have h : ∀ n, n < 256 → Lib.indexByte digits n.toUInt8 = if dg n.toUInt8 < 16 then (dg n.toUInt8 : Int) else -1 := by decide +kernel
  have := h c.toNat c.toNat_lt
  have e : c.toNat.toUInt8 = c := by simp [Nat.toUInt8]
  rwa [e] at this

theorem digits_at (n : Nat) (h : n < 16) : digits[n]? = some (hx n) := by
  have H : ∀ n, n < 16 → digits[n]? = some (hx n) := by decide +kernel
  exact H n h

theorem dg_hx (n : Nat) (h : n < 16) : dg (hx n) = n := by
  have H : ∀ n, n < 16 → dg (hx n) = n := by decide +kernel
  exact H n h

theorem hx_dg (c : UInt8) (h : dg c < 16) : hx (dg c) = c := by
  have H : ∀ n, n < 256 → dg n.toUInt8 < 16 → hx (dg n.toUInt8) = n.toUInt8 := by decide +kernel
  have := H c.toNat c.toNat_lt
  have e : c.toNat.toUInt8 = c := by simp [Nat.toUInt8]
  rw [e] at this
  exact this h

theorem hexOf_length : ∀ l : List UInt8, (hexOf l).length = 2 * l.length
  | [] => rfl
  | b :: r => by simp only [hexOf, List.length_cons, hexOf_length r]; omega

theorem hexOf_append : ∀ a b : List UInt8, hexOf (a ++ b) = hexOf a ++ hexOf b
  | [], _ => rfl
  | x :: a, b => by simp only [List.cons_append, hexOf, hexOf_append a b]

theorem unhexOf_hexOf : ∀ l : List UInt8, unhexOf (hexOf l) = some l
  | [] => rfl
  | b :: r => by
    have hb := b.toNat_lt
    simp only [hexOf, unhexOf]
    rw [dg_hx _ (by omega), dg_hx _ (by omega), if_pos ⟨by omega, by omega⟩, unhexOf_hexOf r]
    simp only [Option.map_some, Option.some.injEq, List.cons.injEq, and_true]
    rw [show b.toNat / 16 * 16 + b.toNat % 16 = b.toNat from by omega]
    simp [Nat.toUInt8]

theorem hexOf_unhexOf : ∀ (l t : List UInt8), unhexOf l = some t → hexOf t = l
  | [], t, h => by simp only [unhexOf, Option.some.injEq] at h; subst h; rfl
  | [_], t, h => by simp [unhexOf] at h
  | a :: b :: r, t, h => by
    simp only [unhexOf] at h
    by_cases hd : dg a < 16 ∧ dg b < 16
    · rw [if_pos hd] at h
      cases hr : unhexOf r with
      | none => simp [hr] at h
      | some q =>
        rw [hr] at h
        simp only [Option.map_some, Option.some.injEq] at h
        subst h
        have e : ((dg a * 16 + dg b).toUInt8).toNat = dg a * 16 + dg b := by simp [Nat.toUInt8]; omega
        simp only [hexOf, e]
        rw [show (dg a * 16 + dg b) / 16 = dg a from by omega, show (dg a * 16 + dg b) % 16 = dg b from by omega, hx_dg a hd.1, hx_dg b hd.2, hexOf_unhexOf r q hr]
    · rw [if_neg hd] at h
      simp at h

theorem unhexOf_even : ∀ (l : List UInt8), l.length % 2 ≠ 0 → unhexOf l = none
  | [], h => by simp at h
  | [_], _ => rfl
  | a :: b :: r, h => by
    simp only [unhexOf]
    rw [unhexOf_even r (by simp only [List.length_cons] at h; omega)]
    simp

/-- Two digits more. -/
theorem unhexOf_next {l : List UInt8} {j : Nat} (h : j + 1 < l.length) : unhexOf (l.drop j) = if dg (l[j]) < 16 ∧ dg (l[j + 1]) < 16 then (unhexOf (l.drop (j + 2))).map fun t => (dg (l[j]) * 16 + dg (l[j + 1])).toUInt8 :: t else none := by
  rw [List.drop_eq_getElem_cons (by omega : j < l.length), List.drop_eq_getElem_cons (by omega : j + 1 < l.length)]
  simp only [unhexOf]

theorem take_next {l : List UInt8} {k : Nat} (h : k < l.length) : hexOf (l.take (k + 1)) = hexOf (l.take k) ++ [hx (l[k].toNat / 16), hx (l[k].toNat % 16)] := by
  rw [List.take_succ_eq_append_getElem h, hexOf_append]
  rfl

end Go.Proofs.Ytbkalfpgeclibaa
