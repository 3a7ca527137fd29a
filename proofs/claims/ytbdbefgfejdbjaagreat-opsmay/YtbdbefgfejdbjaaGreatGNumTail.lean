/-
  Numbers as bytes, plainly: what 'number' reads at the beginning of bytes ('numOf'), and that it leads back to 'Lib.uvarint', which 'layNumber' lays.
  What a round of wire's 'number' does to what was read, plainly.
-/
import Derived.Lib.Varint
import Derived.Test.YtbdbefgfejdbjaaGreatAid
namespace Go.Proofs.YtbdbefgfejdbjaaGreat

/-- i bytes are read, each of 128 and more; acc is what their seven bits spell. -/
def numFrom (i acc : Nat) : List UInt8 → Nat × Nat
  | [] => (0, 0)
  | b :: r =>
    if i = 10 then (0, 0)
    else if 128 ≤ b.toNat then numFrom (i + 1) (acc + b.toNat % 128 * 2 ^ (7 * i)) r
    else if 0 < i ∧ b.toNat = 0 then (0, 0)
    else if i = 9 ∧ 1 < b.toNat then (0, 0)
    else (acc + b.toNat * 2 ^ (7 * i), i + 1)

def numOf (l : List UInt8) : Nat × Nat := numFrom 0 0 l

theorem numFrom_ten (acc : Nat) (l : List UInt8) : numFrom 10 acc l = (0, 0) := by cases l <;> simp [numFrom]

theorem toNat_toUInt8 {a : Nat} (h : a < 256) : (a.toUInt8).toNat = a := by
  simp [Nat.toUInt8]; omega

/-- What is laid is read. -/
theorem numFrom_uvarint : ∀ (fuel y i acc : Nat) (r : List UInt8), y ≤ fuel → (0 < i → 1 ≤ y) → i ≤ 9 → y < 2 ^ (64 - 7 * i) →
    numFrom i acc (Lib.uvarint y ++ r) = (acc + y * 2 ^ (7 * i), i + (Lib.uvarint y).length)
  | fuel, y, i, acc, r, hf, hi, h9, hy => by
    by_cases hsm : y < 128
    · rw [Lib.uvarint_small hsm]
      have e : (y.toUInt8).toNat = y := toNat_toUInt8 (by omega)
      simp only [List.cons_append, List.nil_append, numFrom, e, List.length_singleton]
      rw [if_neg (by omega), if_neg (by omega), if_neg (by omega), if_neg]
      rintro ⟨rfl, h1⟩
      have : (2 : Nat) ^ (64 - 7 * 9) = 2 := by decide
      omega
    · rw [Lib.uvarint_big (by omega)]
      have e : ((y % 128 + 128).toUInt8).toNat = y % 128 + 128 := toNat_toUInt8 (by omega)
      have hi8 : i ≤ 8 := by
        rcases Nat.lt_or_ge 8 i with h | h
        · have : i = 9 := by omega
          subst this
          have : (2 : Nat) ^ (64 - 7 * 9) = 2 := by decide
          omega
        · exact h
      have hp : (2 : Nat) ^ (64 - 7 * i) = 2 ^ (64 - 7 * (i + 1)) * 128 := by
        have : 64 - 7 * i = (64 - 7 * (i + 1)) + 7 := by omega
        rw [this, Nat.pow_add]
      have hq : (2 : Nat) ^ (7 * (i + 1)) = 2 ^ (7 * i) * 128 := by
        rw [Nat.mul_add, Nat.pow_add]
      match fuel, hf with
      | 0, hf => omega
      | fuel + 1, hf =>
        simp only [List.cons_append, numFrom, e]
        rw [if_neg (by omega), if_pos (by omega), numFrom_uvarint fuel (y / 128) (i + 1) _ r (by omega) (by omega) (by omega) (by rw [hp] at hy; omega), hq]
        have e2 : (y % 128 + 128) % 128 = y % 128 := by omega
        have e3 : y * 2 ^ (7 * i) = y % 128 * 2 ^ (7 * i) + y / 128 * (2 ^ (7 * i) * 128) := by
          conv => lhs; rw [show y = y % 128 + y / 128 * 128 from by omega]
          rw [Nat.add_mul, Nat.mul_assoc, Nat.mul_comm 128]
        rw [e2, e3, List.length_cons]
        simp only [Prod.mk.injEq]
        exact ⟨by omega, by omega⟩

theorem numOf_uvarint (x : Nat) (hx : x < 18446744073709551616) (r : List UInt8) : numOf (Lib.uvarint x ++ r) = (x, (Lib.uvarint x).length) := by
  have := numFrom_uvarint x x 0 0 r (Nat.le_refl _) (by omega) (by omega) (by simpa using hx)
  simpa [numOf] using this

/-- What is read was laid so. -/
theorem numFrom_back : ∀ (l : List UInt8) (i acc v n : Nat), i ≤ 10 → numFrom i acc l = (v, n) → n ≠ 0 →
    ∃ k y, n = i + k ∧ 1 ≤ k ∧ n ≤ 10 ∧ k ≤ l.length ∧ v = acc + y * 2 ^ (7 * i) ∧ l.take k = Lib.uvarint y ∧ (0 < i → 1 ≤ y) ∧ y < 2 ^ (64 - 7 * i)
  | [], i, acc, v, n, _, h, hn => by
    simp only [numFrom, Prod.mk.injEq] at h
    omega
  | b :: r, i, acc, v, n, hi, h, hn => by
    have hb := b.toNat_lt
    unfold numFrom at h
    by_cases h10 : i = 10
    · rw [if_pos h10] at h
      simp only [Prod.mk.injEq] at h
      omega
    rw [if_neg h10] at h
    by_cases h128 : 128 ≤ b.toNat
    · rw [if_pos h128] at h
      obtain ⟨k, y, e1, e2, e3, e4, e5, e6, e7, e8⟩ := numFrom_back r (i + 1) _ v n (by omega) h hn
      have hy := e7 (by omega)
      have hi9 : i ≤ 8 := by omega
      have hq : (2 : Nat) ^ (7 * (i + 1)) = 2 ^ (7 * i) * 128 := by
        rw [Nat.mul_add, Nat.pow_add]
      have hp : (2 : Nat) ^ (64 - 7 * i) = 2 ^ (64 - 7 * (i + 1)) * 128 := by
        have : 64 - 7 * i = (64 - 7 * (i + 1)) + 7 := by omega
        rw [this, Nat.pow_add]
      refine ⟨k + 1, b.toNat % 128 + 128 * y, by omega, by omega, e3, by simp; omega, ?_, ?_, by omega, by rw [hp]; omega⟩
      · rw [e5, hq, Nat.add_mul, Nat.add_assoc]
        congr 2
        rw [Nat.mul_comm 128 y, Nat.mul_assoc, Nat.mul_comm 128]
      · rw [Lib.uvarint_big (by omega), List.take_succ_cons, e6]
        congr 1
        · apply UInt8.toNat_inj.1
          rw [toNat_toUInt8 (by omega)]
          omega
        · congr 1
          omega
    · rw [if_neg h128] at h
      by_cases hz : 0 < i ∧ b.toNat = 0
      · rw [if_pos hz] at h
        simp only [Prod.mk.injEq] at h
        omega
      rw [if_neg hz] at h
      by_cases h9 : i = 9 ∧ 1 < b.toNat
      · rw [if_pos h9] at h
        simp only [Prod.mk.injEq] at h
        omega
      rw [if_neg h9] at h
      simp only [Prod.mk.injEq] at h
      refine ⟨1, b.toNat, h.2.symm, Nat.le_refl _, by omega, by simp, h.1.symm, ?_, by omega, ?_⟩
      · rw [Lib.uvarint_small (by omega)]
        simp
      · by_cases h8 : i ≤ 8
        · have : (2 : Nat) ^ 7 ≤ 2 ^ (64 - 7 * i) := Nat.pow_le_pow_right (by omega) (by omega)
          have e : (2 : Nat) ^ 7 = 128 := by decide
          omega
        · have : i = 9 := by omega
          subst this
          have : (2 : Nat) ^ (64 - 7 * 9) = 2 := by decide
          omega

/-- What is read: as many bytes as the number takes that is laid as just those. -/
theorem numOf_back {l : List UInt8} {v n : Nat} (h : numOf l = (v, n)) (hn : n ≠ 0) : 1 ≤ n ∧ n ≤ 10 ∧ n ≤ l.length ∧ v < 18446744073709551616 ∧ l.take n = Lib.uvarint v := by
  obtain ⟨k, y, e1, e2, e3, e4, e5, e6, _, e8⟩ := numFrom_back l 0 0 v n (by omega) h hn
  have : k = n := by omega
  subst this
  have : v = y := by simpa using e5
  subst this
  exact ⟨e2, e3, e4, by simpa using e8, e6⟩

theorem numFrom_none : ∀ (l : List UInt8) (i acc : Nat), (numFrom i acc l).2 = 0 → (numFrom i acc l).1 = 0
  | [], _, _, _ => rfl
  | b :: r, i, acc, h => by
    unfold numFrom at h ⊢
    by_cases h1 : i = 10
    · rw [if_pos h1]
    rw [if_neg h1] at h ⊢
    by_cases h2 : 128 ≤ b.toNat
    · rw [if_pos h2] at h ⊢
      exact numFrom_none r _ _ h
    rw [if_neg h2] at h ⊢
    by_cases h3 : 0 < i ∧ b.toNat = 0
    · rw [if_pos h3]
    rw [if_neg h3] at h ⊢
    by_cases h4 : i = 9 ∧ 1 < b.toNat
    · rw [if_pos h4]
    rw [if_neg h4] at h
    simp at h

theorem numOf_none {l : List UInt8} (h : (numOf l).2 = 0) : (numOf l).1 = 0 := numFrom_none l 0 0 h

theorem numOf_lt (l : List UInt8) : (numOf l).1 < 18446744073709551616 := by
  by_cases h : (numOf l).2 = 0
  · rw [numOf_none h]; omega
  · exact (numOf_back (l := l) rfl h).2.2.2.1

end Go.Proofs.YtbdbefgfejdbjaaGreat

namespace Go.Proofs.YtbdbefgfejdbjaaGreat
open Go.RowKit

/-- What the loop has read behind k bytes. -/
def Tail (l : List UInt8) (k : Nat) (z : Int) : Prop :=
  (k < 10 ∧ ∃ acc : Nat, z = acc ∧ acc < 2 ^ (7 * k) ∧ numOf l = numFrom k acc (l.drop k)) ∨ (k = 10 ∧ numOf l = (0, 0))

theorem pow_cast (m : Nat) : (2 : Int) ^ m = ((2 ^ m : Nat) : Int) := by simp

theorem or_step (k : Nat) (p : Int) (acc b : Nat) (hp : p = ((2 ^ (7 * k) : Nat) : Int)) (hacc : acc < 2 ^ (7 * k)) (h64 : 2 ^ (7 * k) < 18446744073709551616) (hb : b < 256) (hfit : b % 128 * 2 ^ (7 * k) < 18446744073709551616) :
    bits .or .u64 (acc : Int) (IntKind.u64.wrap (IntKind.u64.wrap (bits .and .u8 (b : Int) 127) * p)) = ((acc + b % 128 * 2 ^ (7 * k) : Nat) : Int) := by
  have e1 : bits .and .u8 (b : Int) 127 = ((b % 128 : Nat) : Int) := by rw [u8_and127 _ (by omega) (by omega)]; omega
  have e2 : ((b % 128 : Nat) : Int) * p = ((b % 128 * 2 ^ (7 * k) : Nat) : Int) := by rw [hp, Int.natCast_mul]
  have hm : b % 128 * 2 ^ (7 * k) % 2 ^ (7 * k) = 0 := Nat.mul_mod_left _ _
  have e64 : (2 : Int) ^ 64 = 18446744073709551616 := by decide
  rw [e1, u64_wrap_id ((b % 128 : Nat) : Int) (by omega) (by omega), e2]
  generalize b % 128 * 2 ^ (7 * k) = x at *
  rw [u64_wrap_id (x : Int) (by omega) (by omega)]
  have h1 : (acc : Int) < 2 ^ (7 * k) := by rw [pow_cast]; exact_mod_cast hacc
  have h2 : (x : Int) % 2 ^ (7 * k) = 0 := by rw [pow_cast]; exact_mod_cast hm
  rw [bits_join_low .u64 64 (by decide) wraps_u64 (7 * k) (acc : Int) (x : Int) (by omega) h1 (by rw [e64]; omega) (by omega) h2 (by rw [e64]; omega)]
  omega

theorem drop_at {l : List UInt8} {k : Nat} (hk : k < l.length) : l.drop k = l[k] :: l.drop (k + 1) := List.drop_eq_getElem_cons hk

theorem pow7 (k : Nat) (hk : k ≤ 9) : (2 : Nat) ^ (7 * k) ≤ 9223372036854775808 := by
  have h : (2 : Nat) ^ (7 * k) ≤ 2 ^ 63 := Nat.pow_le_pow_right (by omega) (by omega)
  have e : (2 : Nat) ^ 63 = 9223372036854775808 := by decide
  omega

/-- One byte of 128 and more. -/
theorem tail_next {l : List UInt8} {k : Nat} {z p : Int} (hk : k < l.length) (hk9 : k ≤ 9) (hp : p = ((2 ^ (7 * k) : Nat) : Int)) (h : Tail l k z) (hb : 128 ≤ (l[k].toNat : Int)) :
    Tail l (k + 1) (bits .or .u64 z (IntKind.u64.wrap (IntKind.u64.wrap (bits .and .u8 (l[k].toNat : Int) 127) * p))) := by
  rcases h with ⟨h10, acc, rfl, hacc, hl⟩ | ⟨h10, _⟩
  · rw [drop_at hk] at hl
    unfold numFrom at hl
    rw [if_neg (by omega), if_pos (by omega)] at hl
    by_cases h9 : k = 9
    · subst h9
      exact .inr ⟨rfl, by rw [hl, numFrom_ten]⟩
    · have hb' := l[k].toNat_lt
      have hq : (2 : Nat) ^ (7 * (k + 1)) = 2 ^ (7 * k) * 128 := by rw [Nat.mul_add, Nat.pow_add]
      have h56 : (2 : Nat) ^ (7 * k) ≤ 2 ^ 56 := Nat.pow_le_pow_right (by omega) (by omega)
      have e56 : (2 : Nat) ^ 56 = 72057594037927936 := by decide
      have hmul : l[k].toNat % 128 * 2 ^ (7 * k) ≤ 127 * 2 ^ (7 * k) := Nat.mul_le_mul_right _ (by omega)
      refine .inl ⟨by omega, _, or_step k p acc _ hp hacc (by omega) (by omega) (by omega), ?_, hl⟩
      rw [hq]
      omega
  · omega

/-- The last byte: what is read, and how many bytes it takes. -/
theorem tail_last {l : List UInt8} {k : Nat} {z p : Int} (hk : k < l.length) (hk9 : k ≤ 9) (hp : p = ((2 ^ (7 * k) : Nat) : Int)) (h : Tail l k z) (hb : (l[k].toNat : Int) < 128) (h0 : k = 0 ∨ ((l[k].toNat : Int) == 0) = false) (h1 : k ≠ 9 ∨ (l[k].toNat : Int) ≤ 1) :
    bits .or .u64 z (IntKind.u64.wrap (IntKind.u64.wrap (bits .and .u8 (l[k].toNat : Int) 127) * p)) = ((numOf l).1 : Int) ∧ ((k : Int) + 1) = ((numOf l).2 : Int) := by
  rcases h with ⟨h10, acc, rfl, hacc, hl⟩ | ⟨h10, _⟩
  · rw [drop_at hk] at hl
    unfold numFrom at hl
    have hnz : ¬ (0 < k ∧ l[k].toNat = 0) := by
      rintro ⟨a, b⟩
      rcases h0 with h0 | h0
      · omega
      · rw [b] at h0; simp at h0
    rw [if_neg (by omega), if_neg (by omega), if_neg hnz, if_neg (by omega)] at hl
    have h63 := pow7 k hk9
    have hfit : l[k].toNat % 128 * 2 ^ (7 * k) < 18446744073709551616 := by
      by_cases h9 : k = 9
      · have : l[k].toNat % 128 * 2 ^ (7 * k) ≤ 1 * 2 ^ (7 * k) := Nat.mul_le_mul_right _ (by omega)
        omega
      · have h56 : (2 : Nat) ^ (7 * k) ≤ 2 ^ 56 := Nat.pow_le_pow_right (by omega) (by omega)
        have e56 : (2 : Nat) ^ 56 = 72057594037927936 := by decide
        have hmul : l[k].toNat % 128 * 2 ^ (7 * k) ≤ 127 * 2 ^ (7 * k) := Nat.mul_le_mul_right _ (by omega)
        omega
    rw [or_step k p acc _ hp hacc (by omega) (by omega) hfit, hl, Nat.mod_eq_of_lt (by omega)]
    exact ⟨rfl, by simp⟩
  · omega

/-- The same two for the first byte, as the walk spells it. -/
theorem tail_next0 {l : List UInt8} {z : Int} (hk : 0 < l.length) (h : Tail l 0 z) (hb : 128 ≤ (l[0].toNat : Int)) :
    Tail l 1 (bits .or .u64 z (IntKind.u64.wrap (IntKind.u64.wrap (bits .and .u8 (l[0].toNat : Int) 127)))) := by
  have := tail_next (p := 1) hk (by omega) (by decide +kernel) h hb
  rwa [Int.mul_one] at this
theorem tail_last0 {l : List UInt8} {z : Int} (hk : 0 < l.length) (h : Tail l 0 z) (hb : (l[0].toNat : Int) < 128) :
    bits .or .u64 z (IntKind.u64.wrap (IntKind.u64.wrap (bits .and .u8 (l[0].toNat : Int) 127))) = ((numOf l).1 : Int) ∧ (1 : Int) = ((numOf l).2 : Int) := by
  have := tail_last (p := 1) hk (by omega) (by decide +kernel) h hb (.inl rfl) (.inl (by omega))
  rw [Int.mul_one] at this
  exact ⟨this.1, by have := this.2; omega⟩

/-- A last byte that is refused: 0 behind others. -/
theorem tail_zero {l : List UInt8} {k : Nat} {z : Int} (hk : k < l.length) (hk9 : k ≤ 9) (h : Tail l k z) (hk0 : 0 < k) (hb : ((l[k].toNat : Int) == 0) = true) : numOf l = (0, 0) := by
  rcases h with ⟨h10, acc, rfl, hacc, hl⟩ | ⟨h10, _⟩
  · have hb' : l[k].toNat = 0 := by simpa using hb
    rw [drop_at hk] at hl
    unfold numFrom at hl
    rw [if_neg (by omega), if_neg (by omega), if_pos ⟨hk0, hb'⟩] at hl
    exact hl
  · omega

/-- .. or above 1 in the tenth place. -/
theorem tail_great {l : List UInt8} {z : Int} (hk : 9 < l.length) (h : Tail l 9 z) (hb : (1 : Int) < (l[9].toNat : Int)) (hb2 : (l[9].toNat : Int) < 128) : numOf l = (0, 0) := by
  rcases h with ⟨h10, acc, rfl, hacc, hl⟩ | ⟨h10, _⟩
  · rw [drop_at hk] at hl
    unfold numFrom at hl
    rw [if_neg (by omega), if_neg (by omega), if_neg (by omega), if_pos ⟨rfl, by omega⟩] at hl
    exact hl
  · omega

/-- No byte is left, or ten were read. -/
theorem tail_out {l : List UInt8} {k : Nat} {z : Int} (hk : ¬ (k < l.length ∧ k < 10)) (h : Tail l k z) : numOf l = (0, 0) := by
  rcases h with ⟨h10, acc, rfl, hacc, hl'⟩ | ⟨h10, h'⟩
  · rw [hl', List.drop_of_length_le (by omega)]
    rfl
  · exact h'

theorem ret_two {a b c d : Int} (h1 : a = c) (h2 : b = d) : Ending.returned (.tuple #[.int .u64 a, .int .i64 b]) = .returned (.tuple #[.int .u64 c, .int .i64 d]) := by rw [h1, h2]

end Go.Proofs.YtbdbefgfejdbjaaGreat
