/-
  What a round of wire's 'number' does to what was read, plainly.
-/
import Derived.Test.YtmgibkglbddlpaaDoorAid
import Derived.Test.YtmgibkglbddlpaaDoorNum
namespace Go.Proofs.YtmgibkglbddlpaaDoor
open Go.RowKit

/-- What the loop has read behind k bytes. -/
def Tail (l : List UInt8) (k : Nat) (z : Int) : Prop :=
  (k < 10 ∧ ∃ acc : Nat, z = acc ∧ acc < 2 ^ (7 * k) ∧ numOf l = numFrom k acc (l.drop k)) ∨ (k = 10 ∧ numOf l = (0, 0))

theorem pow_cast (m : Nat) : (2 : Int) ^ m = ((2 ^ m : Nat) : Int) := by simp

theorem or_step (k : Nat) (p : Int) (acc b : Nat) (hp : p = ((2 ^ (7 * k) : Nat) : Int)) (hacc : acc < 2 ^ (7 * k)) (h64 : 2 ^ (7 * k) < 18446744073709551616) (hb : b < 256) (hfit : b % 128 * 2 ^ (7 * k) < 18446744073709551616) :
    bits .or .u64 (acc : Int) (IntKind.u64.wrap (IntKind.u64.wrap (bits .and .u8 (b : Int) 127) * p)) = ((acc + b % 128 * 2 ^ (7 * k) : Nat) : Int) := by
  have e1 : bits .and .u8 (b : Int) 127 = ((b % 128 : Nat) : Int) := by rw [u8_and127 _ (by omega) (by omega)]; omega
  have e2 : ((b % 128 : Nat) : Int) * p = ((b % 128 * 2 ^ (7 * k) : Nat) : Int) := by rw [hp, Int.natCast_mul]
  have hm : b % 128 * 2 ^ (7 * k) % 2 ^ (7 * k) = 0 := Nat.mul_mod_left _ _
  have e64 : (2 : Int) ^ 64 = 18446744073709551616 := by decide
  rw [e1, u64_wrap_id ((b % 128 : Nat) : Int) (by omega) (by omega), e2]
  generalize b % 128 * 2 ^ (7 * k) = x at *
  rw [u64_wrap_id (x : Int) (by omega) (by omega)]
  have h1 : (acc : Int) < 2 ^ (7 * k) := by rw [pow_cast]; exact_mod_cast hacc
  have h2 : (x : Int) % 2 ^ (7 * k) = 0 := by rw [pow_cast]; exact_mod_cast hm
  rw [bits_join_low .u64 64 (by decide) wraps_u64 (7 * k) (acc : Int) (x : Int) (by omega) h1 (by rw [e64]; omega) (by omega) h2 (by rw [e64]; omega)]
  omega

theorem drop_at {l : List UInt8} {k : Nat} (hk : k < l.length) : l.drop k = l[k] :: l.drop (k + 1) := List.drop_eq_getElem_cons hk

theorem pow7 (k : Nat) (hk : k ≤ 9) : (2 : Nat) ^ (7 * k) ≤ 9223372036854775808 := by
  have h : (2 : Nat) ^ (7 * k) ≤ 2 ^ 63 := Nat.pow_le_pow_right (by omega) (by omega)
  have e : (2 : Nat) ^ 63 = 9223372036854775808 := by decide
  omega

/-- One byte of 128 and more. -/
theorem tail_next {l : List UInt8} {k : Nat} {z p : Int} (hk : k < l.length) (hk9 : k ≤ 9) (hp : p = ((2 ^ (7 * k) : Nat) : Int)) (h : Tail l k z) (hb : 128 ≤ (l[k].toNat : Int)) :
    Tail l (k + 1) (bits .or .u64 z (IntKind.u64.wrap (IntKind.u64.wrap (bits .and .u8 (l[k].toNat : Int) 127) * p))) := by
  rcases h with ⟨h10, acc, rfl, hacc, hl⟩ | ⟨h10, _⟩
  · rw [drop_at hk] at hl
    unfold numFrom at hl
    rw [if_neg (by omega), if_pos (by omega)] at hl
    by_cases h9 : k = 9
    · subst h9
      exact .inr ⟨rfl, by rw [hl, numFrom_ten]⟩
    · have hb' := l[k].toNat_lt
      have hq : (2 : Nat) ^ (7 * (k + 1)) = 2 ^ (7 * k) * 128 := by rw [Nat.mul_add, Nat.pow_add]
      have h56 : (2 : Nat) ^ (7 * k) ≤ 2 ^ 56 := Nat.pow_le_pow_right (by omega) (by omega)
      have e56 : (2 : Nat) ^ 56 = 72057594037927936 := by decide
      have hmul : l[k].toNat % 128 * 2 ^ (7 * k) ≤ 127 * 2 ^ (7 * k) := Nat.mul_le_mul_right _ (by omega)
      refine .inl ⟨by omega, _, or_step k p acc _ hp hacc (by omega) (by omega) (by omega), ?_, hl⟩
      rw [hq]
      omega
  · omega

/-- The last byte: what is read, and how many bytes it takes. -/
theorem tail_last {l : List UInt8} {k : Nat} {z p : Int} (hk : k < l.length) (hk9 : k ≤ 9) (hp : p = ((2 ^ (7 * k) : Nat) : Int)) (h : Tail l k z) (hb : (l[k].toNat : Int) < 128) (h0 : k = 0 ∨ ((l[k].toNat : Int) == 0) = false) (h1 : k ≠ 9 ∨ (l[k].toNat : Int) ≤ 1) :
    bits .or .u64 z (IntKind.u64.wrap (IntKind.u64.wrap (bits .and .u8 (l[k].toNat : Int) 127) * p)) = ((numOf l).1 : Int) ∧ ((k : Int) + 1) = ((numOf l).2 : Int) := by
  rcases h with ⟨h10, acc, rfl, hacc, hl⟩ | ⟨h10, _⟩
  · rw [drop_at hk] at hl
    unfold numFrom at hl
    have hnz : ¬ (0 < k ∧ l[k].toNat = 0) := by
      rintro ⟨a, b⟩
      rcases h0 with h0 | h0
      · omega
      · rw [b] at h0; simp at h0
    rw [if_neg (by omega), if_neg (by omega), if_neg hnz, if_neg (by omega)] at hl
    have h63 := pow7 k hk9
    have hfit : l[k].toNat % 128 * 2 ^ (7 * k) < 18446744073709551616 := by
      by_cases h9 : k = 9
      · have : l[k].toNat % 128 * 2 ^ (7 * k) ≤ 1 * 2 ^ (7 * k) := Nat.mul_le_mul_right _ (by omega)
        omega
      · have h56 : (2 : Nat) ^ (7 * k) ≤ 2 ^ 56 := Nat.pow_le_pow_right (by omega) (by omega)
        have e56 : (2 : Nat) ^ 56 = 72057594037927936 := by decide
        have hmul : l[k].toNat % 128 * 2 ^ (7 * k) ≤ 127 * 2 ^ (7 * k) := Nat.mul_le_mul_right _ (by omega)
        omega
    rw [or_step k p acc _ hp hacc (by omega) (by omega) hfit, hl, Nat.mod_eq_of_lt (by omega)]
    exact ⟨rfl, by simp⟩
  · omega

/-- The same two for the first byte, as the walk spells it. -/
theorem tail_next0 {l : List UInt8} {z : Int} (hk : 0 < l.length) (h : Tail l 0 z) (hb : 128 ≤ (l[0].toNat : Int)) :
    Tail l 1 (bits .or .u64 z (IntKind.u64.wrap (IntKind.u64.wrap (bits .and .u8 (l[0].toNat : Int) 127)))) := by
  have := tail_next (p := 1) hk (by omega) (by decide +kernel) h hb
  rwa [Int.mul_one] at this
theorem tail_last0 {l : List UInt8} {z : Int} (hk : 0 < l.length) (h : Tail l 0 z) (hb : (l[0].toNat : Int) < 128) :
    bits .or .u64 z (IntKind.u64.wrap (IntKind.u64.wrap (bits .and .u8 (l[0].toNat : Int) 127))) = ((numOf l).1 : Int) ∧ (1 : Int) = ((numOf l).2 : Int) := by
  have := tail_last (p := 1) hk (by omega) (by decide +kernel) h hb (.inl rfl) (.inl (by omega))
  rw [Int.mul_one] at this
  exact ⟨this.1, by have := this.2; omega⟩

/-- A last byte that is refused: 0 behind others. -/
theorem tail_zero {l : List UInt8} {k : Nat} {z : Int} (hk : k < l.length) (hk9 : k ≤ 9) (h : Tail l k z) (hk0 : 0 < k) (hb : ((l[k].toNat : Int) == 0) = true) : numOf l = (0, 0) := by
  rcases h with ⟨h10, acc, rfl, hacc, hl⟩ | ⟨h10, _⟩
  · have hb' : l[k].toNat = 0 := by simpa using hb
    rw [drop_at hk] at hl
    unfold numFrom at hl
    rw [if_neg (by omega), if_neg (by omega), if_pos ⟨hk0, hb'⟩] at hl
    exact hl
  · omega

/-- .. or above 1 in the tenth place. -/
theorem tail_great {l : List UInt8} {z : Int} (hk : 9 < l.length) (h : Tail l 9 z) (hb : (1 : Int) < (l[9].toNat : Int)) (hb2 : (l[9].toNat : Int) < 128) : numOf l = (0, 0) := by
  rcases h with ⟨h10, acc, rfl, hacc, hl⟩ | ⟨h10, _⟩
  · rw [drop_at hk] at hl
    unfold numFrom at hl
    rw [if_neg (by omega), if_neg (by omega), if_neg (by omega), if_pos ⟨rfl, by omega⟩] at hl
    exact hl
  · omega

/-- No byte is left, or ten were read. -/
theorem tail_out {l : List UInt8} {k : Nat} {z : Int} (hk : ¬ (k < l.length ∧ k < 10)) (h : Tail l k z) : numOf l = (0, 0) := by
  rcases h with ⟨h10, acc, rfl, hacc, hl'⟩ | ⟨h10, h'⟩
  · rw [hl', List.drop_of_length_le (by omega)]
    rfl
  · exact h'

theorem ret_two {a b c d : Int} (h1 : a = c) (h2 : b = d) : Ending.returned (.tuple #[.int .u64 a, .int .i64 b]) = .returned (.tuple #[.int .u64 c, .int .i64 d]) := by rw [h1, h2]

end Go.Proofs.YtmgibkglbddlpaaDoor
