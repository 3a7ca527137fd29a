/-
  Numbers as bytes, plainly: what 'number' reads at the beginning of bytes ('numOf'), and that it leads back to 'Lib.uvarint', which 'layNumber' lays.
-/
import Derived.Lib.Varint
namespace Go.Proofs.YtmgibkglbddlpaaDoor

/-- i bytes are read, each of 128 and more; acc is what their seven bits spell. -/
def numFrom (i acc : Nat) : List UInt8 → Nat × Nat
  | [] => (0, 0)
  | b :: r =>
    if i = 10 then (0, 0)
    else if 128 ≤ b.toNat then numFrom (i + 1) (acc + b.toNat % 128 * 2 ^ (7 * i)) r
    else if 0 < i ∧ b.toNat = 0 then (0, 0)
    else if i = 9 ∧ 1 < b.toNat then (0, 0)
    else (acc + b.toNat * 2 ^ (7 * i), i + 1)

def numOf (l : List UInt8) : Nat × Nat := numFrom 0 0 l

theorem numFrom_ten (acc : Nat) (l : List UInt8) : numFrom 10 acc l = (0, 0) := by cases l <;> simp [numFrom]

theorem toNat_toUInt8 {a : Nat} (h : a < 256) : (a.toUInt8).toNat = a := by
  simp [Nat.toUInt8]; omega

/-- What is laid is read. -/
theorem numFrom_uvarint : ∀ (fuel y i acc : Nat) (r : List UInt8), y ≤ fuel → (0 < i → 1 ≤ y) → i ≤ 9 → y < 2 ^ (64 - 7 * i) →
    numFrom i acc (Lib.uvarint y ++ r) = (acc + y * 2 ^ (7 * i), i + (Lib.uvarint y).length)
  | fuel, y, i, acc, r, hf, hi, h9, hy => by
    by_cases hsm : y < 128
    · rw [Lib.uvarint_small hsm]
      have e : (y.toUInt8).toNat = y := toNat_toUInt8 (by omega)
      simp only [List.cons_append, List.nil_append, numFrom, e, List.length_singleton]
      rw [if_neg (by omega), if_neg (by omega), if_neg (by omega), if_neg]
      rintro ⟨rfl, h1⟩
      have : (2 : Nat) ^ (64 - 7 * 9) = 2 := by decide
      omega
    · rw [Lib.uvarint_big (by omega)]
      have e : ((y % 128 + 128).toUInt8).toNat = y % 128 + 128 := toNat_toUInt8 (by omega)
      have hi8 : i ≤ 8 := by
        rcases Nat.lt_or_ge 8 i with h | h
        · have : i = 9 := by omega
          subst this
          have : (2 : Nat) ^ (64 - 7 * 9) = 2 := by decide
          omega
        · exact h
      have hp : (2 : Nat) ^ (64 - 7 * i) = 2 ^ (64 - 7 * (i + 1)) * 128 := by
        have : 64 - 7 * i = (64 - 7 * (i + 1)) + 7 := by omega
        rw [this, Nat.pow_add]
      have hq : (2 : Nat) ^ (7 * (i + 1)) = 2 ^ (7 * i) * 128 := by
        rw [Nat.mul_add, Nat.pow_add]
      match fuel, hf with
      | 0, hf => omega
      | fuel + 1, hf =>
        simp only [List.cons_append, numFrom, e]
        rw [if_neg (by omega), if_pos (by omega), numFrom_uvarint fuel (y / 128) (i + 1) _ r (by omega) (by omega) (by omega) (by rw [hp] at hy; omega), hq]
        have e2 : (y % 128 + 128) % 128 = y % 128 := by omega
        have e3 : y * 2 ^ (7 * i) = y % 128 * 2 ^ (7 * i) + y / 128 * (2 ^ (7 * i) * 128) := by
          conv => lhs; rw [show y = y % 128 + y / 128 * 128 from by omega]
          rw [Nat.add_mul, Nat.mul_assoc, Nat.mul_comm 128]
        rw [e2, e3, List.length_cons]
        simp only [Prod.mk.injEq]
        exact ⟨by omega, by omega⟩

theorem numOf_uvarint (x : Nat) (hx : x < 18446744073709551616) (r : List UInt8) : numOf (Lib.uvarint x ++ r) = (x, (Lib.uvarint x).length) := by
  have := numFrom_uvarint x x 0 0 r (Nat.le_refl _) (by omega) (by omega) (by simpa using hx)
  simpa [numOf] using this

/-- What is read was laid so. -/
theorem numFrom_back : ∀ (l : List UInt8) (i acc v n : Nat), i ≤ 10 → numFrom i acc l = (v, n) → n ≠ 0 →
    ∃ k y, n = i + k ∧ 1 ≤ k ∧ n ≤ 10 ∧ k ≤ l.length ∧ v = acc + y * 2 ^ (7 * i) ∧ l.take k = Lib.uvarint y ∧ (0 < i → 1 ≤ y) ∧ y < 2 ^ (64 - 7 * i)
  | [], i, acc, v, n, _, h, hn => by
    simp only [numFrom, Prod.mk.injEq] at h
    omega
  | b :: r, i, acc, v, n, hi, h, hn => by
    have hb := b.toNat_lt
    unfold numFrom at h
    by_cases h10 : i = 10
    · rw [if_pos h10] at h
      simp only [Prod.mk.injEq] at h
      omega
    rw [if_neg h10] at h
    by_cases h128 : 128 ≤ b.toNat
    · rw [if_pos h128] at h
      obtain ⟨k, y, e1, e2, e3, e4, e5, e6, e7, e8⟩ := numFrom_back r (i + 1) _ v n (by omega) h hn
      have hy := e7 (by omega)
      have hi9 : i ≤ 8 := by omega
      have hq : (2 : Nat) ^ (7 * (i + 1)) = 2 ^ (7 * i) * 128 := by
        rw [Nat.mul_add, Nat.pow_add]
      have hp : (2 : Nat) ^ (64 - 7 * i) = 2 ^ (64 - 7 * (i + 1)) * 128 := by
        have : 64 - 7 * i = (64 - 7 * (i + 1)) + 7 := by omega
        rw [this, Nat.pow_add]
      refine ⟨k + 1, b.toNat % 128 + 128 * y, by omega, by omega, e3, by simp; omega, ?_, ?_, by omega, by rw [hp]; omega⟩
      · rw [e5, hq, Nat.add_mul, Nat.add_assoc]
        congr 2
        rw [Nat.mul_comm 128 y, Nat.mul_assoc, Nat.mul_comm 128]
      · rw [Lib.uvarint_big (by omega), List.take_succ_cons, e6]
        congr 1
        · apply UInt8.toNat_inj.1
          rw [toNat_toUInt8 (by omega)]
          omega
        · congr 1
          omega
    · rw [if_neg h128] at h
      by_cases hz : 0 < i ∧ b.toNat = 0
      · rw [if_pos hz] at h
        simp only [Prod.mk.injEq] at h
        omega
      rw [if_neg hz] at h
      by_cases h9 : i = 9 ∧ 1 < b.toNat
      · rw [if_pos h9] at h
        simp only [Prod.mk.injEq] at h
        omega
      rw [if_neg h9] at h
      simp only [Prod.mk.injEq] at h
      refine ⟨1, b.toNat, h.2.symm, Nat.le_refl _, by omega, by simp, h.1.symm, ?_, by omega, ?_⟩
      · rw [Lib.uvarint_small (by omega)]
        simp
      · by_cases h8 : i ≤ 8
        · have : (2 : Nat) ^ 7 ≤ 2 ^ (64 - 7 * i) := Nat.pow_le_pow_right (by omega) (by omega)
          have e : (2 : Nat) ^ 7 = 128 := by decide
          omega
        · have : i = 9 := by omega
          subst this
          have : (2 : Nat) ^ (64 - 7 * 9) = 2 := by decide
          omega

/-- What is read: as many bytes as the number takes that is laid as just those. -/
theorem numOf_back {l : List UInt8} {v n : Nat} (h : numOf l = (v, n)) (hn : n ≠ 0) : 1 ≤ n ∧ n ≤ 10 ∧ n ≤ l.length ∧ v < 18446744073709551616 ∧ l.take n = Lib.uvarint v := by
  obtain ⟨k, y, e1, e2, e3, e4, e5, e6, _, e8⟩ := numFrom_back l 0 0 v n (by omega) h hn
  have : k = n := by omega
  subst this
  have : v = y := by simpa using e5
  subst this
  exact ⟨e2, e3, e4, by simpa using e8, e6⟩

theorem numFrom_none : ∀ (l : List UInt8) (i acc : Nat), (numFrom i acc l).2 = 0 → (numFrom i acc l).1 = 0
  | [], _, _, _ => rfl
  | b :: r, i, acc, h => by
    unfold numFrom at h ⊢
    by_cases h1 : i = 10
    · rw [if_pos h1]
    rw [if_neg h1] at h ⊢
    by_cases h2 : 128 ≤ b.toNat
    · rw [if_pos h2] at h ⊢
      exact numFrom_none r _ _ h
    rw [if_neg h2] at h ⊢
    by_cases h3 : 0 < i ∧ b.toNat = 0
    · rw [if_pos h3]
    rw [if_neg h3] at h ⊢
    by_cases h4 : i = 9 ∧ 1 < b.toNat
    · rw [if_pos h4]
    rw [if_neg h4] at h
    simp at h

theorem numOf_none {l : List UInt8} (h : (numOf l).2 = 0) : (numOf l).1 = 0 := numFrom_none l 0 0 h

theorem numOf_lt (l : List UInt8) : (numOf l).1 < 18446744073709551616 := by
  by_cases h : (numOf l).2 = 0
  · rw [numOf_none h]; omega
  · exact (numOf_back (l := l) rfl h).2.2.2.1

end Go.Proofs.YtmgibkglbddlpaaDoor
