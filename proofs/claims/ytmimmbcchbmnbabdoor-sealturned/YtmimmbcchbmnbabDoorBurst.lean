/-
  Bits turned within 32 next to one another change the sum.
-/
import Derived.Test.YtmimmbcchbmnbabDoorFrm
namespace Go.Proofs.YtmimmbcchbmnbabDoor
open Go.RowKit

/-- One bit out, of a number of any size: what stands above the register comes down into it. -/
def outN (x : Nat) : Nat := (x / 2) ^^^ (if x % 2 = 1 then 3988292384 else 0)
def outsN : Nat → Nat → Nat
  | 0, x => x
  | n + 1, x => outsN n (outN x)
theorem xor_mod2 (a b : Nat) : (a ^^^ b) % 2 = (a % 2) ^^^ (b % 2) := by
  have := @Nat.xor_mod_two_pow a b 1
  simpa using this
theorem xor_div2 (a b : Nat) : (a ^^^ b) / 2 = (a / 2) ^^^ (b / 2) := by
  have := @Nat.xor_div_two_pow a b 1
  simpa using this
theorem xor4 (a b c d : Nat) : (a ^^^ b) ^^^ (c ^^^ d) = (a ^^^ c) ^^^ (b ^^^ d) := by
  rw [Nat.xor_assoc, Nat.xor_assoc]
  congr 1
  rw [← Nat.xor_assoc, ← Nat.xor_assoc, Nat.xor_comm b c]
theorem outN_xor (a b : Nat) : outN (a ^^^ b) = outN a ^^^ outN b := by
  unfold outN
  rw [xor_mod2, xor_div2, xor4]
  congr 1
  rcases Nat.mod_two_eq_zero_or_one a with ha | ha <;> rcases Nat.mod_two_eq_zero_or_one b with hb | hb <;> rw [ha, hb] <;> decide
theorem outN_double (b : Nat) : outN (2 * b) = b := by
  unfold outN
  rw [Nat.mul_div_cancel_left _ (by decide), Nat.mul_mod_right]
  simp
theorem outsN_xor (n a b : Nat) : outsN n (a ^^^ b) = outsN n a ^^^ outsN n b := by
  induction n generalizing a b with
  | zero => rfl
  | succ n ih => rw [outsN, outsN, outsN, outN_xor, ih]
theorem outsN_shift (n b : Nat) : outsN n (2 ^ n * b) = b := by
  induction n generalizing b with
  | zero => simp [outsN]
  | succ n ih => rw [outsN, Nat.pow_succ, Nat.mul_comm (2 ^ n) 2, Nat.mul_assoc, outN_double, ih]
theorem outsN_add (n m x : Nat) : outsN (n + m) x = outsN m (outsN n x) := by
  induction n generalizing x with
  | zero => simp [outsN]
  | succ n ih => rw [Nat.succ_add, outsN, outsN, ih]
theorem outN_bv (x : BitVec 32) : outN x.toNat = (out1 x).toNat := by
  unfold outN out1
  rw [BitVec.toNat_xor, BitVec.toNat_ushiftRight, Nat.shiftRight_eq_div_pow, Nat.pow_one]
  congr 1
  have hb : x.getLsbD 0 = decide (x.toNat % 2 = 1) := by rw [← BitVec.testBit_toNat, Nat.testBit_zero]
  rw [hb]
  by_cases h : x.toNat % 2 = 1
  · simp [h, poly]
  · simp [h]
theorem outsN_bv (n : Nat) (x : BitVec 32) : outsN n x.toNat = (outs n x).toNat := by
  induction n generalizing x with
  | zero => rfl
  | succ n ih => rw [outsN, outN_bv, ih, outs]

/-- Bytes with the bits of a number turned, the lowest first. -/
def xorE : List UInt8 → Nat → List UInt8
  | [], _ => []
  | b :: l, E => (b ^^^ (E % 256).toUInt8) :: xorE l (E / 256)
theorem xorE_length (l : List UInt8) (E : Nat) : (xorE l E).length = l.length := by
  induction l generalizing E with
  | nil => rfl
  | cons b l ih => rw [xorE, List.length_cons, List.length_cons, ih]
theorem xorE_zero (l : List UInt8) : xorE l 0 = l := by
  induction l with
  | nil => rfl
  | cons b l ih =>
    rw [xorE, Nat.zero_div, ih]
    congr 1
    show b ^^^ 0 = b
    simp
/-- What turned bits make of the register. -/
theorem crc_turned (l : List UInt8) (x y : BitVec 32) (E : Nat) (hE : E < 2 ^ (8 * l.length)) : (crcL x (xorE l E) ^^^ crcL y l).toNat = outsN (8 * l.length) ((x ^^^ y).toNat ^^^ E) := by
  induction l generalizing x y E with
  | nil =>
    have : E = 0 := by simpa using hE
    subst this
    simp [xorE, crcL, outsN]
  | cons b l ih =>
    have hE2 : E / 256 < 2 ^ (8 * l.length) := by
      apply Nat.div_lt_of_lt_mul
      rw [List.length_cons, Nat.mul_succ, Nat.pow_add, Nat.mul_comm] at hE
      exact hE
    rw [xorE, crcL_cons, crcL_cons, ih _ _ _ hE2, List.length_cons, Nat.mul_succ, Nat.add_comm (8 * l.length) 8, outsN_add]
    congr 1
    have hsplit : E = (E % 256) ^^^ (2 ^ 8 * (E / 256)) := by
      have h1 : E = 2 ^ 8 * (E / 256) + E % 256 := by omega
      have h2 : E % 256 < 2 ^ 8 := Nat.mod_lt _ (by decide)
      rw [Nat.xor_comm]
      have h3 := Nat.two_pow_add_eq_or_of_lt h2 (E / 256)
      have h4 : 2 ^ 8 * (E / 256) ^^^ E % 256 = 2 ^ 8 * (E / 256) ||| E % 256 := by
        apply Nat.eq_of_testBit_eq
        intro i
        rw [Nat.testBit_xor, Nat.testBit_or, Nat.testBit_two_pow_mul]
        by_cases hi : i < 8
        · simp [Nat.not_le.2 hi]
        · have : (E % 256).testBit i = false := Nat.testBit_lt_two_pow (Nat.lt_of_lt_of_le h2 (Nat.pow_le_pow_right (by decide) (by omega)))
          rw [this]
          simp
      rw [h4, ← h3]
      exact h1
    have hcrc : crc1 x (b ^^^ (E % 256).toUInt8) ^^^ crc1 y b = outs 8 ((x ^^^ y) ^^^ BitVec.ofNat 32 (E % 256)) := by
      unfold crc1
      rw [← outs_xor]
      congr 1
      have h8 : E % 256 < 256 := Nat.mod_lt _ (by decide)
      have hb : BitVec.ofNat 32 (b ^^^ (E % 256).toUInt8).toNat = BitVec.ofNat 32 b.toNat ^^^ BitVec.ofNat 32 (E % 256) := by
        rw [UInt8.toNat_xor, toNat_toU8 h8]
        apply BitVec.eq_of_toNat_eq
        have hbl := b.toNat_lt
        have hx : b.toNat ^^^ E % 256 < 2 ^ 8 := Nat.xor_lt_two_pow hbl h8
        rw [BitVec.toNat_ofNat, BitVec.toNat_xor, BitVec.toNat_ofNat, BitVec.toNat_ofNat, Nat.mod_eq_of_lt (show b.toNat ^^^ E % 256 < 2 ^ 32 from by omega), Nat.mod_eq_of_lt (show b.toNat < 2 ^ 32 from by omega), Nat.mod_eq_of_lt (show E % 256 < 2 ^ 32 from by omega)]
      rw [hb]
      have e : ∀ p q r s : BitVec 32, (p ^^^ (q ^^^ r)) ^^^ (s ^^^ q) = (p ^^^ s) ^^^ r := by
        intro p q r s
        have : (p ^^^ (q ^^^ r)) ^^^ (s ^^^ q) = (p ^^^ s) ^^^ r ^^^ (q ^^^ q) := by ac_rfl
        rw [this, BitVec.xor_self, BitVec.xor_zero]
      exact e _ _ _ _
    rw [hcrc, ← outsN_bv, BitVec.toNat_xor, BitVec.toNat_ofNat, Nat.mod_eq_of_lt (by omega : E % 256 < 2 ^ 32)]
    conv => rhs; rw [hsplit, ← Nat.xor_assoc, outsN_xor, outsN_shift]
/-- At least one bit of 32 next to one another turned: another sum. -/
theorem crc_burst (h l : List UInt8) (T a : Nat) (hT0 : T ≠ 0) (hT : T < 2 ^ 32) (hE : 2 ^ a * T < 2 ^ (8 * l.length)) (ha : a ≤ 8 * l.length) : crc (h ++ xorE l (2 ^ a * T)) ≠ crc (h ++ l) := by
  intro he
  unfold crc at he
  have h1 : crcL 4294967295#32 (h ++ xorE l (2 ^ a * T)) = crcL 4294967295#32 (h ++ l) := by
    have := congrArg (fun v => ~~~ v) he
    simpa using this
  rw [crcL_append, crcL_append] at h1
  have h2 := crc_turned l (crcL 4294967295#32 h) (crcL 4294967295#32 h) (2 ^ a * T) hE
  rw [h1, BitVec.xor_self, BitVec.xor_self] at h2
  have h3 : 8 * l.length = a + (8 * l.length - a) := by omega
  rw [h3, outsN_add] at h2
  have h4 : (0#32).toNat ^^^ (2 ^ a * T) = 2 ^ a * T := by simp
  rw [h4, outsN_shift] at h2
  have h5 : T = (BitVec.ofNat 32 T).toNat := by rw [BitVec.toNat_ofNat, Nat.mod_eq_of_lt hT]
  rw [h5, outsN_bv] at h2
  have h6 : outs (8 * l.length - a) (BitVec.ofNat 32 T) = 0#32 := BitVec.eq_of_toNat_eq h2.symm
  have h7 := outs_zero h6
  rw [h7] at h5
  exact hT0 h5
/-- One bit more turned. -/
theorem xorE_set (l : List UInt8) (E p : Nat) (h : p / 8 < l.length) : xorE l (E ^^^ 2 ^ p) = (xorE l E).set (p / 8) ((xorE l E).getD (p / 8) 0 ^^^ (2 ^ (p % 8)).toUInt8) := by
  induction l generalizing E p with
  | nil => simp at h
  | cons b l ih =>
    rw [xorE, xorE]
    have hm : (E ^^^ 2 ^ p) % 256 = (E % 256) ^^^ (2 ^ p % 256) := @Nat.xor_mod_two_pow E (2 ^ p) 8
    have hd : (E ^^^ 2 ^ p) / 256 = (E / 256) ^^^ (2 ^ p / 256) := @Nat.xor_div_two_pow E (2 ^ p) 8
    by_cases hp : p < 8
    · have h0 : p / 8 = 0 := by omega
      have hlt : 2 ^ p < 256 := by
        have : 2 ^ p < 2 ^ 8 := Nat.pow_lt_pow_right (by decide) hp
        omega
      rw [hm, hd, h0, Nat.mod_eq_of_lt hlt, Nat.div_eq_of_lt hlt, Nat.xor_zero, Nat.mod_eq_of_lt hp, List.set_cons_zero]
      congr 1
      show b ^^^ (E % 256 ^^^ 2 ^ p).toUInt8 = (b ^^^ (E % 256).toUInt8) ^^^ (2 ^ p).toUInt8
      apply UInt8.toNat.inj
      have h8 : E % 256 < 2 ^ 8 := Nat.mod_lt _ (by decide)
      have hx : (E % 256) ^^^ 2 ^ p < 2 ^ 8 := Nat.xor_lt_two_pow h8 hlt
      rw [UInt8.toNat_xor, UInt8.toNat_xor, UInt8.toNat_xor, toNat_toU8 hx, toNat_toU8 (by omega), toNat_toU8 hlt, Nat.xor_assoc]
    · obtain ⟨q, rfl⟩ : ∃ q, p = q + 8 := ⟨p - 8, by omega⟩
      have e1 : 2 ^ (q + 8) % 256 = 0 := by rw [Nat.pow_add]; exact Nat.mul_mod_left _ _
      have e2 : 2 ^ (q + 8) / 256 = 2 ^ q := by rw [Nat.pow_add]; exact Nat.mul_div_cancel _ (by decide)
      have e3 : (q + 8) / 8 = q / 8 + 1 := by omega
      have e4 : (q + 8) % 8 = q % 8 := by omega
      rw [hm, hd, e1, e2, e3, e4, Nat.xor_zero, ih (E / 256) q (by rw [List.length_cons] at h; omega), List.set_cons_succ, List.getD_cons_succ]
/-- A frame whose body is turned. -/
theorem opn_turned (l : List UInt8) (hl : l.length ≤ 1048576) (E : Nat) (h : crc (be4 l.length ++ xorE l E) ≠ crc (be4 l.length ++ l)) : opn (be4 l.length ++ (le4 (crc (be4 l.length ++ l)).toNat ++ xorE l E)) = none := by
  have hr : rd4 (l.length / 16777216 % 256).toUInt8 (l.length / 65536 % 256).toUInt8 (l.length / 256 % 256).toUInt8 (l.length % 256).toUInt8 = l.length := rd4_be4 (by omega)
  show opn ((l.length / 16777216 % 256).toUInt8 :: (l.length / 65536 % 256).toUInt8 :: (l.length / 256 % 256).toUInt8 :: (l.length % 256).toUInt8 :: _ :: _ :: _ :: _ :: xorE l E) = _
  rw [opn_eq, hr, List.take_of_length_le (by rw [xorE_length]; omega)]
  refine if_neg fun hh => h ?_
  have h2 : le4 (crc (be4 l.length ++ xorE l E)).toNat = le4 (crc (be4 l.length ++ l)).toNat := hh.2.2
  exact BitVec.eq_of_toNat_eq (le4_inj (crc (be4 l.length ++ xorE l E)).isLt (crc (be4 l.length ++ l)).isLt h2)

end Go.Proofs.YtmimmbcchbmnbabDoor
