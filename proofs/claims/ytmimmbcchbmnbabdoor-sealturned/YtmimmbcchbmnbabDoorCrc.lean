/-
  The sum of seal as a function on lists of bytes: bit by bit, byte by byte by two tables of 16 words; that it is linear, and that bits turned within 32 next to one another change it.
-/
import Derived.WalkKit
namespace Go.Proofs.YtmimmbcchbmnbabDoor
open Go.RowKit

/-- The register's polynomial. -/
def poly : BitVec 32 := 0xEDB88320#32
/-- One bit out of the register. -/
def out1 (x : BitVec 32) : BitVec 32 := (x >>> 1) ^^^ (if x.getLsbD 0 then poly else 0#32)
/-- n bits out. -/
def outs : Nat → BitVec 32 → BitVec 32
  | 0, x => x
  | n + 1, x => outs n (out1 x)

theorem out1_xor (x y : BitVec 32) : out1 (x ^^^ y) = out1 x ^^^ out1 y := by
  unfold out1
  rw [BitVec.ushiftRight_xor_distrib, BitVec.getLsbD_xor]
  cases x.getLsbD 0 <;> cases y.getLsbD 0
  · simp
  · simp only [Bool.false_xor, if_true, Bool.false_eq_true, if_false]
    ac_rfl
  · simp only [Bool.xor_false, if_true, Bool.false_eq_true, if_false]
    ac_rfl
  · simp only [Bool.xor_self, if_true, Bool.false_eq_true, if_false]
    have : x >>> 1 ^^^ poly ^^^ (y >>> 1 ^^^ poly) = x >>> 1 ^^^ y >>> 1 ^^^ (poly ^^^ poly) := by ac_rfl
    rw [this, BitVec.xor_self]
theorem outs_xor (n : Nat) (x y : BitVec 32) : outs n (x ^^^ y) = outs n x ^^^ outs n y := by
  induction n generalizing x y with
  | zero => rfl
  | succ n ih => rw [outs, outs, outs, out1_xor, ih]
theorem outs_add (n m : Nat) (x : BitVec 32) : outs (n + m) x = outs m (outs n x) := by
  induction n generalizing x with
  | zero => simp [outs]
  | succ n ih => rw [Nat.succ_add, outs, outs, ih]

/-- No register but 0 becomes 0. -/
theorem out1_zero {x : BitVec 32} (h : out1 x = 0#32) : x = 0#32 := by
  unfold out1 at h
  have h31 : (x >>> 1 ^^^ (if x.getLsbD 0 then poly else 0#32)).getLsbD 31 = false := by rw [h]; simp
  rw [BitVec.getLsbD_xor, BitVec.getLsbD_ushiftRight] at h31
  cases h0 : x.getLsbD 0
  · rw [h0] at h
    simp only [Bool.false_eq_true, if_false, BitVec.xor_zero] at h
    apply BitVec.eq_of_getLsbD_eq
    intro i hi
    rw [BitVec.getLsbD_zero]
    cases i with
    | zero => exact h0
    | succ i =>
      have := congrArg (fun y => y.getLsbD i) h
      simp only [BitVec.getLsbD_ushiftRight, BitVec.getLsbD_zero] at this
      rw [Nat.add_comm]
      exact this
  · rw [h0] at h31
    have hx : x.getLsbD (1 + 31) = false := BitVec.getLsbD_of_ge _ _ (by decide)
    rw [hx] at h31
    exact absurd h31 (by decide)
theorem outs_zero {n : Nat} {x : BitVec 32} (h : outs n x = 0#32) : x = 0#32 := by
  induction n generalizing x with
  | zero => exact h
  | succ n ih => exact out1_zero (ih h)
theorem outs_zero_zero (n : Nat) : outs n 0#32 = 0#32 := by
  induction n with
  | zero => rfl
  | succ n ih => rw [outs]; exact ih
theorem outs_inj {n : Nat} {x y : BitVec 32} (h : outs n x = outs n y) : x = y := by
  have h2 : outs n (x ^^^ y) = 0#32 := by rw [outs_xor, h, BitVec.xor_self]
  have h3 := outs_zero h2
  have h4 : x ^^^ y ^^^ y = 0#32 ^^^ y := by rw [h3]
  rw [BitVec.xor_assoc, BitVec.xor_self, BitVec.xor_zero, BitVec.zero_xor] at h4
  exact h4

/-- A register takes a byte. -/
def crc1 (x : BitVec 32) (b : UInt8) : BitVec 32 := outs 8 (x ^^^ BitVec.ofNat 32 b.toNat)
/-- A register takes bytes. -/
def crcL (x : BitVec 32) (l : List UInt8) : BitVec 32 := l.foldl crc1 x
theorem crcL_append (x : BitVec 32) (a b : List UInt8) : crcL x (a ++ b) = crcL (crcL x a) b := List.foldl_append
theorem crcL_nil (x : BitVec 32) : crcL x [] = x := rfl
theorem crcL_cons (x : BitVec 32) (b : UInt8) (l : List UInt8) : crcL x (b :: l) = crcL (crc1 x b) l := rfl
/-- The sum. -/
def crc (l : List UInt8) : BitVec 32 := ~~~ crcL 4294967295#32 l

/-- The two tables. -/
def lowT : List Int := [0, 1996959894, 3993919788, 2567524794, 124634137, 1886057615, 3915621685, 2657392035, 249268274, 2044508324, 3772115230, 2547177864, 162941995, 2125561021, 3887607047, 2428444049]
def highT : List Int := [0, 498536548, 997073096, 651767980, 1994146192, 1802195444, 1303535960, 1342533948, 3988292384, 4027552580, 3604390888, 3412177804, 2607071920, 2262029012, 2685067896, 3183342108]
def lowB (i : Nat) : BitVec 32 := BitVec.ofInt 32 (lowT.getD i 0)
def highB (i : Nat) : BitVec 32 := BitVec.ofInt 32 (highT.getD i 0)

set_option maxRecDepth 100000 in
theorem tables_all : ∀ i : Fin 256, outs 8 (BitVec.ofNat 32 i.val) = lowB (i.val % 16) ^^^ highB (i.val / 16) := by decide +kernel

/-- Eight bits out of a register whose lowest eight are none: it is shifted. -/
theorem outs8_high {x : BitVec 32} (h : ∀ i, i < 8 → x.getLsbD i = false) : outs 8 x = x >>> 8 := by
  have one : ∀ (y : BitVec 32), y.getLsbD 0 = false → out1 y = y >>> 1 := by
    intro y hy
    unfold out1
    rw [hy]
    simp
  have step : ∀ (k : Nat) (y : BitVec 32), (∀ i, i < k → y.getLsbD i = false) → outs k y = y >>> k := by
    intro k
    induction k with
    | zero => intro y _; simp [outs]
    | succ k ih =>
      intro y hy
      rw [outs, one y (hy 0 (by omega)), ih (y >>> 1) (fun i hi => by rw [BitVec.getLsbD_ushiftRight]; exact hy _ (by omega)), ← BitVec.shiftRight_add, Nat.add_comm]
  exact step 8 x h

/-- A byte by the tables. -/
theorem crc1_tables (x : BitVec 32) (b : UInt8) (o : Nat) (ho : o = (x.toNat ^^^ b.toNat) % 256) : crc1 x b = x >>> 8 ^^^ lowB (o % 16) ^^^ highB (o / 16) := by
  have hb := b.toNat_lt
  have ho256 : o < 256 := by omega
  have hlow : BitVec.ofNat 32 o = (x ^^^ BitVec.ofNat 32 b.toNat) &&& 255#32 := by
    apply BitVec.eq_of_toNat_eq
    rw [BitVec.toNat_ofNat, BitVec.toNat_and, BitVec.toNat_xor, BitVec.toNat_ofNat, Nat.mod_eq_of_lt (by omega : o < 2 ^ 32), Nat.mod_eq_of_lt (by omega : b.toNat < 2 ^ 32)]
    have : (255#32).toNat = 2 ^ 8 - 1 := by decide
    rw [this, Nat.and_two_pow_sub_one_eq_mod, ho]
  have hsplit : x ^^^ BitVec.ofNat 32 b.toNat = (x &&& 4294967040#32) ^^^ BitVec.ofNat 32 o := by
    apply BitVec.eq_of_getLsbD_eq
    intro i hi
    rw [hlow]
    simp only [BitVec.getLsbD_xor, BitVec.getLsbD_and]
    have h1 : ∀ j : Fin 32, (4294967040#32).getLsbD j.val = decide (8 ≤ j.val) := by decide
    have h2 : ∀ j : Fin 32, (255#32).getLsbD j.val = decide (j.val < 8) := by decide
    rw [h1 ⟨i, hi⟩, h2 ⟨i, hi⟩]
    by_cases h8 : i < 8
    · simp [h8, Nat.not_le.2 h8]
    · have hz : (BitVec.ofNat 32 b.toNat).getLsbD i = false := by
        rw [BitVec.getLsbD_ofNat]
        have : b.toNat.testBit i = false := Nat.testBit_lt_two_pow (Nat.lt_of_lt_of_le hb (by exact Nat.pow_le_pow_right (by decide) (by omega : 8 ≤ i)))
        simp [this]
      simp [h8, Nat.not_lt.1 h8, hz]
  unfold crc1
  rw [hsplit, outs_xor, tables_all ⟨o, ho256⟩, outs8_high]
  · have : (x &&& 4294967040#32) >>> 8 = x >>> 8 := by
      apply BitVec.eq_of_getLsbD_eq
      intro i hi
      simp only [BitVec.getLsbD_ushiftRight, BitVec.getLsbD_and]
      have h1 : ∀ j : Fin 32, (4294967040#32).getLsbD j.val = decide (8 ≤ j.val) := by decide
      by_cases h24 : 8 + i < 32
      · rw [h1 ⟨8 + i, h24⟩]
        simp
      · rw [BitVec.getLsbD_of_ge x (8 + i) (by omega)]
        simp
    rw [this, BitVec.xor_assoc]
  · intro i hi
    rw [BitVec.getLsbD_and]
    have h1 : ∀ j : Fin 32, (4294967040#32).getLsbD j.val = decide (8 ≤ j.val) := by decide
    rw [h1 ⟨i, by omega⟩]
    simp [Nat.not_le.2 hi]

end Go.Proofs.YtmimmbcchbmnbabDoor
