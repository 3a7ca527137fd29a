/-
  The sum of seal as a function on lists of bytes: bit by bit, byte by byte by two tables of 16 words; that it is linear, and that bits turned within 32 next to one another change it.
  The two tables of seal, as the walks see them; and the contract of seal.Sum: whatever parts it is handed, the sum of them all, one behind the other; nothing turns.
  The contracts of seal's small functions: layLength, laySum, readLength; and of Sum of nothing.
  Frames as lists of bytes; the contracts of seal.Frame, seal.first, seal.Open.
  The contracts of seal.first and seal.Open.
  The frames of a row of bytes, as lists; the contract of seal.Scan: it goes through them by goto, and hands over a new list of their bodies.
  Rows of frames, as lists: what is found in a row that is cut anywhere, or that has bytes 0 behind it.
-/
import Derived.WalkKit
import Derived.Test.YtpldfakfgngaaaaGreatDoorAid
import Derived.BigQuiet
import Derived.Laws.BitsAllLaws
import Derived.Test.YtpldfakfgngaaaaGreatDoorShelf
import Derived.RegionTactic
import Derived.Lib.QuietBelow
import Derived.Deep.RegionHeld3
import Derived.WalkMore
import Derived.ScopeJumps
import Derived.Laws.AppendOwn
namespace Go.Proofs.YtpldfakfgngaaaaGreatDoor
open Go.RowKit

/-- The register's polynomial. -/
def poly : BitVec 32 := 0xEDB88320#32
/-- One bit out of the register. -/
def out1 (x : BitVec 32) : BitVec 32 := (x >>> 1) ^^^ (if x.getLsbD 0 then poly else 0#32)
/-- n bits out. -/
def outs : Nat → BitVec 32 → BitVec 32
  | 0, x => x
  | n + 1, x => outs n (out1 x)

theorem out1_xor (x y : BitVec 32) : out1 (x ^^^ y) = out1 x ^^^ out1 y := by
  unfold out1
  rw [BitVec.ushiftRight_xor_distrib, BitVec.getLsbD_xor]
  cases x.getLsbD 0 <;> cases y.getLsbD 0
  · simp
  · simp only [Bool.false_xor, if_true, Bool.false_eq_true, if_false]
    ac_rfl
  · simp only [Bool.xor_false, if_true, Bool.false_eq_true, if_false]
    ac_rfl
  · simp only [Bool.xor_self, if_true, Bool.false_eq_true, if_false]
    have : x >>> 1 ^^^ poly ^^^ (y >>> 1 ^^^ poly) = x >>> 1 ^^^ y >>> 1 ^^^ (poly ^^^ poly) := by ac_rfl
    rw [this, BitVec.xor_self]
theorem outs_xor (n : Nat) (x y : BitVec 32) : outs n (x ^^^ y) = outs n x ^^^ outs n y := by
  induction n generalizing x y with
  | zero => rfl
  | succ n ih => rw [outs, outs, outs, out1_xor, ih]
theorem outs_add (n m : Nat) (x : BitVec 32) : outs (n + m) x = outs m (outs n x) := by
  induction n generalizing x with
  | zero => simp [outs]
  | succ n ih => rw [Nat.succ_add, outs, outs, ih]

/-- No register but 0 becomes 0. -/
theorem out1_zero {x : BitVec 32} (h : out1 x = 0#32) : x = 0#32 := by
  unfold out1 at h
  have h31 : (x >>> 1 ^^^ (if x.getLsbD 0 then poly else 0#32)).getLsbD 31 = false := by rw [h]; simp
  rw [BitVec.getLsbD_xor, BitVec.getLsbD_ushiftRight] at h31
  cases h0 : x.getLsbD 0
  · rw [h0] at h
    simp only [Bool.false_eq_true, if_false, BitVec.xor_zero] at h
    apply BitVec.eq_of_getLsbD_eq
    intro i hi
    rw [BitVec.getLsbD_zero]
    cases i with
    | zero => exact h0
    | succ i =>
      have := congrArg (fun y => y.getLsbD i) h
      simp only [BitVec.getLsbD_ushiftRight, BitVec.getLsbD_zero] at this
      rw [Nat.add_comm]
      exact this
  · rw [h0] at h31
    have hx : x.getLsbD (1 + 31) = false := BitVec.getLsbD_of_ge _ _ (by decide)
    rw [hx] at h31
    exact absurd h31 (by decide)
theorem outs_zero {n : Nat} {x : BitVec 32} (h : outs n x = 0#32) : x = 0#32 := by
  induction n generalizing x with
  | zero => exact h
  | succ n ih => exact out1_zero (ih h)
theorem outs_zero_zero (n : Nat) : outs n 0#32 = 0#32 := by
  induction n with
  | zero => rfl
  | succ n ih => rw [outs]; exact ih
theorem outs_inj {n : Nat} {x y : BitVec 32} (h : outs n x = outs n y) : x = y := by
  have h2 : outs n (x ^^^ y) = 0#32 := by rw [outs_xor, h, BitVec.xor_self]
  have h3 := outs_zero h2
  have h4 : x ^^^ y ^^^ y = 0#32 ^^^ y := by rw [h3]
  rw [BitVec.xor_assoc, BitVec.xor_self, BitVec.xor_zero, BitVec.zero_xor] at h4
  exact h4

/-- A register takes a byte. -/
def crc1 (x : BitVec 32) (b : UInt8) : BitVec 32 := outs 8 (x ^^^ BitVec.ofNat 32 b.toNat)
/-- A register takes bytes. -/
def crcL (x : BitVec 32) (l : List UInt8) : BitVec 32 := l.foldl crc1 x
theorem crcL_append (x : BitVec 32) (a b : List UInt8) : crcL x (a ++ b) = crcL (crcL x a) b := List.foldl_append
theorem crcL_nil (x : BitVec 32) : crcL x [] = x := rfl
theorem crcL_cons (x : BitVec 32) (b : UInt8) (l : List UInt8) : crcL x (b :: l) = crcL (crc1 x b) l := rfl
/-- The sum. -/
def crc (l : List UInt8) : BitVec 32 := ~~~ crcL 4294967295#32 l

/-- The two tables. -/
def lowT : List Int := [0, 1996959894, 3993919788, 2567524794, 124634137, 1886057615, 3915621685, 2657392035, 249268274, 2044508324, 3772115230, 2547177864, 162941995, 2125561021, 3887607047, 2428444049]
def highT : List Int := [0, 498536548, 997073096, 651767980, 1994146192, 1802195444, 1303535960, 1342533948, 3988292384, 4027552580, 3604390888, 3412177804, 2607071920, 2262029012, 2685067896, 3183342108]
def lowB (i : Nat) : BitVec 32 := BitVec.ofInt 32 (lowT.getD i 0)
def highB (i : Nat) : BitVec 32 := BitVec.ofInt 32 (highT.getD i 0)

set_option maxRecDepth 100000 in
theorem tables_all : ∀ i : Fin 256, outs 8 (BitVec.ofNat 32 i.val) = lowB (i.val % 16) ^^^ highB (i.val / 16) := by decide +kernel

/-- Eight bits out of a register whose lowest eight are none: it is shifted. -/
theorem outs8_high {x : BitVec 32} (h : ∀ i, i < 8 → x.getLsbD i = false) : outs 8 x = x >>> 8 := by
  have one : ∀ (y : BitVec 32), y.getLsbD 0 = false → out1 y = y >>> 1 := by
    intro y hy
    unfold out1
    rw [hy]
    simp
  have step : ∀ (k : Nat) (y : BitVec 32), (∀ i, i < k → y.getLsbD i = false) → outs k y = y >>> k := by
    intro k
    induction k with
    | zero => intro y _; simp [outs]
    | succ k ih =>
      intro y hy
      rw [outs, one y (hy 0 (by omega)), ih (y >>> 1) (fun i hi => by rw [BitVec.getLsbD_ushiftRight]; exact hy _ (by omega)), ← BitVec.shiftRight_add, Nat.add_comm]
  exact step 8 x h

/-- A byte by the tables. -/
theorem crc1_tables (x : BitVec 32) (b : UInt8) (o : Nat) (ho : o = (x.toNat ^^^ b.toNat) % 256) : crc1 x b = x >>> 8 ^^^ lowB (o % 16) ^^^ highB (o / 16) := by
  have hb := b.toNat_lt
  have ho256 : o < 256 := by omega
  have hlow : BitVec.ofNat 32 o = (x ^^^ BitVec.ofNat 32 b.toNat) &&& 255#32 := by
    apply BitVec.eq_of_toNat_eq
    rw [BitVec.toNat_ofNat, BitVec.toNat_and, BitVec.toNat_xor, BitVec.toNat_ofNat, Nat.mod_eq_of_lt (by omega : o < 2 ^ 32), Nat.mod_eq_of_lt (by omega : b.toNat < 2 ^ 32)]
    have : (255#32).toNat = 2 ^ 8 - 1 := by decide
    rw [this, Nat.and_two_pow_sub_one_eq_mod, ho]
  have hsplit : x ^^^ BitVec.ofNat 32 b.toNat = (x &&& 4294967040#32) ^^^ BitVec.ofNat 32 o := by
    apply BitVec.eq_of_getLsbD_eq
    intro i hi
    rw [hlow]
    simp only [BitVec.getLsbD_xor, BitVec.getLsbD_and]
    have h1 : ∀ j : Fin 32, (4294967040#32).getLsbD j.val = decide (8 ≤ j.val) := by decide
    have h2 : ∀ j : Fin 32, (255#32).getLsbD j.val = decide (j.val < 8) := by decide
    rw [h1 ⟨i, hi⟩, h2 ⟨i, hi⟩]
    by_cases h8 : i < 8
    · simp [h8, Nat.not_le.2 h8]
    · have hz : (BitVec.ofNat 32 b.toNat).getLsbD i = false := by
        rw [BitVec.getLsbD_ofNat]
        have : b.toNat.testBit i = false := Nat.testBit_lt_two_pow (Nat.lt_of_lt_of_le hb (by exact Nat.pow_le_pow_right (by decide) (by omega : 8 ≤ i)))
        simp [this]
      simp [h8, Nat.not_lt.1 h8, hz]
  unfold crc1
  rw [hsplit, outs_xor, tables_all ⟨o, ho256⟩, outs8_high]
  · have : (x &&& 4294967040#32) >>> 8 = x >>> 8 := by
      apply BitVec.eq_of_getLsbD_eq
      intro i hi
      simp only [BitVec.getLsbD_ushiftRight, BitVec.getLsbD_and]
      have h1 : ∀ j : Fin 32, (4294967040#32).getLsbD j.val = decide (8 ≤ j.val) := by decide
      by_cases h24 : 8 + i < 32
      · rw [h1 ⟨8 + i, h24⟩]
        simp
      · rw [BitVec.getLsbD_of_ge x (8 + i) (by omega)]
        simp
    rw [this, BitVec.xor_assoc]
  · intro i hi
    rw [BitVec.getLsbD_and]
    have h1 : ∀ j : Fin 32, (4294967040#32).getLsbD j.val = decide (8 ≤ j.val) := by decide
    rw [h1 ⟨i, by omega⟩]
    simp [Nat.not_le.2 hi]

end Go.Proofs.YtpldfakfgngaaaaGreatDoor

namespace Go.Proofs.YtpldfakfgngaaaaGreatDoor
open Go.RowKit
attribute [local go_sem] size_bstr getElem_bstr toList_bstr append_bstr

/-- The two tables lie where the program's start laid them. -/
def Tabs (w : World) : Prop :=
  2 ≤ w.heap.size ∧ (∀ i : Nat, i < 16 → w.cell? ⟨0, i, none⟩ = some (.int .u32 ((lowB i).toNat : Int))) ∧ (∀ i : Nat, i < 16 → w.cell? ⟨1, i, none⟩ = some (.int .u32 ((highB i).toNat : Int)))
theorem Tabs.below {w w' : World} (h : Tabs w) (b : Below w.heap.size w w') : Tabs w' := by
  have h2 := h.1
  refine ⟨Nat.le_trans h2 b.size, fun i hi => ?_, fun i hi => ?_⟩
  · rw [(bcell b).1 0 i (by omega)]; exact h.2.1 i hi
  · rw [(bcell b).1 1 i (by omega)]; exact h.2.2 i hi

/-- A list of strings stands from a place on. -/
def StrsAt (w : World) (g off : Nat) (ps : List (List UInt8)) : Prop := ∀ (j : Nat) (h : j < ps.length), w.cell? ⟨g, off + j, none⟩ = some (.string (bstr ps[j]))

theorem u32_xor_bv (a b : BitVec 32) : bits .xor .u32 (a.toNat : Int) (b.toNat : Int) = ((a ^^^ b).toNat : Int) := by
  rw [u32_xor_nat _ _ a.isLt b.isLt, BitVec.toNat_xor]
theorem u32_shr8 (a : BitVec 32) : (a.toNat : Int) / (256 : Int) = ((a >>> 8).toNat : Int) := by
  rw [BitVec.toNat_ushiftRight, Nat.shiftRight_eq_div_pow]
  omega
theorem u32_not (a : BitVec 32) : bits .xor .u32 4294967295 (a.toNat : Int) = ((~~~ a).toNat : Int) := by
  have h := u32_xor_bv (BitVec.allOnes 32) a
  rw [BitVec.allOnes_xor] at h
  exact h
theorem take_flatten {ps : List (List UInt8)} {j : Nat} (h : j < ps.length) : (ps.take (j + 1)).flatten = (ps.take j).flatten ++ ps[j] := by
  rw [List.take_succ_eq_append_getElem h, List.flatten_append]
  simp
theorem ret_u32 {a b : BitVec 32} (h : a = b) : Ending.returned (.int .u32 (a.toNat : Int)) = .returned (.int .u32 (b.toNat : Int)) := by rw [h]

set_option maxHeartbeats 1000000 in
set_option maxRecDepth 100000 in
theorem Sum_any (g off cap : Nat) (ps : List (List UInt8)) (w : World) (ht : Tabs w) (hs : StrsAt w g off ps) (hlen : ps.length ≤ 1000000) (hl : ∀ p ∈ ps, p.length ≤ 9223372036854775807) :
    Calls Tryz.prog 87 #[.slice (some ⟨g, off, none⟩) ps.length cap] w fun e w' => e = .returned (.int .u32 ((crc ps.flatten).toNat : Int)) ∧ Below w.heap.size w w' := by
  go_enter Tryz.func87, Tryz.ntmps87
  go_wp2
  go_loopw [3, 10] (fun vr vj wr => ∃ j : Nat, vj = .int .i64 j ∧ j ≤ ps.length ∧ vr = .int .u32 ((crcL 4294967295#32 (ps.take j).flatten).toNat : Int) ∧ Tabs wr ∧ StrsAt wr g off ps ∧ Below w.heap.size w wr) (fun _ vj _ => ps.length - (intOf vj).toNat)
  case atStart => exact ⟨0, rfl, Nat.zero_le _, rfl, ht, hs, Below.refl _ _⟩
  case round =>
    obtain ⟨j, rfl, hj, rfl, hto, hso, hbo⟩ := hrel
    obtain ⟨wo, rfl⟩ : ∃ wo, wr = wo := ⟨_, rfl⟩
    clear ht hs
    have hc : j < ps.length → wr.cell? ⟨g, off + j, none⟩ = some (.string (bstr (ps.getD j []))) := fun h => by
      have := hso j h
      rw [List.getD_eq_getElem?_getD, List.getElem?_eq_getElem h]
      exact this
    have HSO : Hid (StrsAt wr g off ps) := hso
    clear hso
    go_wp2
    · have hlt : j < ps.length := by assumption
      have hpl : ps[j].length ≤ 9223372036854775807 := hl _ (List.getElem_mem hlt)
      obtain ⟨p, hp⟩ : ∃ p, p = ps[j] := ⟨_, rfl⟩
      obtain ⟨r0, hr0⟩ : ∃ r0, r0 = crcL 4294967295#32 (ps.take j).flatten := ⟨_, rfl⟩
      rw [← hp] at hpl
      rw [← hr0, ← hp]
      have HP : Hid (p = ps[j]) := hp
      have HR0 : Hid (r0 = crcL 4294967295#32 (ps.take j).flatten) := hr0
      clear hp hr0 hc hl
      obtain ⟨wp, hwp⟩ : ∃ wp, wp = wr := ⟨_, rfl⟩
      rw [← hwp]
      rw [← hwp] at hto hbo HSO
      clear hwp
      go_loopw [3, 16] (fun vr vk wx => ∃ k : Nat, vk = .int .i64 k ∧ k ≤ p.length ∧ vr = .int .u32 ((crcL r0 (p.take k)).toNat : Int) ∧ Tabs wx ∧ Hid (StrsAt wx g off ps) ∧ Below w.heap.size w wx) (fun _ vk _ => p.length - (intOf vk).toNat)
      case atStart => exact ⟨0, rfl, Nat.zero_le _, rfl, hto, HSO, hbo⟩
      case round =>
        obtain ⟨k, rfl, hk, rfl, htx, hsx, hbx⟩ := hrel
        obtain ⟨r, hr⟩ : ∃ r, r = crcL r0 (p.take k) := ⟨_, rfl⟩
        have HR : Hid (r = crcL r0 (p.take k)) := hr
        rw [← hr]
        clear hr
        by_cases hkl : k < p.length
        · obtain ⟨b, hb⟩ : ∃ b, b = p[k] := ⟨_, rfl⟩
          have HB : Hid (b = p[k]) := hb
          clear hb
          obtain ⟨o, ho⟩ : ∃ o, o = (r.toNat ^^^ b.toNat) % 256 := ⟨_, rfl⟩
          have HO : Hid (o = (r.toNat ^^^ b.toNat) % 256) := ho
          have hbl := b.toNat_lt
          have ho256 : o < 256 := by omega
          have hxor : bits .xor .u8 ((r.toNat : Int) % 256) (p[k].toNat : Int) = (o : Int) := by
            rw [← HB.out, show ((r.toNat : Int) % 256) = ((r.toNat % 256 : Nat) : Int) from by omega, u8_xor_nat _ _ (by omega) hbl, ho]
            have h8 := @Nat.xor_mod_two_pow r.toNat b.toNat 8
            rw [show (2 : Nat) ^ 8 = 256 from rfl, Nat.mod_eq_of_lt hbl] at h8
            rw [h8]
          have hand : bits .and .u8 (o : Int) 15 = (o : Int) % 16 := u8_and15 _ (by omega) (by omega)
          have hc0 : wr.cell? ⟨0, o % 16, none⟩ = some (.int .u32 ((lowB (o % 16)).toNat : Int)) := htx.2.1 _ (by omega)
          have hc1 : wr.cell? ⟨1, o / 16, none⟩ = some (.int .u32 ((highB (o / 16)).toNat : Int)) := htx.2.2 _ (by omega)
          clear ho
          go_wp2
          go_quiet (fail)
          rw [u32_shr8, u32_xor_bv, u32_xor_bv]
          go_wp2
          go_roundw
          case rel =>
            refine ⟨k + 1, by go_num, by omega, ?_, htx, hsx, below_drewN hbx _⟩
            rw [List.take_succ_eq_append_getElem hkl, crcL_append, ← HR.out, crcL_cons, crcL_nil, crc1_tables r p[k] o (by rw [HO.out, HB.out])]
          case measure => simp [intOf]; omega
        · have hke : k = p.length := by omega
          subst hke
          rw [List.take_length] at HR
          go_wp2
          go_roundw
          case rel =>
            refine ⟨j + 1, by go_num, by omega, ?_, htx, hsx.out, hbx⟩
            rw [take_flatten hlt, crcL_append, ← HR0.out, ← HP.out, ← HR.out]
          case measure => simp [intOf]; omega
    · have hje : j = ps.length := by omega
      subst hje
      go_ret
      refine ⟨?_, hbo⟩
      rw [List.take_length]
      unfold crc
      rw [← u32_not]
      rfl

end Go.Proofs.YtpldfakfgngaaaaGreatDoor

namespace Go.Proofs.YtpldfakfgngaaaaGreatDoor
open Go.RowKit
attribute [local go_sem] size_bstr getElem_bstr toList_bstr append_bstr

/-- A number in four bytes, the highest first; the lowest first. -/
def be4 (n : Nat) : List UInt8 := [(n / 16777216 % 256).toUInt8, (n / 65536 % 256).toUInt8, (n / 256 % 256).toUInt8, (n % 256).toUInt8]
def le4 (n : Nat) : List UInt8 := [(n % 256).toUInt8, (n / 256 % 256).toUInt8, (n / 65536 % 256).toUInt8, (n / 16777216 % 256).toUInt8]
theorem be4_length (n : Nat) : (be4 n).length = 4 := rfl
theorem le4_length (n : Nat) : (le4 n).length = 4 := rfl
theorem toNat_toU8 {n : Nat} (h : n < 256) : n.toUInt8.toNat = n := by simp [Nat.toUInt8]; omega
/-- What four bytes say. -/
def rd4 (a b c d : UInt8) : Nat := a.toNat * 16777216 + b.toNat * 65536 + c.toNat * 256 + d.toNat
theorem rd4_lt (a b c d : UInt8) : rd4 a b c d < 4294967296 := by
  have := a.toNat_lt; have := b.toNat_lt; have := c.toNat_lt; have := d.toNat_lt
  unfold rd4; omega
theorem u8_eq {n : Nat} {a : UInt8} (h : n = a.toNat) : n.toUInt8 = a := by
  subst h
  simp
theorem be4_rd4 (a b c d : UInt8) : be4 (rd4 a b c d) = [a, b, c, d] := by
  have := a.toNat_lt; have := b.toNat_lt; have := c.toNat_lt; have := d.toNat_lt
  unfold be4 rd4
  rw [u8_eq (a := a) (by omega), u8_eq (a := b) (by omega), u8_eq (a := c) (by omega), u8_eq (a := d) (by omega)]
theorem rd4_be4 {n : Nat} (h : n < 4294967296) : rd4 (n / 16777216 % 256).toUInt8 (n / 65536 % 256).toUInt8 (n / 256 % 256).toUInt8 (n % 256).toUInt8 = n := by
  unfold rd4
  rw [toNat_toU8 (by omega), toNat_toU8 (by omega), toNat_toU8 (by omega), toNat_toU8 (by omega)]
  omega
theorem le4_inj {n m : Nat} (hn : n < 4294967296) (hm : m < 4294967296) (h : le4 n = le4 m) : n = m := by
  unfold le4 at h
  simp only [List.cons.injEq, and_true] at h
  obtain ⟨h1, h2, h3, h4⟩ := h
  have g1 := congrArg UInt8.toNat h1
  have g2 := congrArg UInt8.toNat h2
  have g3 := congrArg UInt8.toNat h3
  have g4 := congrArg UInt8.toNat h4
  rw [toNat_toU8 (by omega), toNat_toU8 (by omega)] at g1 g2 g3 g4
  omega

/-- 'string([]byte{a, b, c, d})'. -/
theorem run_convert_four (W : World) (a b c d : Nat) (ha : a < 256) (hb : b < 256) (hc : c < 256) (hd : d < 256) :
    (convert 73 9 (.slice (some ⟨W.heap.size, 0, none⟩) 4 4)).run Tryz.prog (W.alloc (.cells #[.int .u8 (a : Int), .int .u8 (b : Int), .int .u8 (c : Int), .int .u8 (d : Int)] 5)) =
      .ok (.string (bstr [a.toUInt8, b.toUInt8, c.toUInt8, d.toUInt8])) (W.alloc (.cells #[.int .u8 (a : Int), .int .u8 (b : Int), .int .u8 (c : Int), .int .u8 (d : Int)] 5)) := by
  have hown : (W.alloc (.cells #[.int .u8 (a : Int), .int .u8 (b : Int), .int .u8 (c : Int), .int .u8 (d : Int)] 5)).ownsRow W.heap.size 5 1 (.slice (some ⟨W.heap.size, 0, none⟩) 4 4) 4 (Lib.byteCells [a.toUInt8, b.toUInt8, c.toUInt8, d.toUInt8]) := by
    have h := World.ownsRow_lit (base := W.heap.size) (e := 5) (size := 1) W #[.int .u8 (a : Int), .int .u8 (b : Int), .int .u8 (c : Int), .int .u8 (d : Int)] 4 (Nat.le_refl _) (by decide) (by simp)
    have e : Lib.byteCells [a.toUInt8, b.toUInt8, c.toUInt8, d.toUInt8] = [.int .u8 (a : Int), .int .u8 (b : Int), .int .u8 (c : Int), .int .u8 (d : Int)] := by
      simp only [Lib.byteCells, List.map_cons, List.map_nil, toNat_toU8 ha, toNat_toU8 hb, toNat_toU8 hc, toNat_toU8 hd]
    rw [e]
    exact h
  exact run_convert_own hown Tryz.underlying73 Tryz.underlying5 Tryz.underlying9

set_option maxHeartbeats 400000 in
theorem layLength_any (n : Nat) (w : World) (hn : n < 4294967296) :
    Calls Tryz.prog 85 #[.int .u32 n] w fun e w' => e = .returned (.string (bstr (be4 n))) ∧ Below w.heap.size w w' := by
  have hcv : ∀ W : World, (convert 73 9 (.slice (some ⟨W.heap.size, 0, none⟩) 4 4)).run Tryz.prog (W.alloc (.cells #[.int .u8 ((n : Int) / 16777216), .int .u8 ((n : Int) / 65536 % 256), .int .u8 ((n : Int) / 256 % 256), .int .u8 ((n : Int) % 256)] 5)) =
      .ok (.string (bstr (be4 n))) (W.alloc (.cells #[.int .u8 ((n : Int) / 16777216), .int .u8 ((n : Int) / 65536 % 256), .int .u8 ((n : Int) / 256 % 256), .int .u8 ((n : Int) % 256)] 5)) := by
    intro W
    have := run_convert_four W (n / 16777216 % 256) (n / 65536 % 256) (n / 256 % 256) (n % 256) (by omega) (by omega) (by omega) (by omega)
    rw [show ((n / 16777216 % 256 : Nat) : Int) = (n : Int) / 16777216 from by omega] at this
    exact this
  go_enter Tryz.func85, Tryz.ntmps85
  go_wp2
  go_ret
  exact ⟨rfl, (Below.refl _ w).alloc (Nat.le_refl _) _⟩

set_option maxHeartbeats 400000 in
theorem laySum_any (n : Nat) (w : World) (hn : n < 4294967296) :
    Calls Tryz.prog 86 #[.int .u32 n] w fun e w' => e = .returned (.string (bstr (le4 n))) ∧ Below w.heap.size w w' := by
  have hcv : ∀ W : World, (convert 73 9 (.slice (some ⟨W.heap.size, 0, none⟩) 4 4)).run Tryz.prog (W.alloc (.cells #[.int .u8 ((n : Int) % 256), .int .u8 ((n : Int) / 256 % 256), .int .u8 ((n : Int) / 65536 % 256), .int .u8 ((n : Int) / 16777216)] 5)) =
      .ok (.string (bstr (le4 n))) (W.alloc (.cells #[.int .u8 ((n : Int) % 256), .int .u8 ((n : Int) / 256 % 256), .int .u8 ((n : Int) / 65536 % 256), .int .u8 ((n : Int) / 16777216)] 5)) := by
    intro W
    have := run_convert_four W (n % 256) (n / 256 % 256) (n / 65536 % 256) (n / 16777216 % 256) (by omega) (by omega) (by omega) (by omega)
    rw [show ((n / 16777216 % 256 : Nat) : Int) = (n : Int) / 16777216 from by omega] at this
    exact this
  go_enter Tryz.func86, Tryz.ntmps86
  go_wp2
  go_ret
  exact ⟨rfl, (Below.refl _ w).alloc (Nat.le_refl _) _⟩

theorem or_join {a b k : Nat} (hb : b < 2 ^ k) : (a * 2 ^ k) ||| b = a * 2 ^ k + b := by
  rw [← Nat.shiftLeft_eq, Nat.shiftLeft_add_eq_or_of_lt hb]

set_option maxHeartbeats 1000000 in
theorem readLength_any (a b c d : UInt8) (t : List UInt8) (w : World) :
    Calls Tryz.prog 94 #[.string (bstr (a :: b :: c :: d :: t))] w fun e w' => e = .returned (.int .u32 (rd4 a b c d : Int)) ∧ Below w.heap.size w w' := by
  have ha := a.toNat_lt
  have hb := b.toNat_lt
  have hc := c.toNat_lt
  have hd := d.toNat_lt
  have h1 : bits .or .u32 ((a.toNat : Int) * 16777216) ((b.toNat : Int) * 65536) = (a.toNat : Int) * 16777216 + (b.toNat : Int) * 65536 := by
    have := u32_or_nat (a.toNat * 16777216) (b.toNat * 65536) (by omega) (by omega)
    have j := or_join (a := a.toNat) (b := b.toNat * 65536) (k := 24) (by omega)
    rw [show (2 : Nat) ^ 24 = 16777216 from rfl] at j
    rw [j] at this
    simp only [Int.natCast_add, Int.natCast_mul] at this
    exact this
  have h2 : bits .or .u32 ((a.toNat : Int) * 16777216 + (b.toNat : Int) * 65536) ((c.toNat : Int) * 256) = (a.toNat : Int) * 16777216 + (b.toNat : Int) * 65536 + (c.toNat : Int) * 256 := by
    have := u32_or_nat (a.toNat * 16777216 + b.toNat * 65536) (c.toNat * 256) (by omega) (by omega)
    have e : a.toNat * 16777216 + b.toNat * 65536 = (a.toNat * 256 + b.toNat) * 2 ^ 16 := by omega
    have j := or_join (a := a.toNat * 256 + b.toNat) (b := c.toNat * 256) (k := 16) (by omega)
    rw [← e] at j
    rw [j] at this
    simp only [Int.natCast_add, Int.natCast_mul] at this
    exact this
  have h3 : bits .or .u32 ((a.toNat : Int) * 16777216 + (b.toNat : Int) * 65536 + (c.toNat : Int) * 256) (d.toNat : Int) = (rd4 a b c d : Int) := by
    have := u32_or_nat (a.toNat * 16777216 + b.toNat * 65536 + c.toNat * 256) d.toNat (by omega) (by omega)
    have e : a.toNat * 16777216 + b.toNat * 65536 + c.toNat * 256 = (a.toNat * 65536 + b.toNat * 256 + c.toNat) * 2 ^ 8 := by omega
    have j := or_join (a := a.toNat * 65536 + b.toNat * 256 + c.toNat) (b := d.toNat) (k := 8) (by omega)
    rw [← e] at j
    rw [j] at this
    simp only [Int.natCast_add, Int.natCast_mul] at this
    unfold rd4
    simp only [Int.natCast_add, Int.natCast_mul]
    exact this
  have H1 : Hid _ := h1
  have H2 : Hid _ := h2
  have H3 : Hid _ := h3
  clear h1 h2 h3
  go_enter Tryz.func94, Tryz.ntmps94
  go_wp2
  go_quiet (fail)
  rw [H1.out, H2.out, H3.out]
  go_wp2
  go_ret
  exact ⟨rfl, below_drewN (Below.refl _ _) _⟩

end Go.Proofs.YtpldfakfgngaaaaGreatDoor

namespace Go.Proofs.YtpldfakfgngaaaaGreatDoor
open Go.RowKit
attribute [local go_sem] size_bstr getElem_bstr toList_bstr append_bstr

/-- A body's frame. -/
def frm (l : List UInt8) : List UInt8 := be4 l.length ++ (le4 (crc (be4 l.length ++ l)).toNat ++ l)
theorem frm_length (l : List UInt8) : (frm l).length = l.length + 8 := by
  unfold frm
  rw [List.length_append, List.length_append, be4_length, le4_length]
  omega
/-- The body of the frame with which bytes begin. -/
def opn : List UInt8 → Option (List UInt8)
  | a :: b :: c :: d :: e :: f :: g :: h :: t =>
    if rd4 a b c d ≤ 1048576 ∧ rd4 a b c d ≤ t.length ∧ le4 (crc ([a, b, c, d] ++ t.take (rd4 a b c d))).toNat = [e, f, g, h] then some (t.take (rd4 a b c d)) else none
  | _ => none
theorem opn_short {s : List UInt8} (h : s.length < 8) : opn s = none := by
  match s, h with
  | [], _ => rfl
  | [_], _ => rfl
  | [_, _], _ => rfl
  | [_, _, _], _ => rfl
  | [_, _, _, _], _ => rfl
  | [_, _, _, _, _], _ => rfl
  | [_, _, _, _, _, _], _ => rfl
  | [_, _, _, _, _, _, _], _ => rfl
  | _ :: _ :: _ :: _ :: _ :: _ :: _ :: _ :: t, h => simp at h; omega
theorem opn_eq (a b c d e f g h : UInt8) (t : List UInt8) : opn (a :: b :: c :: d :: e :: f :: g :: h :: t) =
    if rd4 a b c d ≤ 1048576 ∧ rd4 a b c d ≤ t.length ∧ le4 (crc ([a, b, c, d] ++ t.take (rd4 a b c d))).toNat = [e, f, g, h] then some (t.take (rd4 a b c d)) else none := by rw [opn]
theorem ex8 {s : List UInt8} (h : 8 ≤ s.length) : ∃ a b c d e f g i t, s = a :: b :: c :: d :: e :: f :: g :: i :: t := by
  match s, h with
  | a :: b :: c :: d :: e :: f :: g :: i :: t, _ => exact ⟨a, b, c, d, e, f, g, i, t, rfl⟩
theorem frm_of {a b c d e f g i : UInt8} {n : Nat} {u v : List UInt8} (hu : u.length = n) (hb : be4 n = [a, b, c, d]) (hs : le4 (crc ([a, b, c, d] ++ u)).toNat = [e, f, g, i]) : a :: b :: c :: d :: e :: f :: g :: i :: (u ++ v) = frm u ++ v := by
  subst hu
  unfold frm
  rw [hb, hs]
  rfl
theorem opn_some {s b : List UInt8} (h : opn s = some b) : b.length ≤ 1048576 ∧ ∃ r, s = frm b ++ r := by
  by_cases hs : s.length < 8
  · rw [opn_short hs] at h
    exact absurd h (by simp)
  · obtain ⟨a, b1, c, d, e, f, g, i, t, rfl⟩ := ex8 (Nat.le_of_not_lt hs)
    rw [opn_eq] at h
    by_cases hh : rd4 a b1 c d ≤ 1048576 ∧ rd4 a b1 c d ≤ t.length ∧ le4 (crc ([a, b1, c, d] ++ t.take (rd4 a b1 c d))).toNat = [e, f, g, i]
    · rw [if_pos hh] at h
      obtain ⟨h1, h2, h3⟩ := hh
      have hb := Option.some.inj h
      subst hb
      have hl : (t.take (rd4 a b1 c d)).length = rd4 a b1 c d := by rw [List.length_take]; omega
      refine ⟨by omega, t.drop (rd4 a b1 c d), ?_⟩
      have := frm_of (u := t.take (rd4 a b1 c d)) (v := t.drop (rd4 a b1 c d)) hl (be4_rd4 a b1 c d) h3
      rw [List.take_append_drop] at this
      exact this
    · rw [if_neg hh] at h
      exact absurd h (by simp)
theorem opn_frm {b : List UInt8} (h : b.length ≤ 1048576) (r : List UInt8) : opn (frm b ++ r) = some b := by
  have hr : rd4 (b.length / 16777216 % 256).toUInt8 (b.length / 65536 % 256).toUInt8 (b.length / 256 % 256).toUInt8 (b.length % 256).toUInt8 = b.length := rd4_be4 (by omega)
  show opn ((b.length / 16777216 % 256).toUInt8 :: (b.length / 65536 % 256).toUInt8 :: (b.length / 256 % 256).toUInt8 :: (b.length % 256).toUInt8 :: _ :: _ :: _ :: _ :: (b ++ r)) = _
  rw [opn_eq, hr]
  have ht : (b ++ r).take b.length = b := by simp
  rw [ht, if_pos]
  refine ⟨h, by simp, rfl⟩
theorem opn_length {s b : List UInt8} (h : opn s = some b) : b.length + 8 ≤ s.length := by
  obtain ⟨_, r, rfl⟩ := opn_some h
  rw [List.length_append, frm_length]
  omega

theorem strsAt_lit (W : World) (ps : List (List UInt8)) (cs : Array Value) (t : TypeId) (h : cs.toList = ps.map fun p => .string (bstr p)) : StrsAt (W.alloc (.cells cs t)) W.heap.size 0 ps := by
  intro j hj
  rw [World.cell?_alloc_at cs t W.heap.size (0 + j) rfl, ← Array.getElem?_toList, h]
  simp [hj]

/-- The sum of a literal list of parts. -/
theorem Sum_lit (W : World) (n : Nat) (ps : List (List UInt8)) (cs : Array Value) (h : cs.toList = ps.map fun p => .string (bstr p)) (hn : ps.length = n) (ht : Tabs W) (hlen : n ≤ 1000000) (hl : ∀ p ∈ ps, p.length ≤ 9223372036854775807) :
    Calls Tryz.prog 87 #[.slice (some ⟨W.heap.size, 0, none⟩) n n] (W.alloc (.cells cs 9)) fun e w' => e = .returned (.int .u32 ((crc ps.flatten).toNat : Int)) ∧ Below W.heap.size W w' := by
  subst hn
  have hba : Below W.heap.size W (W.alloc (.cells cs 9)) := (Below.refl _ _).alloc (Nat.le_refl _) _
  refine (Sum_any W.heap.size 0 ps.length ps _ (ht.below hba) (strsAt_lit W ps cs _ h) hlen hl).mono ?_
  rintro e w2 ⟨rfl, hb2⟩
  exact ⟨rfl, hba.trans (hb2.mono hba.size)⟩
theorem all2 {a b : List UInt8} {n : Nat} (ha : a.length ≤ n) (hb : b.length ≤ n) : ∀ p ∈ [a, b], p.length ≤ n := by
  intro p hp
  simp at hp
  rcases hp with rfl | rfl
  · exact ha
  · exact hb

set_option maxHeartbeats 400000 in
theorem Frame_long (l : List UInt8) (w : World) (h : 1048576 < l.length) (hm : l.length ≤ 9223372036854775807) :
    Calls Tryz.prog 52 #[.string (bstr l)] w fun e w' => e = .returned (.tuple #[.string (bstr []), .int .i64 3]) ∧ Below w.heap.size w w' := by
  go_enter Tryz.func52, Tryz.ntmps52
  go_wp2
  go_ret2
  exact ⟨rfl, Below.refl _ _⟩

set_option maxHeartbeats 1000000 in
theorem Frame_ok (l : List UInt8) (w : World) (h : l.length ≤ 1048576) (ht : Tabs w) :
    Calls Tryz.prog 52 #[.string (bstr l)] w fun e w' => e = .returned (.tuple #[.string (bstr (frm l)), .int .i64 0]) ∧ Below w.heap.size w w' := by
  have hcl := (crc (be4 l.length ++ l)).isLt
  go_enter Tryz.func52, Tryz.ntmps52
  go_wp2_with fail
  refine (layLength_any l.length _ (by omega)).mono ?_
  rintro e w1 ⟨rfl, hb1⟩
  have hb4 := be4_length l.length
  have ht1 := ht.below hb1
  go_wp2_with fail
  refine (Sum_lit w1 2 [be4 l.length, l] #[.string (bstr (be4 l.length)), .string (bstr l)] rfl rfl ht1 (by decide) (all2 (by omega) (by omega))).mono ?_
  rintro e w2 ⟨rfl, hb2⟩
  rw [show [be4 l.length, l].flatten = be4 l.length ++ l from by simp]
  go_wp2_with fail
  refine (laySum_any (crc (be4 l.length ++ l)).toNat _ hcl).mono ?_
  rintro e w3 ⟨rfl, hb3⟩
  have hl4 := le4_length (crc (be4 l.length ++ l)).toNat
  go_wp2
  go_ret2
  refine ⟨?_, ?_⟩
  · rfl
  · exact hb1.trans ((hb2.trans (hb3.mono hb2.size)).mono hb1.size)

end Go.Proofs.YtpldfakfgngaaaaGreatDoor

namespace Go.Proofs.YtpldfakfgngaaaaGreatDoor
open Go.RowKit Go.BigFrame
attribute [local go_sem] size_bstr getElem_bstr toList_bstr append_bstr

theorem run_piece {P : Program} (t : TypeId) (L : List UInt8) (i j : Nat) (hij : i ≤ j) (hj : j ≤ L.length) (w : World) (ht : P.underlying t = some .string) :
    (Instr.slice t (.string (bstr L)) (some (.int .i64 (i : Int))) (some (.int .i64 (j : Int))) none).run P w = .ok (.string (bstr ((L.drop i).take (j - i)))) w := by
  have h := run_slice_string (P := P) (w := w) t (bstr L) .i64 .i64 (i : Int) (j : Int) ht (by omega) (by omega) (by rw [size_bstr]; omega)
  rw [h]
  have e2 : (bstr L).extract ((i : Int).toNat) ((j : Int).toNat) = bstr ((L.drop i).take (j - i)) := by
    apply ByteArray.ext
    simp [bstr, List.extract_eq_take_drop]
  rw [e2]

set_option maxHeartbeats 400000 in
theorem first_short (s : List UInt8) (w : World) (h : s.length < 8) :
    Calls Tryz.prog 67 #[.string (bstr s)] w fun e w' => e = .returned (.tuple #[.string (bstr []), .int .i64 0]) ∧ Below w.heap.size w w' := by
  go_enter Tryz.func67, Tryz.ntmps67
  go_wp2
  go_ret2
  exact ⟨rfl, Below.refl _ _⟩

set_option maxHeartbeats 200000 in
theorem first_long (a b c d e1 f g i : UInt8) (t : List UInt8) (w : World) (hm : t.length ≤ 9223372036854775000) (hbad : ¬ (rd4 a b c d ≤ 1048576 ∧ rd4 a b c d ≤ t.length)) :
    Calls Tryz.prog 67 #[.string (bstr (a :: b :: c :: d :: e1 :: f :: g :: i :: t))] w fun e w' => e = .returned (.tuple #[.string (bstr []), .int .i64 0]) ∧ Below w.heap.size w w' := by
  have hrd := rd4_lt a b c d
  have hrc := readLength_any a b c d (e1 :: f :: g :: i :: t)
  have hsz : (a :: b :: c :: d :: e1 :: f :: g :: i :: t).length = t.length + 8 := rfl
  generalize rd4 a b c d = n at *
  generalize a :: b :: c :: d :: e1 :: f :: g :: i :: t = s at *
  go_enter Tryz.func67, Tryz.ntmps67
  go_wp2_with fail
  refine (hrc _).mono ?_
  rintro e w1 ⟨rfl, hb1⟩
  clear hrc
  by_cases hn : n ≤ 1048576
  · have hn2 : t.length < n := by omega
    clear hbad
    have hg : decide ((1048576 : Int) < (n : Int)) = false := decide_eq_false (by omega)
    go_wp2
    go_ret2
    exact ⟨rfl, hb1⟩
  · clear hbad
    have hg : decide ((1048576 : Int) < (n : Int)) = true := decide_eq_true (by omega)
    go_wp2
    go_ret2
    exact ⟨rfl, hb1⟩

theorem Sum_lit_drew (W : World) (n : Nat) (ps : List (List UInt8)) (cs : Array Value) (h : cs.toList = ps.map fun p => .string (bstr p)) (hn : ps.length = n) (ht : Tabs W) (hlen : n ≤ 1000000) (hl : ∀ p ∈ ps, p.length ≤ 9223372036854775807) :
    Calls Tryz.prog 87 #[.slice (some ⟨W.heap.size, 0, none⟩) n n] (W.alloc (.cells cs 9)).drew fun e w' => e = .returned (.int .u32 ((crc ps.flatten).toNat : Int)) ∧ Below W.heap.size W w' := by
  subst hn
  have hba : Below W.heap.size W (W.alloc (.cells cs 9)).drew := ((Below.refl _ _).alloc (Nat.le_refl _) _).drew
  have hs : StrsAt (W.alloc (.cells cs 9)).drew W.heap.size 0 ps := strsAt_lit W ps cs _ h
  refine (Sum_any W.heap.size 0 ps.length ps _ (ht.below hba) hs hlen hl).mono ?_
  rintro e w2 ⟨rfl, hb2⟩
  exact ⟨rfl, hba.trans (hb2.mono hba.size)⟩

set_option maxHeartbeats 2000000 in
set_option maxRecDepth 100000 in
theorem first_in (a b c d e1 f g i : UInt8) (t : List UInt8) (w : World) (hm : t.length ≤ 9223372036854775000) (ht : Tabs w) (hn : rd4 a b c d ≤ 1048576) (hn2 : rd4 a b c d ≤ t.length) :
    Calls Tryz.prog 67 #[.string (bstr (a :: b :: c :: d :: e1 :: f :: g :: i :: t))] w fun e w' =>
      (le4 (crc ([a, b, c, d] ++ t.take (rd4 a b c d))).toNat = [e1, f, g, i] → e = .returned (.tuple #[.string (bstr (t.take (rd4 a b c d))), .int .i64 (8 + (rd4 a b c d : Int))])) ∧
      (¬ le4 (crc ([a, b, c, d] ++ t.take (rd4 a b c d))).toNat = [e1, f, g, i] → e = .returned (.tuple #[.string (bstr []), .int .i64 0])) ∧ Below w.heap.size w w' := by
  have hrc := readLength_any a b c d (e1 :: f :: g :: i :: t)
  have hsz : (a :: b :: c :: d :: e1 :: f :: g :: i :: t).length = t.length + 8 := rfl
  have hp1 : ∀ W : World, (Instr.slice 9 (.string (bstr (a :: b :: c :: d :: e1 :: f :: g :: i :: t))) (some (.int .i64 8)) (some (.int .i64 (8 + (rd4 a b c d : Int)))) none).run Tryz.prog W = .ok (.string (bstr (t.take (rd4 a b c d)))) W := by
    intro W
    have := run_piece (P := Tryz.prog) 9 (a :: b :: c :: d :: e1 :: f :: g :: i :: t) 8 (8 + rd4 a b c d) (by omega) (by rw [hsz]; omega) W Tryz.underlying9
    rw [show (a :: b :: c :: d :: e1 :: f :: g :: i :: t).drop 8 = t from rfl, show 8 + rd4 a b c d - 8 = rd4 a b c d from by omega] at this
    exact this
  have hp2 : ∀ W : World, (Instr.slice 9 (.string (bstr (a :: b :: c :: d :: e1 :: f :: g :: i :: t))) none (some (.int .i64 4)) none).run Tryz.prog W = .ok (.string (bstr [a, b, c, d])) W :=
    fun W => run_head (P := Tryz.prog) 9 (a :: b :: c :: d :: e1 :: f :: g :: i :: t) 4 (by rw [hsz]; omega) W Tryz.underlying9
  have hp3 : ∀ W : World, (Instr.slice 9 (.string (bstr (a :: b :: c :: d :: e1 :: f :: g :: i :: t))) (some (.int .i64 4)) (some (.int .i64 8)) none).run Tryz.prog W = .ok (.string (bstr [e1, f, g, i])) W :=
    fun W => run_piece (P := Tryz.prog) 9 (a :: b :: c :: d :: e1 :: f :: g :: i :: t) 4 8 (by omega) (by rw [hsz]; omega) W Tryz.underlying9
  have hul : (t.take (rd4 a b c d)).length ≤ 9223372036854775807 := by rw [List.length_take]; omega
  generalize t.take (rd4 a b c d) = u at *
  generalize rd4 a b c d = n at *
  generalize a :: b :: c :: d :: e1 :: f :: g :: i :: t = s at *
  have hcl := (crc ([a, b, c, d] ++ u)).isLt
  have hq4 : [a, b, c, d].length ≤ 9223372036854775807 := by simp
  generalize [a, b, c, d] = q at *
  generalize [e1, f, g, i] = z at *
  have hg : decide ((1048576 : Int) < (n : Int)) = false := decide_eq_false (by omega)
  go_enter Tryz.func67, Tryz.ntmps67
  go_wp2_with fail
  refine (hrc _).mono ?_
  clear hrc
  rintro e w1 ⟨rfl, hb1⟩
  have ht1 := ht.below hb1
  go_wp2_with fail
  refine wp_region_noPanic ?_
  refine wp_region_any (by kernel_rfl) ?_
  change wpAny _ _ _ _ _ _ _ (World.drew _)
  refine wpAny_take (i := 0) (v := ?v1) rfl (by kernel_rfl) (by kernel_rfl) (by kernel_rfl) (fun _ _ _ h => h) (Or.inl ⟨by rfl, ?y1⟩) ?_
  case y1 => (intro w; go_simp; try with_reducible rfl)
  refine wpAny_take (i := 1) (v := ?v2) rfl (by kernel_rfl) (by kernel_rfl) (by kernel_rfl) (fun _ _ _ h => h) (Or.inl ⟨by rfl, ?y2⟩) ?_
  case y2 => (intro w; go_simp; try with_reducible rfl)
  refine wpAny_take (i := 2) (v := ?v3) rfl (by kernel_rfl) (by kernel_rfl) (by kernel_rfl) (fun _ _ _ h => h) (Or.inl ⟨by rfl, ?y3⟩) ?_
  case y3 => (intro w; go_simp; try with_reducible rfl)
  refine wpAny_take (i := 6) (v := ?v4) rfl (by kernel_rfl) (by kernel_rfl) (by kernel_rfl) (fun _ _ _ h => h) (Or.inl ⟨by rfl, ?y4⟩) ?_
  case y4 => (intro w; go_simp; try with_reducible rfl)
  refine wpAny_take (i := 7) (v := ?v5) rfl (by kernel_rfl) (by kernel_rfl) (by kernel_rfl) (fun _ _ _ h => h) (Or.inl ⟨by rfl, ?y5⟩) ?_
  case y5 => (intro w; go_simp; try with_reducible rfl)
  refine wpAny_ready (rs := [3]) (by kernel_rfl) (by simp) ?_
  refine AllReady.cons rfl (fun K hK => ?_) AllReady.nil
  go_simp
  refine hK _ _ ?_
  clear hK K
  refine wpAny_ready (rs := [4]) (by kernel_rfl) (by simp) ?_
  refine AllReady.cons rfl (fun K hK => ?_) AllReady.nil
  go_simp
  refine (Sum_lit_drew w1 2 [q, u] #[.string (bstr q), .string (bstr u)] rfl rfl ht1 (by decide) (all2 hq4 hul)).mono ?_
  rintro e w2 ⟨rfl, hb2⟩
  rw [show [q, u].flatten = q ++ u from by simp]
  refine hK _ _ ?_
  clear hK K
  refine wpAny_ready (rs := [5]) (by kernel_rfl) (by simp) ?_
  refine AllReady.cons rfl (fun K hK => ?_) AllReady.nil
  go_simp
  refine (laySum_any (crc (q ++ u)).toNat _ hcl).mono ?_
  rintro e w3 ⟨rfl, hb3⟩
  have hbe : Below w.heap.size w w3 := hb1.trans ((hb2.trans (hb3.mono hb2.size)).mono hb1.size)
  generalize hy : le4 (crc (q ++ u)).toNat = y
  have HY : Hid (le4 (crc (q ++ u)).toNat = y) := hy
  clear hy
  refine hK _ _ ?_
  clear hK K
  refine wpAny_ready (rs := [8]) (by kernel_rfl) (by simp) ?_
  refine AllReady.cons rfl (fun K hK => ?_) AllReady.nil
  go_simp
  refine hK _ _ ?_
  clear hK K
  refine wpAny_done (by kernel_rfl) ?_ _
  refine NoPanic.normal ?_
  by_cases hd : y = z
  · have hyt : (y == z) = true := by rw [hd]; simp
    rw [hyt, Bool.not_true]
    go_wp2
    go_ret2
    exact ⟨fun _ => rfl, fun h => absurd (HY.out.trans hd) h, hbe⟩
  · have hyf : (y == z) = false := by simp [hd]
    rw [hyf, Bool.not_false]
    go_wp2
    go_ret2
    exact ⟨fun h => absurd (HY.out.symm.trans h) hd, fun _ => rfl, hbe⟩


/-- seal.first, whatever it is handed. -/
theorem first_none (s : List UInt8) (w : World) (hm : s.length ≤ 9223372036854775000) (ht : Tabs w) (h : opn s = none) :
    Calls Tryz.prog 67 #[.string (bstr s)] w fun e w' => e = .returned (.tuple #[.string (bstr []), .int .i64 0]) ∧ Below w.heap.size w w' := by
  by_cases hs : s.length < 8
  · exact first_short s w hs
  · obtain ⟨a, b, c, d, e, f, g, i, t, rfl⟩ := ex8 (Nat.le_of_not_lt hs)
    simp only [List.length_cons] at hm
    by_cases hin : rd4 a b c d ≤ 1048576 ∧ rd4 a b c d ≤ t.length
    · refine (first_in a b c d e f g i t w (by omega) ht hin.1 hin.2).mono ?_
      rintro x w' ⟨_, h2, h3⟩
      refine ⟨h2 ?_, h3⟩
      intro hc
      rw [opn_eq, if_pos ⟨hin.1, hin.2, hc⟩] at h
      exact absurd h (by simp)
    · exact first_long a b c d e f g i t w (by omega) hin
theorem first_some (s b : List UInt8) (w : World) (hm : s.length ≤ 9223372036854775000) (ht : Tabs w) (h : opn s = some b) :
    Calls Tryz.prog 67 #[.string (bstr s)] w fun e w' => e = .returned (.tuple #[.string (bstr b), .int .i64 (8 + (b.length : Int))]) ∧ Below w.heap.size w w' := by
  by_cases hs : s.length < 8
  · rw [opn_short hs] at h
    exact absurd h (by simp)
  · obtain ⟨a, b1, c, d, e, f, g, i, t, rfl⟩ := ex8 (Nat.le_of_not_lt hs)
    simp only [List.length_cons] at hm
    rw [opn_eq] at h
    by_cases hh : rd4 a b1 c d ≤ 1048576 ∧ rd4 a b1 c d ≤ t.length ∧ le4 (crc ([a, b1, c, d] ++ t.take (rd4 a b1 c d))).toNat = [e, f, g, i]
    · rw [if_pos hh] at h
      obtain ⟨h1, h2, h3⟩ := hh
      have hb := Option.some.inj h
      have hl : b.length = rd4 a b1 c d := by rw [← hb, List.length_take]; omega
      refine (first_in a b1 c d e f g i t w (by omega) ht h1 h2).mono ?_
      rintro x w' ⟨g1, _, g3⟩
      refine ⟨?_, g3⟩
      rw [g1 h3, hl, hb]
    · rw [if_neg hh] at h
      exact absurd h (by simp)

set_option maxHeartbeats 400000 in
theorem SClone_any (l : List UInt8) (w : World) (hl : l.length ≤ 10000000000) :
    Calls Tryz.prog 39 #[.string (bstr l)] w fun e w' => e = .returned (.string (bstr l)) ∧ Below w.heap.size w w' := by
  go_enter Tryz.func39, Tryz.ntmps39
  go_wp2_with fail
  refine (Tryz.stringslite_Clone (bstr l) _ (by rw [size_bstr]; omega)).mono ?_
  rintro e w1 ⟨rfl, hb⟩
  go_wp2
  go_ret
  exact ⟨rfl, hb⟩

end Go.Proofs.YtpldfakfgngaaaaGreatDoor

namespace Go.Proofs.YtpldfakfgngaaaaGreatDoor
open Go.RowKit
attribute [local go_sem] size_bstr getElem_bstr toList_bstr append_bstr

/-- The bodies of the frames with which bytes begin (k steps at the most). -/
def scn : Nat → List UInt8 → List (List UInt8)
  | 0, _ => []
  | k + 1, s => match opn s with
    | none => []
    | some b => b :: scn k (s.drop (8 + b.length))
theorem scn_none {k : Nat} {s : List UInt8} (h : opn s = none) : scn k s = [] := by
  cases k with
  | zero => rfl
  | succ k => rw [scn, h]
theorem scn_some {k : Nat} {s b : List UInt8} (h : opn s = some b) : scn (k + 1) s = b :: scn k (s.drop (8 + b.length)) := by
  rw [scn, h]
/-- How many bytes the frames of bodies have. -/
def totS (bs : List (List UInt8)) : Nat := (bs.map fun b => b.length + 8).sum
theorem tot_snoc (bs : List (List UInt8)) (b : List UInt8) : totS (bs ++ [b]) = totS bs + (b.length + 8) := by
  unfold totS
  simp
/-- The cells of a list of strings. -/
def strCells (bs : List (List UInt8)) : List Value := bs.map fun b => .string (bstr b)
theorem strCells_snoc (bs : List (List UInt8)) (b : List UInt8) : strCells (bs ++ [b]) = strCells bs ++ [.string (bstr b)] := by
  unfold strCells
  simp
theorem strCells_length (bs : List (List UInt8)) : (strCells bs).length = bs.length := by
  unfold strCells
  simp
/-- What holds at each pass: bodies bs are found, g bytes are gone through. -/
def Went (s : List UInt8) (bs : List (List UInt8)) (g : Nat) : Prop := ∃ k, scn s.length s = bs ++ scn k (s.drop g) ∧ s.length - g ≤ k ∧ g = totS bs ∧ g ≤ s.length ∧ 8 * bs.length ≤ g
theorem Went.start (s : List UInt8) : Went s [] 0 := ⟨s.length, by simp, by omega, rfl, by omega, by simp⟩
theorem Went.next {s : List UInt8} {bs : List (List UInt8)} {g : Nat} {b : List UInt8} (h : Went s bs g) (ho : opn (s.drop g) = some b) : Went s (bs ++ [b]) (g + (8 + b.length)) := by
  obtain ⟨k, h1, h2, h3, h4, h5⟩ := h
  have hl := opn_length ho
  rw [List.length_drop] at hl
  cases k with
  | zero => omega
  | succ k =>
    refine ⟨k, ?_, by omega, ?_, by omega, ?_⟩
    · rw [h1, scn_some ho, List.drop_drop, List.append_assoc]
      rfl
    · rw [tot_snoc]; omega
    · rw [List.length_append, List.length_singleton]; omega
theorem Went.last {s : List UInt8} {bs : List (List UInt8)} {g : Nat} (h : Went s bs g) (ho : opn (s.drop g) = none) : scn s.length s = bs ∧ totS bs = g := by
  obtain ⟨k, h1, h2, h3, h4, h5⟩ := h
  rw [scn_none ho, List.append_nil] at h1
  exact ⟨h1, h3.symm⟩

theorem Tryz.infoStrS : (Tryz.prog.info? 9).map (fun i => (i.zero, i.size, i.bytes)) = some (some (.string ⟨#[]⟩), 1, 16) := by kernel_rfl
theorem run_from {P : Program} (t : TypeId) (L : List UInt8) (i : Nat) (hi : i ≤ L.length) (w : World) (ht : P.underlying t = some .string) :
    (Instr.slice t (.string (bstr L)) (some (.int .i64 (i : Int))) none none).run P w = .ok (.string (bstr (L.drop i))) w := by
  have h := run_slice_string_l (P := P) (t := t) (s := bstr L) (w := w) ht .i64 (i : Int) (by omega) (by rw [size_bstr]; omega)
  rw [h]
  have e2 : (bstr L).extract ((i : Int).toNat) (bstr L).size = bstr (L.drop i) := by
    apply ByteArray.ext
    rw [size_bstr]
    simp only [bstr, ByteArray.data_extract, List.extract_toArray, Int.toNat_natCast, List.extract_eq_take_drop]
    rw [List.take_of_length_le (by rw [List.length_drop]; omega)]
  rw [e2]

/-- A scope in which the run jumps back to one label, entered at that label. -/
theorem wp_scope_label {P : Program} {a : Act} {w : World} {Q : Exit → Act → World → Prop} {c rest : Code} (l : Nat) (J : Act → World → Prop) (m : Act → World → Nat) (hf : findLabel c l = some (Code.skip.seq rest))
    (first : (∀ a w, J a w → rest.wp P (Exit.jump l J Q) a w) → c.wp P (Exit.jump l J Q) a w)
    (pass : ∀ a w, J a w → rest.wp P (Exit.jump l (fun a' w' => J a' w' ∧ m a' w' < m a w) Q) a w) : (Code.scope c).wp P Q a w := by
  refine wp_scope_jumps l J m hf (first fun a w h => wp_mono (pass a w h) ?_) (fun a w h => wp_seq (wp_skip (pass a w h)))
  intro e a w hq
  cases e with
  | goto l' => exact ⟨hq.1, hq.2.1⟩
  | normal => exact hq
  | exit id => exact hq
  | ret => exact hq
  | panic ch => exact hq
  | outgrown => exact hq

theorem own_belowS {w w' : World} {B e size n : Nat} {v : Value} {xs : List Value} (h : w.ownsRow B e size v n xs) (hb : Below w.heap.size w w') : w'.ownsRow B e size v n xs := by
  rcases h.2 with h0 | ⟨g, cap, cur, hv, hbg, hg, hnc, hcm, hcs, htake⟩
  · exact ⟨h.1, .inl h0⟩
  · have hlt : g < w.heap.size := by
      by_cases hl : g < w.heap.size
      · exact hl
      · rw [Array.getElem?_eq_none (Nat.le_of_not_lt hl)] at hg
        exact absurd hg (by simp)
    exact ⟨h.1, .inr ⟨g, cap, cur, hv, hbg, (hb.block g hlt).trans hg, hnc, hcm, hcs, htake⟩⟩

set_option maxHeartbeats 2000000 in
set_option maxRecDepth 100000 in
theorem Scan_any (s : List UInt8) (w : World) (hs : s.length ≤ 35184372088832) (ht : Tabs w) :
    Calls Tryz.prog 32 #[.string (bstr s)] w fun e w' => ∃ v, e = .returned (.tuple #[v, .int .i64 (totS (scn s.length s) : Int)]) ∧ w'.ownsRow w.heap.size 9 1 v (scn s.length s).length (strCells (scn s.length s)) ∧ Below w.heap.size w w' := by
  obtain ⟨i0, hi, hz0, hz1, hz2⟩ := info_parts Tryz.infoStrS
  go_enter Tryz.func32, Tryz.ntmps32
  go_wp2
  refine wp_scope_label 0 (fun a' w' => ∃ (v : Value) (bs : List (List UInt8)) (g : Nat) (u4 u5 u6 u7 u8 u9 u10 u11 u12 u13 u14 u15 u16 u17 u18 u19 u20 u21 u22 : Value), a' = { tmps := #[.string (bstr s), undef, v, .int .i64 (g : Int), u4, u5, u6, u7, u8, u9, u10, u11, u12, u13, u14, u15, u16, u17, u18, u19, u20, u21, u22, undef, undef], defers := [] } ∧ Went s bs g ∧ w'.ownsRow w.heap.size 9 1 v bs.length (strCells bs) ∧ Below w.heap.size w w') (fun a' _ => s.length - (intOf (a'.tmps.getD 3 undef)).toNat) rfl ?_ ?_
  · intro hp
    go_wp2
    go_step3
    rename_i Q1 Q2 K hK
    exact hK _ _ (hp _ _ ⟨_, [], 0, _, _, _, _, _, _, _, _, _, _, _, _, _, _, _, _, _, _, _, rfl, Went.start s, ⟨rfl, .inl ⟨rfl, rfl⟩⟩, Below.refl _ _⟩)
  · rintro a' wr ⟨v, bs, g, u4, u5, u6, u7, u8, u9, u10, u11, u12, u13, u14, u15, u16, u17, u18, u19, u20, u21, u22, rfl, hwent, hown, hbel⟩
    have htr := ht.below hbel
    have hgl : g ≤ s.length := by obtain ⟨k, h1, h2, h3, h4, h5⟩ := hwent; exact h4
    have hgb : 8 * bs.length ≤ g := by obtain ⟨k, h1, h2, h3, h4, h5⟩ := hwent; exact h5
    have HW : Hid _ := hwent
    have hwent0 : Went s bs g := HW.out
    clear hwent
    have hsl := fun W : World => run_from (P := Tryz.prog) 9 s g hgl W Tryz.underlying9
    have hdl : (s.drop g).length = s.length - g := List.length_drop
    cases ho : opn (s.drop g) with
    | none =>
      have HL : Hid _ := hwent0.last ho
      have HO : Hid _ := ho
      clear ho hwent0
      generalize s.drop g = d at *
      go_wp2_with fail
      refine (first_none d _ (by omega) htr HO.out).mono ?_
      rintro e w1 ⟨rfl, hb1⟩
      have hown1 := own_belowS hown hb1
      clear hown
      go_wp2
      simp only [Exit.jump]
      go_ret2
      obtain ⟨hl1, hl2⟩ := HL.out
      refine ⟨v, ?_, ?_, hbel.trans (hb1.mono hbel.size)⟩
      · rw [hl1, hl2]
        rfl
      · rw [hl1]
        exact hown1
    | some b =>
      have hnx := hwent0.next ho
      have HN : Hid _ := hnx
      have hbl := (opn_some ho).1
      have hol := opn_length ho
      have HO : Hid _ := ho
      clear ho hnx hwent0
      rw [hdl] at hol
      generalize s.drop g = d at *
      go_wp2_with fail
      refine (first_some d b _ (by omega) htr HO.out).mono ?_
      rintro e w1 ⟨rfl, hb1⟩
      go_wp2_with fail
      refine (SClone_any b _ (by omega)).mono ?_
      rintro e w2 ⟨rfl, hb2⟩
      have hb12 : Below wr.heap.size wr w2 := hb1.trans (hb2.mono hb1.size)
      have hown2 := own_belowS hown hb12
      have hbw : Below w.heap.size w w2 := hbel.trans (hb12.mono hbel.size)
      clear hown
      go_wp2_with (at_builtin; refine wpList_append_own _ rfl _ _ 62 rfl w.heap.size 9 i0 (.string ⟨#[]⟩) 1 16 Tryz.underlying62 hi hz0 hz1 hz2 rfl (by decide) _ _ _ rfl (hown2.alloc _) ⟨w2.heap.size, 0, none⟩ 1 1 [.string (bstr b)] rfl rfl ?c1 ?c2 ?c3 ?c4 ?c5 ?_)
      case c1 =>
        intro j u hj
        match j, hj with
        | 0, hj => simp at hj; subst hj; simp [Addr.add]
      case c2 => intro u hu; simp at hu; subst hu; rfl
      case c3 => unfold maxLen; omega
      case c4 => omega
      case c5 => have := hbw.size; simp; omega
      intro v' w3 hown3 hgrow _
      have hbw3 : Below w.heap.size w w3 := (hbw.alloc hbw.size _).grown hgrow (by have := hbw.size; simp; omega) (fun k hk => (hown2.lt k hk).1)
      go_wp2
      go_step3
      rw [show (g : Int) + (8 + (b.length : Int)) = ((g + (8 + b.length) : Nat) : Int) from by omega]
      refine ⟨rfl, ⟨v', bs ++ [b], g + (8 + b.length), _, _, _, _, _, _, _, _, _, _, _, _, _, _, _, _, _, _, _, rfl, HN.out, ?_, hbw3⟩, ?_⟩
      · rw [strCells_snoc, List.length_append, List.length_singleton]
        exact hown3
      · simp [intOf]
        omega

end Go.Proofs.YtpldfakfgngaaaaGreatDoor

namespace Go.Proofs.YtpldfakfgngaaaaGreatDoor
open Go.RowKit

/-- The frames of bodies, one behind the other. -/
def fr (G : List (List UInt8)) : List UInt8 := (G.map frm).flatten
theorem fr_nil : fr [] = [] := rfl
theorem fr_cons (b : List UInt8) (G : List (List UInt8)) : fr (b :: G) = frm b ++ fr G := by
  unfold fr
  simp
theorem fr_append (G H : List (List UInt8)) : fr (G ++ H) = fr G ++ fr H := by
  unfold fr
  simp
theorem fr_length (G : List (List UInt8)) : (fr G).length = totS G := by
  induction G with
  | nil => rfl
  | cons b G ih =>
    rw [fr_cons, List.length_append, frm_length, ih]
    unfold totS
    simp
theorem tot_append (G H : List (List UInt8)) : totS (G ++ H) = totS G + totS H := by
  unfold totS
  simp
/-- What begins like a frame, and is no whole one, is none. -/
theorem prefix_none {b : List UInt8} (hb : b.length ≤ 1048576) {m : Nat} (hm : m < (frm b).length) : opn ((frm b).take m) = none := by
  cases h : opn ((frm b).take m) with
  | none => rfl
  | some c =>
    exfalso
    obtain ⟨hc, r, hr⟩ := opn_some h
    have h1 : opn (frm b) = some b := by
      have := opn_frm hb []
      rwa [List.append_nil] at this
    have h2 : frm b = frm c ++ (r ++ (frm b).drop m) := by
      rw [← List.append_assoc, ← hr, List.take_append_drop]
    have h3 : opn (frm b) = some c := by
      rw [h2]
      exact opn_frm hc _
    have h4 : b = c := Option.some.inj (h1.symm.trans h3)
    have h5 := congrArg List.length hr
    rw [List.length_append, List.length_take, ← h4] at h5
    omega
theorem zero_crc : ¬ le4 (crc ([0, 0, 0, 0] ++ [])).toNat = [0, 0, 0, 0] := by decide +kernel
/-- Bytes 0 begin with no frame. -/
theorem zeros_none (n : Nat) : opn (List.replicate n 0) = none := by
  by_cases h : n < 8
  · exact opn_short (by rw [List.length_replicate]; exact h)
  · obtain ⟨m, rfl⟩ : ∃ m, n = m + 8 := ⟨n - 8, by omega⟩
    show opn (0 :: 0 :: 0 :: 0 :: 0 :: 0 :: 0 :: 0 :: List.replicate m 0) = none
    rw [opn_eq, show rd4 0 0 0 0 = 0 from rfl, List.take_zero]
    exact if_neg fun hh => zero_crc hh.2.2
/-- Whole frames, and behind them what begins with none. -/
theorem scn_frames (G : List (List UInt8)) (r : List UInt8) (k : Nat) (hk : G.length ≤ k) (hG : ∀ b ∈ G, b.length ≤ 1048576) (hr : opn r = none) : scn k (fr G ++ r) = G := by
  induction G generalizing k with
  | nil => rw [fr_nil, List.nil_append]; exact scn_none hr
  | cons b G ih =>
    cases k with
    | zero => simp at hk
    | succ k =>
      have hb := hG b List.mem_cons_self
      rw [fr_cons, List.append_assoc, scn_some (opn_frm hb _)]
      have : (frm b ++ (fr G ++ r)).drop (8 + b.length) = fr G ++ r := by
        rw [List.drop_append_of_le_length (by rw [frm_length]; omega), List.drop_of_length_le (by rw [frm_length]; omega), List.nil_append]
      rw [this, ih k (by simpa using hk) (fun c hc => hG c (List.mem_cons_of_mem _ hc))]
/-- A row that is cut has just the whole ones. -/
theorem scn_cut (G : List (List UInt8)) (n i k : Nat) (hG : ∀ b ∈ G, b.length ≤ 1048576) (hi : i ≤ G.length) (hk : i ≤ k) (h1 : totS (G.take i) ≤ n) (h2 : i < G.length → n < totS (G.take (i + 1))) : scn k ((fr G).take n) = G.take i := by
  have hsplit : fr G = fr (G.take i) ++ fr (G.drop i) := by rw [← fr_append, List.take_append_drop]
  have hl : (fr (G.take i)).length = totS (G.take i) := fr_length _
  have htake : (fr G).take n = fr (G.take i) ++ (fr (G.drop i)).take (n - totS (G.take i)) := by
    rw [hsplit, List.take_append, hl, List.take_of_length_le (by omega)]
  rw [htake]
  refine scn_frames _ _ _ (by rw [List.length_take]; omega) (fun b hb => hG b (List.mem_of_mem_take hb)) ?_
  by_cases hlt : i < G.length
  · have h3 := h2 hlt
    rw [List.take_succ_eq_append_getElem hlt, tot_append] at h3
    have h4 : totS [G[i]] = G[i].length + 8 := by unfold totS; simp
    rw [List.drop_eq_getElem_cons hlt, fr_cons, List.take_append_of_le_length (by rw [frm_length]; omega)]
    exact prefix_none (hG _ (List.getElem_mem hlt)) (by rw [frm_length]; omega)
  · rw [List.drop_of_length_le (by omega), fr_nil, List.take_nil]
    rfl

end Go.Proofs.YtpldfakfgngaaaaGreatDoor

