/-
  The sum of seal as a function on lists of bytes: bit by bit, byte by byte by two tables of 16 words; that it is linear, and that bits turned within 32 next to one another change it.
  The two tables of seal, as the walks see them; and the contract of seal.Sum: whatever parts it is handed, the sum of them all, one behind the other; nothing turns.
  What the rows of this seat list of seal's two tables, as the walks see it.
-/
import Derived.WalkKit
import Derived.Test.YtnfnlfdplnekgaaDoorAid
import Derived.BigQuiet
import Derived.Laws.BitsAllLaws
import Derived.Test.YtnfnlfdplnekgaaDoorRows
import Derived.ProofKit
import Derived.OpenShut
import Derived.ShutString
import Derived.Deep.DeepHandedRow
import Derived.Lib.LaidTab
import Derived.Stop.LaidErr
import Derived.Lay
namespace Go.Proofs.YtnfnlfdplnekgaaDoor
open Go.RowKit

/-- The register's polynomial. -/
def poly : BitVec 32 := 0xEDB88320#32
/-- One bit out of the register. -/
def out1 (x : BitVec 32) : BitVec 32 := (x >>> 1) ^^^ (if x.getLsbD 0 then poly else 0#32)
/-- n bits out. -/
def outs : Nat → BitVec 32 → BitVec 32
  | 0, x => x
  | n + 1, x => outs n (out1 x)

theorem out1_xor (x y : BitVec 32) : out1 (x ^^^ y) = out1 x ^^^ out1 y := by
  unfold out1
  rw [BitVec.ushiftRight_xor_distrib, BitVec.getLsbD_xor]
  cases x.getLsbD 0 <;> cases y.getLsbD 0
  · simp
  · simp only [Bool.false_xor, if_true, Bool.false_eq_true, if_false]
    ac_rfl
  · simp only [Bool.xor_false, if_true, Bool.false_eq_true, if_false]
    ac_rfl
  · simp only [Bool.xor_self, if_true, Bool.false_eq_true, if_false]
    have : x >>> 1 ^^^ poly ^^^ (y >>> 1 ^^^ poly) = x >>> 1 ^^^ y >>> 1 ^^^ (poly ^^^ poly) := by ac_rfl
    rw [this, BitVec.xor_self]
theorem outs_xor (n : Nat) (x y : BitVec 32) : outs n (x ^^^ y) = outs n x ^^^ outs n y := by
  induction n generalizing x y with
  | zero => rfl
  | succ n ih => rw [outs, outs, outs, out1_xor, ih]
theorem outs_add (n m : Nat) (x : BitVec 32) : outs (n + m) x = outs m (outs n x) := by
  induction n generalizing x with
  | zero => simp [outs]
  | succ n ih => rw [Nat.succ_add, outs, outs, ih]

/-- No register but 0 becomes 0. -/
theorem out1_zero {x : BitVec 32} (h : out1 x = 0#32) : x = 0#32 := by
  unfold out1 at h
  have h31 : (x >>> 1 ^^^ (if x.getLsbD 0 then poly else 0#32)).getLsbD 31 = false := by rw [h]; simp
  rw [BitVec.getLsbD_xor, BitVec.getLsbD_ushiftRight] at h31
  cases h0 : x.getLsbD 0
  · rw [h0] at h
    simp only [Bool.false_eq_true, if_false, BitVec.xor_zero] at h
    apply BitVec.eq_of_getLsbD_eq
    intro i hi
    rw [BitVec.getLsbD_zero]
    cases i with
    | zero => exact h0
    | succ i =>
      have := congrArg (fun y => y.getLsbD i) h
      simp only [BitVec.getLsbD_ushiftRight, BitVec.getLsbD_zero] at this
      rw [Nat.add_comm]
      exact this
  · rw [h0] at h31
    have hx : x.getLsbD (1 + 31) = false := BitVec.getLsbD_of_ge _ _ (by decide)
    rw [hx] at h31
    exact absurd h31 (by decide)
theorem outs_zero {n : Nat} {x : BitVec 32} (h : outs n x = 0#32) : x = 0#32 := by
  induction n generalizing x with
  | zero => exact h
  | succ n ih => exact out1_zero (ih h)
theorem outs_zero_zero (n : Nat) : outs n 0#32 = 0#32 := by
  induction n with
  | zero => rfl
  | succ n ih => rw [outs]; exact ih
theorem outs_inj {n : Nat} {x y : BitVec 32} (h : outs n x = outs n y) : x = y := by
  have h2 : outs n (x ^^^ y) = 0#32 := by rw [outs_xor, h, BitVec.xor_self]
  have h3 := outs_zero h2
  have h4 : x ^^^ y ^^^ y = 0#32 ^^^ y := by rw [h3]
  rw [BitVec.xor_assoc, BitVec.xor_self, BitVec.xor_zero, BitVec.zero_xor] at h4
  exact h4

/-- A register takes a byte. -/
def crc1 (x : BitVec 32) (b : UInt8) : BitVec 32 := outs 8 (x ^^^ BitVec.ofNat 32 b.toNat)
/-- A register takes bytes. -/
def crcL (x : BitVec 32) (l : List UInt8) : BitVec 32 := l.foldl crc1 x
theorem crcL_append (x : BitVec 32) (a b : List UInt8) : crcL x (a ++ b) = crcL (crcL x a) b := List.foldl_append
theorem crcL_nil (x : BitVec 32) : crcL x [] = x := rfl
theorem crcL_cons (x : BitVec 32) (b : UInt8) (l : List UInt8) : crcL x (b :: l) = crcL (crc1 x b) l := rfl
/-- The sum. -/
def crc (l : List UInt8) : BitVec 32 := ~~~ crcL 4294967295#32 l

/-- The two tables. -/
def lowT : List Int := [0, 1996959894, 3993919788, 2567524794, 124634137, 1886057615, 3915621685, 2657392035, 249268274, 2044508324, 3772115230, 2547177864, 162941995, 2125561021, 3887607047, 2428444049]
def highT : List Int := [0, 498536548, 997073096, 651767980, 1994146192, 1802195444, 1303535960, 1342533948, 3988292384, 4027552580, 3604390888, 3412177804, 2607071920, 2262029012, 2685067896, 3183342108]
def lowB (i : Nat) : BitVec 32 := BitVec.ofInt 32 (lowT.getD i 0)
def highB (i : Nat) : BitVec 32 := BitVec.ofInt 32 (highT.getD i 0)

set_option maxRecDepth 100000 in
theorem tables_all : ∀ i : Fin 256, outs 8 (BitVec.ofNat 32 i.val) = lowB (i.val % 16) ^^^ highB (i.val / 16) := by decide +kernel

/-- Eight bits out of a register whose lowest eight are none: it is shifted. -/
theorem outs8_high {x : BitVec 32} (h : ∀ i, i < 8 → x.getLsbD i = false) : outs 8 x = x >>> 8 := by
  have one : ∀ (y : BitVec 32), y.getLsbD 0 = false → out1 y = y >>> 1 := by
    intro y hy
    unfold out1
    rw [hy]
    simp
  have step : ∀ (k : Nat) (y : BitVec 32), (∀ i, i < k → y.getLsbD i = false) → outs k y = y >>> k := by
    intro k
    induction k with
    | zero => intro y _; simp [outs]
    | succ k ih =>
      intro y hy
      rw [outs, one y (hy 0 (by omega)), ih (y >>> 1) (fun i hi => by rw [BitVec.getLsbD_ushiftRight]; exact hy _ (by omega)), ← BitVec.shiftRight_add, Nat.add_comm]
  exact step 8 x h

/-- A byte by the tables. -/
theorem crc1_tables (x : BitVec 32) (b : UInt8) (o : Nat) (ho : o = (x.toNat ^^^ b.toNat) % 256) : crc1 x b = x >>> 8 ^^^ lowB (o % 16) ^^^ highB (o / 16) := by
  have hb := b.toNat_lt
  have ho256 : o < 256 := by omega
  have hlow : BitVec.ofNat 32 o = (x ^^^ BitVec.ofNat 32 b.toNat) &&& 255#32 := by
    apply BitVec.eq_of_toNat_eq
    rw [BitVec.toNat_ofNat, BitVec.toNat_and, BitVec.toNat_xor, BitVec.toNat_ofNat, Nat.mod_eq_of_lt (by omega : o < 2 ^ 32), Nat.mod_eq_of_lt (by omega : b.toNat < 2 ^ 32)]
    have : (255#32).toNat = 2 ^ 8 - 1 := by decide
    rw [this, Nat.and_two_pow_sub_one_eq_mod, ho]
  have hsplit : x ^^^ BitVec.ofNat 32 b.toNat = (x &&& 4294967040#32) ^^^ BitVec.ofNat 32 o := by
    apply BitVec.eq_of_getLsbD_eq
    intro i hi
    rw [hlow]
    simp only [BitVec.getLsbD_xor, BitVec.getLsbD_and]
    have h1 : ∀ j : Fin 32, (4294967040#32).getLsbD j.val = decide (8 ≤ j.val) := by decide
    have h2 : ∀ j : Fin 32, (255#32).getLsbD j.val = decide (j.val < 8) := by decide
    rw [h1 ⟨i, hi⟩, h2 ⟨i, hi⟩]
    by_cases h8 : i < 8
    · simp [h8, Nat.not_le.2 h8]
    · have hz : (BitVec.ofNat 32 b.toNat).getLsbD i = false := by
        rw [BitVec.getLsbD_ofNat]
        have : b.toNat.testBit i = false := Nat.testBit_lt_two_pow (Nat.lt_of_lt_of_le hb (by exact Nat.pow_le_pow_right (by decide) (by omega : 8 ≤ i)))
        simp [this]
      simp [h8, Nat.not_lt.1 h8, hz]
  unfold crc1
  rw [hsplit, outs_xor, tables_all ⟨o, ho256⟩, outs8_high]
  · have : (x &&& 4294967040#32) >>> 8 = x >>> 8 := by
      apply BitVec.eq_of_getLsbD_eq
      intro i hi
      simp only [BitVec.getLsbD_ushiftRight, BitVec.getLsbD_and]
      have h1 : ∀ j : Fin 32, (4294967040#32).getLsbD j.val = decide (8 ≤ j.val) := by decide
      by_cases h24 : 8 + i < 32
      · rw [h1 ⟨8 + i, h24⟩]
        simp
      · rw [BitVec.getLsbD_of_ge x (8 + i) (by omega)]
        simp
    rw [this, BitVec.xor_assoc]
  · intro i hi
    rw [BitVec.getLsbD_and]
    have h1 : ∀ j : Fin 32, (4294967040#32).getLsbD j.val = decide (8 ≤ j.val) := by decide
    rw [h1 ⟨i, by omega⟩]
    simp [Nat.not_le.2 hi]

end Go.Proofs.YtnfnlfdplnekgaaDoor

namespace Go.Proofs.YtnfnlfdplnekgaaDoor
open Go.RowKit
attribute [local go_sem] size_bstr getElem_bstr toList_bstr append_bstr

/-- The two tables lie where the program's start laid them. -/
def Tabs (w : World) : Prop :=
  2 ≤ w.heap.size ∧ (∀ i : Nat, i < 16 → w.cell? ⟨0, i, none⟩ = some (.int .u32 ((lowB i).toNat : Int))) ∧ (∀ i : Nat, i < 16 → w.cell? ⟨1, i, none⟩ = some (.int .u32 ((highB i).toNat : Int)))
theorem Tabs.below {w w' : World} (h : Tabs w) (b : Below w.heap.size w w') : Tabs w' := by
  have h2 := h.1
  refine ⟨Nat.le_trans h2 b.size, fun i hi => ?_, fun i hi => ?_⟩
  · rw [(bcell b).1 0 i (by omega)]; exact h.2.1 i hi
  · rw [(bcell b).1 1 i (by omega)]; exact h.2.2 i hi

/-- A list of strings stands from a place on. -/
def StrsAt (w : World) (g off : Nat) (ps : List (List UInt8)) : Prop := ∀ (j : Nat) (h : j < ps.length), w.cell? ⟨g, off + j, none⟩ = some (.string (bstr ps[j]))

theorem u32_xor_bv (a b : BitVec 32) : bits .xor .u32 (a.toNat : Int) (b.toNat : Int) = ((a ^^^ b).toNat : Int) := by
  rw [u32_xor_nat _ _ a.isLt b.isLt, BitVec.toNat_xor]
theorem u32_shr8 (a : BitVec 32) : (a.toNat : Int) / (256 : Int) = ((a >>> 8).toNat : Int) := by
  rw [BitVec.toNat_ushiftRight, Nat.shiftRight_eq_div_pow]
  omega
theorem u32_not (a : BitVec 32) : bits .xor .u32 4294967295 (a.toNat : Int) = ((~~~ a).toNat : Int) := by
  have h := u32_xor_bv (BitVec.allOnes 32) a
  rw [BitVec.allOnes_xor] at h
  exact h
theorem take_flatten {ps : List (List UInt8)} {j : Nat} (h : j < ps.length) : (ps.take (j + 1)).flatten = (ps.take j).flatten ++ ps[j] := by
  rw [List.take_succ_eq_append_getElem h, List.flatten_append]
  simp
theorem ret_u32 {a b : BitVec 32} (h : a = b) : Ending.returned (.int .u32 (a.toNat : Int)) = .returned (.int .u32 (b.toNat : Int)) := by rw [h]

set_option maxHeartbeats 1000000 in
set_option maxRecDepth 100000 in
theorem Sum_any (g off cap : Nat) (ps : List (List UInt8)) (w : World) (ht : Tabs w) (hs : StrsAt w g off ps) (hlen : ps.length ≤ 1000000) (hl : ∀ p ∈ ps, p.length ≤ 9223372036854775807) :
    Calls Tryd.prog 40 #[.slice (some ⟨g, off, none⟩) ps.length cap] w fun e w' => e = .returned (.int .u32 ((crc ps.flatten).toNat : Int)) ∧ Below w.heap.size w w' := by
  go_enter Tryd.func40, Tryd.ntmps40
  go_wp2
  go_loopw [3, 10] (fun vr vj wr => ∃ j : Nat, vj = .int .i64 j ∧ j ≤ ps.length ∧ vr = .int .u32 ((crcL 4294967295#32 (ps.take j).flatten).toNat : Int) ∧ Tabs wr ∧ StrsAt wr g off ps ∧ Below w.heap.size w wr) (fun _ vj _ => ps.length - (intOf vj).toNat)
  case atStart => exact ⟨0, rfl, Nat.zero_le _, rfl, ht, hs, Below.refl _ _⟩
  case round =>
    obtain ⟨j, rfl, hj, rfl, hto, hso, hbo⟩ := hrel
    obtain ⟨wo, rfl⟩ : ∃ wo, wr = wo := ⟨_, rfl⟩
    clear ht hs
    have hc : j < ps.length → wr.cell? ⟨g, off + j, none⟩ = some (.string (bstr (ps.getD j []))) := fun h => by
      have := hso j h
      rw [List.getD_eq_getElem?_getD, List.getElem?_eq_getElem h]
      exact this
    have HSO : Hid (StrsAt wr g off ps) := hso
    clear hso
    go_wp2
    · have hlt : j < ps.length := by assumption
      have hpl : ps[j].length ≤ 9223372036854775807 := hl _ (List.getElem_mem hlt)
      obtain ⟨p, hp⟩ : ∃ p, p = ps[j] := ⟨_, rfl⟩
      obtain ⟨r0, hr0⟩ : ∃ r0, r0 = crcL 4294967295#32 (ps.take j).flatten := ⟨_, rfl⟩
      rw [← hp] at hpl
      rw [← hr0, ← hp]
      have HP : Hid (p = ps[j]) := hp
      have HR0 : Hid (r0 = crcL 4294967295#32 (ps.take j).flatten) := hr0
      clear hp hr0 hc hl
      obtain ⟨wp, hwp⟩ : ∃ wp, wp = wr := ⟨_, rfl⟩
      rw [← hwp]
      rw [← hwp] at hto hbo HSO
      clear hwp
      go_loopw [3, 16] (fun vr vk wx => ∃ k : Nat, vk = .int .i64 k ∧ k ≤ p.length ∧ vr = .int .u32 ((crcL r0 (p.take k)).toNat : Int) ∧ Tabs wx ∧ Hid (StrsAt wx g off ps) ∧ Below w.heap.size w wx) (fun _ vk _ => p.length - (intOf vk).toNat)
      case atStart => exact ⟨0, rfl, Nat.zero_le _, rfl, hto, HSO, hbo⟩
      case round =>
        obtain ⟨k, rfl, hk, rfl, htx, hsx, hbx⟩ := hrel
        obtain ⟨r, hr⟩ : ∃ r, r = crcL r0 (p.take k) := ⟨_, rfl⟩
        have HR : Hid (r = crcL r0 (p.take k)) := hr
        rw [← hr]
        clear hr
        by_cases hkl : k < p.length
        · obtain ⟨b, hb⟩ : ∃ b, b = p[k] := ⟨_, rfl⟩
          have HB : Hid (b = p[k]) := hb
          clear hb
          obtain ⟨o, ho⟩ : ∃ o, o = (r.toNat ^^^ b.toNat) % 256 := ⟨_, rfl⟩
          have HO : Hid (o = (r.toNat ^^^ b.toNat) % 256) := ho
          have hbl := b.toNat_lt
          have ho256 : o < 256 := by omega
          have hxor : bits .xor .u8 ((r.toNat : Int) % 256) (p[k].toNat : Int) = (o : Int) := by
            rw [← HB.out, show ((r.toNat : Int) % 256) = ((r.toNat % 256 : Nat) : Int) from by omega, u8_xor_nat _ _ (by omega) hbl, ho]
            have h8 := @Nat.xor_mod_two_pow r.toNat b.toNat 8
            rw [show (2 : Nat) ^ 8 = 256 from rfl, Nat.mod_eq_of_lt hbl] at h8
            rw [h8]
          have hand : bits .and .u8 (o : Int) 15 = (o : Int) % 16 := u8_and15 _ (by omega) (by omega)
          have hc0 : wr.cell? ⟨0, o % 16, none⟩ = some (.int .u32 ((lowB (o % 16)).toNat : Int)) := htx.2.1 _ (by omega)
          have hc1 : wr.cell? ⟨1, o / 16, none⟩ = some (.int .u32 ((highB (o / 16)).toNat : Int)) := htx.2.2 _ (by omega)
          clear ho
          go_wp2
          go_quiet (fail)
          rw [u32_shr8, u32_xor_bv, u32_xor_bv]
          go_wp2
          go_roundw
          case rel =>
            refine ⟨k + 1, by go_num, by omega, ?_, htx, hsx, below_drewN hbx _⟩
            rw [List.take_succ_eq_append_getElem hkl, crcL_append, ← HR.out, crcL_cons, crcL_nil, crc1_tables r p[k] o (by rw [HO.out, HB.out])]
          case measure => simp [intOf]; omega
        · have hke : k = p.length := by omega
          subst hke
          rw [List.take_length] at HR
          go_wp2
          go_roundw
          case rel =>
            refine ⟨j + 1, by go_num, by omega, ?_, htx, hsx.out, hbx⟩
            rw [take_flatten hlt, crcL_append, ← HR0.out, ← HP.out, ← HR.out]
          case measure => simp [intOf]; omega
    · have hje : j = ps.length := by omega
      subst hje
      go_ret
      refine ⟨?_, hbo⟩
      rw [List.take_length]
      unfold crc
      rw [← u32_not]
      rfl

end Go.Proofs.YtnfnlfdplnekgaaDoor

namespace Go.Proofs.YtnfnlfdplnekgaaDoor
open Go.ChangeShapes Go.WideShapes Go.ChangeAt Go.RowKit

theorem own : ownKnob Tryd.prog.godebug = none := by kernel_rfl
theorem gLow : Tryd.prog.globalNamed "acreage/seal.lowHalf" = some 0 := by kernel_rfl
theorem gHigh : Tryd.prog.globalNamed "acreage/seal.highHalf" = some 1 := by kernel_rfl
theorem gLowType : (Tryd.prog.globals[0]?).map (·.type) = some 114 := by kernel_rfl
theorem gHighType : (Tryd.prog.globals[1]?).map (·.type) = some 114 := by kernel_rfl
theorem cells16 : Tryd.prog.cellsOf 114 = 16 := by kernel_rfl
theorem cells1u : Tryd.prog.cellsOf 31 = 1 := by kernel_rfl
/-- The variables, as the rows list them. -/
def laid2 : List (String × DataW Unit) := [("acreage/seal.lowHalf", Rows.laid_acreage_seal_lowHalf), ("acreage/seal.highHalf", Rows.laid_acreage_seal_highHalf)]
theorem low_all : ∀ i : Fin 16, lowT.getD i.val 0 = ((lowB i.val).toNat : Int) := by decide +kernel
theorem high_all : ∀ i : Fin 16, highT.getD i.val 0 = ((highB i.val).toNat : Int) := by decide +kernel
theorem var_lt {W : World} {n : String} {cs : Array Value} {g : Nat} (hg : Tryd.prog.globalNamed n = some g) (h : W.var? Tryd.prog n = some cs) : g < W.heap.size := by
  unfold World.var? at h
  rw [hg, Option.bind_some] at h
  rcases Nat.lt_or_ge g W.heap.size with a | a
  · exact a
  · rw [Array.getElem?_eq_none a] at h
    cases h
theorem tabs_of_laid {W : World} (h0 : laidMetH Tryd.prog laid2 W) : Tabs W := by
  have h : laidMet Tryd.prog laid2 W := h0
  have t1 := laidMet.tail h
  have h7 : 1 < W.heap.size := by
    obtain ⟨ps, ⟨g, t, cs, f, p, q, hg, ht, hv, _⟩, _⟩ := t1
    exact var_lt gHigh hv
  have hl : Lib.TabIs Tryd.prog W "acreage/seal.lowHalf" .u32 lowT := Lib.tabIs_of_head gLow gLowType Tryd.underlying114 Tryd.underlying31 cells1u cells16 h
  have hh : Lib.TabIs Tryd.prog W "acreage/seal.highHalf" .u32 highT := Lib.tabIs_of_head gHigh gHighType Tryd.underlying114 Tryd.underlying31 cells1u cells16 t1
  refine ⟨by omega, fun i hi => ?_, fun i hi => ?_⟩
  · rw [hl.cell gLow i hi, low_all ⟨i, hi⟩]
  · rw [hh.cell gHigh i hi, high_all ⟨i, hi⟩]

end Go.Proofs.YtnfnlfdplnekgaaDoor
