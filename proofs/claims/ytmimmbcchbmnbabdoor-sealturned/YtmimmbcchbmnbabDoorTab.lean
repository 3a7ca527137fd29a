/-
  The two tables of seal, as the walks see them; and the contract of seal.Sum: whatever parts it is handed, the sum of them all, one behind the other; nothing turns.
-/
import Derived.Test.YtmimmbcchbmnbabDoorAid
import Derived.Test.YtmimmbcchbmnbabDoorCrc
import Derived.BigQuiet
import Derived.Laws.BitsAllLaws
namespace Go.Proofs.YtmimmbcchbmnbabDoor
open Go.RowKit
attribute [local go_sem] size_bstr getElem_bstr toList_bstr append_bstr

/-- The two tables lie where the program's start laid them. -/
def Tabs (w : World) : Prop :=
  2 ≤ w.heap.size ∧ (∀ i : Nat, i < 16 → w.cell? ⟨0, i, none⟩ = some (.int .u32 ((lowB i).toNat : Int))) ∧ (∀ i : Nat, i < 16 → w.cell? ⟨1, i, none⟩ = some (.int .u32 ((highB i).toNat : Int)))
theorem Tabs.below {w w' : World} (h : Tabs w) (b : Below w.heap.size w w') : Tabs w' := by
  have h2 := h.1
  refine ⟨Nat.le_trans h2 b.size, fun i hi => ?_, fun i hi => ?_⟩
  · rw [(bcell b).1 0 i (by omega)]; exact h.2.1 i hi
  · rw [(bcell b).1 1 i (by omega)]; exact h.2.2 i hi

/-- A list of strings stands from a place on. -/
def StrsAt (w : World) (g off : Nat) (ps : List (List UInt8)) : Prop := ∀ (j : Nat) (h : j < ps.length), w.cell? ⟨g, off + j, none⟩ = some (.string (bstr ps[j]))

theorem u32_xor_bv (a b : BitVec 32) : bits .xor .u32 (a.toNat : Int) (b.toNat : Int) = ((a ^^^ b).toNat : Int) := by
  rw [u32_xor_nat _ _ a.isLt b.isLt, BitVec.toNat_xor]
theorem u32_shr8 (a : BitVec 32) : (a.toNat : Int) / (256 : Int) = ((a >>> 8).toNat : Int) := by
  rw [BitVec.toNat_ushiftRight, Nat.shiftRight_eq_div_pow]
  omega
theorem u32_not (a : BitVec 32) : bits .xor .u32 4294967295 (a.toNat : Int) = ((~~~ a).toNat : Int) := by
  have h := u32_xor_bv (BitVec.allOnes 32) a
  rw [BitVec.allOnes_xor] at h
  exact h
theorem take_flatten {ps : List (List UInt8)} {j : Nat} (h : j < ps.length) : (ps.take (j + 1)).flatten = (ps.take j).flatten ++ ps[j] := by
  rw [List.take_succ_eq_append_getElem h, List.flatten_append]
  simp
theorem ret_u32 {a b : BitVec 32} (h : a = b) : Ending.returned (.int .u32 (a.toNat : Int)) = .returned (.int .u32 (b.toNat : Int)) := by rw [h]

set_option maxHeartbeats 1000000 in
set_option maxRecDepth 100000 in
theorem Sum_any (g off cap : Nat) (ps : List (List UInt8)) (w : World) (ht : Tabs w) (hs : StrsAt w g off ps) (hlen : ps.length ≤ 1000000) (hl : ∀ p ∈ ps, p.length ≤ 9223372036854775807) :
    Calls Tryd.prog 9 #[.slice (some ⟨g, off, none⟩) ps.length cap] w fun e w' => e = .returned (.int .u32 ((crc ps.flatten).toNat : Int)) ∧ Below w.heap.size w w' := by
  go_enter Tryd.func9, Tryd.ntmps9
  go_wp2
  go_loopw [3, 10] (fun vr vj wr => ∃ j : Nat, vj = .int .i64 j ∧ j ≤ ps.length ∧ vr = .int .u32 ((crcL 4294967295#32 (ps.take j).flatten).toNat : Int) ∧ Tabs wr ∧ StrsAt wr g off ps ∧ Below w.heap.size w wr) (fun _ vj _ => ps.length - (intOf vj).toNat)
  case atStart => exact ⟨0, rfl, Nat.zero_le _, rfl, ht, hs, Below.refl _ _⟩
  case round =>
    obtain ⟨j, rfl, hj, rfl, hto, hso, hbo⟩ := hrel
    obtain ⟨wo, rfl⟩ : ∃ wo, wr = wo := ⟨_, rfl⟩
    clear ht hs
    have hc : j < ps.length → wr.cell? ⟨g, off + j, none⟩ = some (.string (bstr (ps.getD j []))) := fun h => by
      have := hso j h
      rw [List.getD_eq_getElem?_getD, List.getElem?_eq_getElem h]
      exact this
    have HSO : Hid (StrsAt wr g off ps) := hso
    clear hso
    go_wp2
    · have hlt : j < ps.length := by assumption
      have hpl : ps[j].length ≤ 9223372036854775807 := hl _ (List.getElem_mem hlt)
      obtain ⟨p, hp⟩ : ∃ p, p = ps[j] := ⟨_, rfl⟩
      obtain ⟨r0, hr0⟩ : ∃ r0, r0 = crcL 4294967295#32 (ps.take j).flatten := ⟨_, rfl⟩
      rw [← hp] at hpl
      rw [← hr0, ← hp]
      have HP : Hid (p = ps[j]) := hp
      have HR0 : Hid (r0 = crcL 4294967295#32 (ps.take j).flatten) := hr0
      clear hp hr0 hc hl
      obtain ⟨wp, hwp⟩ : ∃ wp, wp = wr := ⟨_, rfl⟩
      rw [← hwp]
      rw [← hwp] at hto hbo HSO
      clear hwp
      go_loopw [3, 16] (fun vr vk wx => ∃ k : Nat, vk = .int .i64 k ∧ k ≤ p.length ∧ vr = .int .u32 ((crcL r0 (p.take k)).toNat : Int) ∧ Tabs wx ∧ Hid (StrsAt wx g off ps) ∧ Below w.heap.size w wx) (fun _ vk _ => p.length - (intOf vk).toNat)
      case atStart => exact ⟨0, rfl, Nat.zero_le _, rfl, hto, HSO, hbo⟩
      case round =>
        obtain ⟨k, rfl, hk, rfl, htx, hsx, hbx⟩ := hrel
        obtain ⟨r, hr⟩ : ∃ r, r = crcL r0 (p.take k) := ⟨_, rfl⟩
        have HR : Hid (r = crcL r0 (p.take k)) := hr
        rw [← hr]
        clear hr
        by_cases hkl : k < p.length
        · obtain ⟨b, hb⟩ : ∃ b, b = p[k] := ⟨_, rfl⟩
          have HB : Hid (b = p[k]) := hb
          clear hb
          obtain ⟨o, ho⟩ : ∃ o, o = (r.toNat ^^^ b.toNat) % 256 := ⟨_, rfl⟩
          have HO : Hid (o = (r.toNat ^^^ b.toNat) % 256) := ho
          have hbl := b.toNat_lt
          have ho256 : o < 256 := by omega
          have hxor : bits .xor .u8 ((r.toNat : Int) % 256) (p[k].toNat : Int) = (o : Int) := by
            rw [← HB.out, show ((r.toNat : Int) % 256) = ((r.toNat % 256 : Nat) : Int) from by omega, u8_xor_nat _ _ (by omega) hbl, ho]
            have h8 := @Nat.xor_mod_two_pow r.toNat b.toNat 8
            rw [show (2 : Nat) ^ 8 = 256 from rfl, Nat.mod_eq_of_lt hbl] at h8
            rw [h8]
          have hand : bits .and .u8 (o : Int) 15 = (o : Int) % 16 := u8_and15 _ (by omega) (by omega)
          have hc0 : wr.cell? ⟨0, o % 16, none⟩ = some (.int .u32 ((lowB (o % 16)).toNat : Int)) := htx.2.1 _ (by omega)
          have hc1 : wr.cell? ⟨1, o / 16, none⟩ = some (.int .u32 ((highB (o / 16)).toNat : Int)) := htx.2.2 _ (by omega)
          clear ho
          go_wp2
          go_quiet (fail)
          rw [u32_shr8, u32_xor_bv, u32_xor_bv]
          go_wp2
          go_roundw
          case rel =>
            refine ⟨k + 1, by go_num, by omega, ?_, htx, hsx, below_drewN hbx _⟩
            rw [List.take_succ_eq_append_getElem hkl, crcL_append, ← HR.out, crcL_cons, crcL_nil, crc1_tables r p[k] o (by rw [HO.out, HB.out])]
          case measure => simp [intOf]; omega
        · have hke : k = p.length := by omega
          subst hke
          rw [List.take_length] at HR
          go_wp2
          go_roundw
          case rel =>
            refine ⟨j + 1, by go_num, by omega, ?_, htx, hsx.out, hbx⟩
            rw [take_flatten hlt, crcL_append, ← HR0.out, ← HP.out, ← HR.out]
          case measure => simp [intOf]; omega
    · have hje : j = ps.length := by omega
      subst hje
      go_ret
      refine ⟨?_, hbo⟩
      rw [List.take_length]
      unfold crc
      rw [← u32_not]
      rfl

end Go.Proofs.YtmimmbcchbmnbabDoor
