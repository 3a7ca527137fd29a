/-
  The document's Check and Has.
-/
import Derived.Test.YtiingodillcleaaBRef
namespace Go.Proofs.Ytiingodillcleaa
open Go.RowKit
attribute [local go_sem] size_bstr getElem_bstr toList_bstr

set_option maxHeartbeats 1000000 in
theorem RCheck_any (f : List UInt8) (w : World) (hl : f.length ≤ 9223372036854775807) :
    Calls Try.prog 13 #[.string (bstr f)] w fun e w' => e = .returned (.int .i64 (ckE f)) ∧ w' = w := by
  have hck : ckE f = if (9 ≤ f.length ∧ f.length ≤ 131073) ∧ 1 ≤ (f.getD 0 0).toNat ∧ (f.getD 0 0).toNat ≤ 8 then 0 else 4 := by
    unfold ckE isF
    simp [and_assoc]
  by_cases h1 : f.length < 9
  · have e : ckE f = 4 := by rw [hck, if_neg (by omega)]
    rw [e]
    go_enter Try.func13, Try.ntmps13
    go_wp2
    go_ret
    exact ⟨rfl, rfl⟩
  · obtain ⟨k, l, rfl⟩ : ∃ k l, f = k :: l := by
      cases f with
      | nil => simp at h1
      | cons k l => exact ⟨k, l, rfl⟩
    have hg : (k :: l).getD 0 0 = k := rfl
    rw [hg] at hck
    simp only [List.length_cons] at h1 hck hl
    have hkl := k.toNat_lt
    have c1 : ¬ ((l.length : Int) + 1 < 9) := by omega
    by_cases h2 : 131073 < l.length + 1
    · have e : ckE (k :: l) = 4 := by rw [hck, if_neg (by omega)]
      rw [e]
      clear hck
      have c2 : (131073 : Int) < (l.length : Int) + 1 := by omega
      go_enter Try.func13, Try.ntmps13
      go_wp2
      all_goals first | (exfalso; omega) | (go_ret; exact ⟨rfl, rfl⟩)
    · have c2 : ¬ ((131073 : Int) < (l.length : Int) + 1) := by omega
      by_cases h3 : k.toNat < 1
      · have e : ckE (k :: l) = 4 := by rw [hck, if_neg (by omega)]
        rw [e]
        clear hck
        have c3 : (k.toNat : Int) < 1 := by omega
        go_enter Try.func13, Try.ntmps13
        go_wp2
        all_goals first | (exfalso; omega) | (go_ret; exact ⟨rfl, rfl⟩)
      · have c3 : ¬ ((k.toNat : Int) < 1) := by omega
        by_cases h4 : 8 < k.toNat
        · have e : ckE (k :: l) = 4 := by rw [hck, if_neg (by omega)]
          rw [e]
          clear hck
          have c4 : (8 : Int) < (k.toNat : Int) := by omega
          go_enter Try.func13, Try.ntmps13
          go_wp2
          all_goals first | (exfalso; omega) | (go_ret; exact ⟨rfl, rfl⟩)
        · have c4 : ¬ ((8 : Int) < (k.toNat : Int)) := by omega
          have e : ckE (k :: l) = 0 := by rw [hck, if_pos (by omega)]
          rw [e]
          clear hck
          go_enter Try.func13, Try.ntmps13
          go_wp2
          all_goals first | (exfalso; omega) | (go_ret; exact ⟨rfl, rfl⟩)

theorem bit_shr (l : List UInt8) (p D E : Nat) (hD : D = p / 8) (hE : E = p % 8) (hl : D < l.length) : (bits BinOp.and IntKind.u8 ((((l[D]).toNat : Nat) : Int) / 2 ^ E) 1 == 0) = !(hasB l p) := by
  have hx := (l[D]).toNat_lt
  have e1 : ((((l[D]).toNat : Nat) : Int) / 2 ^ E) = (((l[D]).toNat / 2 ^ E : Nat) : Int) := by
    rw [Int.natCast_ediv, Int.natCast_pow]
    rfl
  have hq : (l[D]).toNat / 2 ^ E < 256 := Nat.lt_of_le_of_lt (Nat.div_le_self _ _) hx
  have e2 : bits BinOp.and IntKind.u8 (((l[D]).toNat / 2 ^ E : Nat) : Int) 1 = (((l[D]).toNat / 2 ^ E % 2 : Nat) : Int) := by
    rw [show (1 : Int) = ((1 : Nat) : Int) from rfl, u8_and_nat _ _ hq (by decide), Nat.and_one_is_mod]
  rw [e1, e2, shr_bit]
  have hh : hasB l p = (l[D]).toNat.testBit E := by
    unfold hasB
    rw [← hD, ← hE, List.getD_eq_getElem?_getD, List.getElem?_eq_getElem hl]
    rfl
  rw [hh]
  cases (l[D]).toNat.testBit E <;> rfl

set_option maxHeartbeats 4000000 in
set_option maxRecDepth 100000 in
theorem RHas_any (f s : List UInt8) (w : World) (hl : f.length ≤ 9223372036854775807) (hs : s.length ≤ 9223372036854775807) :
    Calls Try.prog 15 #[.string (bstr f), .string (bstr s)] w fun e w' => e = .returned (.bool (hasF f s)) ∧ Below w.heap.size w w' := by
  have hck := RCheck_any f w hl
  cases hF : isF f with
  | false =>
    have e4 : ckE f = 4 := by unfold ckE; rw [hF]; rfl
    have ht : hasF f s = true := by unfold hasF; rw [hF]; rfl
    rw [e4] at hck
    rw [ht]
    go_enter Try.func15, Try.ntmps15
    go_wp2_with fail
    refine hck.mono ?_
    rintro e w1 ⟨rfl, rfl⟩
    go_wp2
    go_ret
    exact ⟨rfl, Below.refl _ _⟩
  | true =>
    have e4 : ckE f = 0 := by unfold ckE; rw [hF]; rfl
    obtain ⟨k, l, rfl⟩ : ∃ k l, f = k :: l := by
      cases f with
      | nil => simp [isF] at hF
      | cons k l => exact ⟨k, l, rfl⟩
    have hkl : 1 ≤ k.toNat ∧ k.toNat ≤ 8 ∧ 8 ≤ l.length ∧ l.length ≤ 131072 := by
      unfold isF at hF
      have hg : (k :: l).getD 0 0 = k := rfl
      rw [hg] at hF
      simp at hF
      omega
    have hha : Hid (hasF (k :: l) s = (plcs s k.toNat (8 * l.length)).all fun p => hasB l p) := by show hasF (k :: l) s = _; unfold hasF; rw [hF]; rfl
    obtain ⟨hk1, hk8, hl8, hlm⟩ := hkl
    rw [e4] at hck
    clear hF e4
    obtain ⟨M, hM⟩ : ∃ M, M = 8 * l.length := ⟨_, rfl⟩
    have hMi : 8 * (l.length : Int) = (M : Int) := by omega
    rw [← hM] at hha
    have HM : Hid _ := hM
    have hrp := RPlaces_any s k.toNat M w hk8 (by omega) (by omega) hs
    clear hM
    go_enter Try.func15, Try.ntmps15
    go_wp2_with fail
    refine hck.mono ?_
    rintro e w1 ⟨rfl, rfl⟩
    go_wp2_with fail
    refine hrp.mono ?_
    rintro e w2 ⟨v, rfl, hown, hb2⟩
    obtain ⟨hkn, q, cap, g, rfl, hcap, hR, _⟩ := own_irow hown
    rw [plcs_length] at hcap ⊢
    have hpl : Hid ((plcs s k.toNat M).length = k.toNat) := plcs_length s k.toNat M
    obtain ⟨rfl, hg, hcs⟩ := hR.out (by rw [plcs_length]; omega)
    clear hck hrp hown hkn
    go_wp2_with fail
    go_loopw [6] (fun s6 wr => ∃ i : Nat, s6 = .int .i64 (i : Int) ∧ i ≤ k.toNat ∧ (∀ j, j < i → hasB l (plc s M j) = true) ∧ Below w2.heap.size w2 wr) (fun s6 _ => k.toNat - (intOf s6).toNat)
    case atStart => exact ⟨0, rfl, Nat.zero_le _, fun j hj => absurd hj (Nat.not_lt_zero j), Below.refl _ _⟩
    case round =>
      obtain ⟨i, rfl, hik, hall, hbel⟩ := hrel
      by_cases hlt : i < k.toNat
      · have c1 : (i : Int) < (k.toNat : Int) := by omega
        have cp : wr.cell? ⟨g, i, none⟩ = some (.int .i64 (plc s M i : Int)) := by
          rw [(bcell hbel).1 g i hg, hcs i (by rw [hpl.out]; exact hlt), plcs_get hlt]
        have hp := plc_lt s (m := M) (by omega) i
        have HAL : Hid _ := hall
        obtain ⟨p, hpe⟩ : ∃ p, p = plc s M i := ⟨_, rfl⟩
        rw [← hpe] at cp hp
        have HPE : Hid _ := hpe
        obtain ⟨D, hD⟩ : ∃ D : Nat, D = p / 8 := ⟨_, rfl⟩
        obtain ⟨E, hE⟩ : ∃ E : Nat, E = p % 8 := ⟨_, rfl⟩
        have f1 : (p : Int) / 8 = (D : Int) := by omega
        obtain ⟨A, hA⟩ : ∃ A : Nat, A = D + 1 := ⟨_, rfl⟩
        have f2 : 1 + (D : Int) = (A : Int) := by omega
        have f3 : (p : Int) % 8 = (E : Int) := by omega
        have hE8 : E ≤ 7 := by omega
        have hDl : D < l.length := by have := HM.out; omega
        have HD : Hid _ := hD
        have HE : Hid _ := hE
        have c2 : (A : Int) < (l.length : Int) + 1 := by omega
        have hAl : A < (k :: l).length := by rw [List.length_cons]; omega
        have HAD : Hid _ := hA
        clear hpe hall hD hE hA
        go_wp2_with fail
        go_region
        have hbt : (bits BinOp.and IntKind.u8 (((((k :: l)[A]'hAl).toNat : Nat) : Int) / 2 ^ E) 1 == 0) = !(hasB l (plc s M i)) := by
          rw [← HPE.out]
          have eA : (k :: l)[A]'hAl = l[D]'hDl := by simp [HAD.out]
          rw [eA]
          exact bit_shr l p D E HD.out HE.out hDl
        rw [hbt]
        have hbw := hbel.drew
        clear hbt cp hp f1 f2 f3
        cases hb : hasB l (plc s M i) with
        | true =>
          go_wp2
          go_roundw
          case rel =>
            refine ⟨i + 1, by go_num, by omega, fun j hj => ?_, hbw⟩
            by_cases hji : j < i
            · exact HAL.out j hji
            · obtain rfl : j = i := by omega
              exact hb
          case measure => simp [intOf]; omega
        | false =>
          have hans : Hid (hasF (k :: l) s = false) := by
            show _ = _
            rw [hha.out, List.all_eq_false]
            exact ⟨plc s M i, List.mem_map.2 ⟨i, List.mem_range.2 hlt, rfl⟩, by rw [hb]; simp⟩
          go_wp2
          go_ret
          exact ⟨by rw [hans.out]; rfl, below2 hb2 hbw⟩
      · have hz : i = k.toNat := by omega
        have c1 : ¬ (i : Int) < (k.toNat : Int) := by omega
        have hans : hasF (k :: l) s = true := by
          rw [hha.out, List.all_eq_true]
          intro p hp
          unfold plcs at hp
          obtain ⟨j, hj, rfl⟩ := List.mem_map.1 hp
          exact hall j (by rw [hz]; exact List.mem_range.1 hj)
        have HAN : Hid _ := hans
        clear hz hall hans
        go_wp2
        go_ret
        exact ⟨by rw [HAN.out]; rfl, below2 hb2 hbel⟩

end Go.Proofs.Ytiingodillcleaa
