/-
  BloomKnown, walked.
-/
import Derived.Test.YtiingodillcleaaBCut
namespace Go.Proofs.Ytiingodillcleaa
open Go.RowKit
attribute [local go_sem] size_bstr getElem_bstr toList_bstr append_bstr

/-- The cells of a new row of n texts. -/
def zsS (n : Nat) : Array Value := madeCells (Value.string .empty).cells n
theorem zsS_get (n j : Nat) (h : j < n) : (zsS n)[j]? = some (.string (bstr [])) := by
  unfold zsS madeCells
  have h1 : j % 1 = 0 := Nat.mod_one j
  simp [h, Value.cells, h1]
  rfl
theorem makeS_run (k : IntKind) (n : Nat) (hn : n ≤ 2000000) (w : World) : (Instr.makeSlice 22 (.int k (n : Int)) (.int k (n : Int))).run Try.prog w = .ok (.slice (some ⟨w.heap.size, 0, none⟩) n n) (w.alloc (.cells (zsS n) 9)) := by
  obtain ⟨i0, hi, hz0, hz1, hz2⟩ := info_parts Try.infoStr
  have := run_make (P := Try.prog) (w := w) 22 9 i0 (.string .empty) Try.underlying22 hi hz0 k k (n : Int) (n : Int) (by omega) (by omega) (by rw [hz2]; omega) (by omega)
  rw [Int.toNat_natCast, hz1, Nat.mul_one] at this
  exact this
theorem made_sarg (n : Nat) (w : World) : SArg (w.alloc (.cells (zsS n) 9)) (some ⟨w.heap.size, 0, none⟩) w.heap.size 0 (List.replicate n []) := fun _ => by
  refine ⟨rfl, fun j hj => ?_, by simp⟩
  rw [List.length_replicate] at hj
  rw [Nat.zero_add, (cells_block (heap_alloc_new w _)).1 j, zsS_get n j hj, List.getElem_replicate]

theorem mk_a : mkF [[97]] 1 = [1, 0, 16, 0, 0, 0, 0, 0, 0] := by decide +kernel
theorem mk_32 : mkF [] 32 = [8, 0, 0, 0, 0, 0, 0, 0, 0] := by decide +kernel
/-- The one bit of the filter of 'a'. -/
def onA (k b : Nat) : Nat := if k = 2 ∧ b = 4 then 1 else 0
theorem step_a : ∀ k, k < 9 → 0 < k → ∀ b, b < 8 → (([1, 0, 16, 0, 0, 0, 0, 0, 0] : List UInt8).getD k 0).toNat / 2 ^ b % 2 = onA k b := by decide
/-- How many bits were counted. -/
def cntA (k b : Nat) : Nat := if 2 < k ∨ (k = 2 ∧ 4 < b) then 1 else 0
theorem cntA_next (k b : Nat) : cntA k b + onA k b = cntA k (b + 1) := by
  unfold cntA onA
  split <;> split <;> split <;> omega
theorem cntA_over (k : Nat) : cntA k 8 = cntA (k + 1) 0 := by
  unfold cntA
  split <;> split <;> omega
theorem step_int (L : List UInt8) (k b v : Nat) (hk : k < L.length) (h : (L.getD k 0).toNat / 2 ^ b % 2 = v) : bits BinOp.and IntKind.u8 ((((L[k]).toNat : Nat) : Int) / 2 ^ b) 1 = (v : Int) := by
  have hx := (L[k]).toNat_lt
  have e0 : L.getD k 0 = L[k] := by rw [List.getD_eq_getElem?_getD, List.getElem?_eq_getElem hk]; rfl
  rw [e0] at h
  have e1 : ((((L[k]).toNat : Nat) : Int) / 2 ^ b) = (((L[k]).toNat / 2 ^ b : Nat) : Int) := by
    rw [Int.natCast_ediv, Int.natCast_pow]
    rfl
  have hq : (L[k]).toNat / 2 ^ b < 256 := Nat.lt_of_le_of_lt (Nat.div_le_self _ _) hx
  rw [e1, show (1 : Int) = ((1 : Nat) : Int) from rfl, u8_and_nat _ _ hq (by decide), Nat.and_one_is_mod, h]
theorem len_one (l : List UInt8) (b : UInt8) : (l ++ [b]).length = l.length + 1 := by rw [List.length_append, List.length_singleton]
theorem isF_long (f : List UInt8) (h : 131073 < f.length) : isF f = false := by
  have h2 : ¬ f.length ≤ 131073 := by omega
  unfold isF
  rw [decide_eq_false h2, Bool.and_false, Bool.false_and, Bool.false_and]
theorem Check_no (f : List UInt8) (w : World) (hl : f.length ≤ 9223372036854775807) (h : isF f = false) :
    Calls Try.prog 12 #[.string (bstr f)] w fun e w' => e = .returned (.int .i64 4) ∧ w' = w := by
  have := Check_any f w hl
  unfold ckE at this
  rw [h] at this
  exact this
theorem Check_yes (f : List UInt8) (w : World) (hl : f.length ≤ 9223372036854775807) (h : isF f = true) :
    Calls Try.prog 12 #[.string (bstr f)] w fun e w' => e = .returned (.int .i64 0) ∧ w' = w := by
  have := Check_any f w hl
  unfold ckE at this
  rw [h] at this
  exact this
theorem Has_no (f s : List UInt8) (w : World) (hl : f.length ≤ 9223372036854775807) (hs : s.length ≤ 9223372036854775807) (h : isF f = false) :
    Calls Try.prog 14 #[.string (bstr f), .string (bstr s)] w fun e w' => e = .returned (.bool true) ∧ Below w.heap.size w w' := by
  have := Has_any f s w hl hs
  unfold hasF at this
  rw [h] at this
  exact this
/-- What is none. -/
def bad4 : List (List UInt8) := [[], [1, 0, 0, 0, 0, 0, 0, 0], [0, 0, 0, 0, 0, 0, 0, 0, 0], [9, 0, 0, 0, 0, 0, 0, 0, 0]]
theorem bad4_none : ∀ s ∈ bad4, isF s = false ∧ s.length ≤ 9 := by decide

set_option maxHeartbeats 4000000 in
set_option maxRecDepth 100000 in
theorem Known_any (w : World) :
    Calls Try.prog 7 #[] w fun e w' => e = .returned (.bool true) ∧ Below w.heap.size w w' := by
  have mS1 : ∀ W : World, (Instr.makeSlice 22 (.int .i64 32769) (.int .i64 32769)).run Try.prog W = .ok (.slice (some ⟨W.heap.size, 0, none⟩) 32769 32769) (W.alloc (.cells (zsS 32769) 9)) := fun W => makeS_run .i64 32769 (by decide) W
  have mS2 : ∀ W : World, (Instr.makeSlice 22 (.int .i64 32768) (.int .i64 32768)).run Try.prog W = .ok (.slice (some ⟨W.heap.size, 0, none⟩) 32768 32768) (W.alloc (.cells (zsS 32768) 9)) := fun W => makeS_run .i64 32768 (by decide) W
  have HSA : Hid (∀ W : World, SArg (W.alloc (.cells (zsS 32768) 9)) (some ⟨W.heap.size, 0, none⟩) W.heap.size 0 (List.replicate 32768 [])) := fun W => made_sarg 32768 W
  generalize zsS 32769 = Z1 at *
  generalize zsS 32768 = Z2 at *
  have hB0 : (w.alloc (.cells #[.string (bstr [97])] 9)).heap[w.heap.size]? = some (.cells #[.string (bstr [97])] 9 (0, 0)) := heap_alloc_new _ _
  have hb0 : Below w.heap.size w (w.alloc (.cells #[.string (bstr [97])] 9)) := (Below.refl _ _).alloc (Nat.le_refl _) _
  have hsz : w.heap.size < (w.alloc (.cells #[.string (bstr [97])] 9)).heap.size := by simp
  obtain ⟨w0, hw0⟩ : ∃ w0, w0 = w.alloc (.cells #[.string (bstr [97])] 9) := ⟨_, rfl⟩
  have ew0 : w.alloc (.cells #[.string ⟨#[97]⟩] 9) = w0 := by rw [hw0]; rfl
  rw [← hw0] at hB0 hb0 hsz
  have hsa : SArg w0 (some ⟨w.heap.size, 0, none⟩) w.heap.size 0 [[97]] := fun _ => ⟨rfl, fun j hj => by
    rw [(cells_block hB0).1]
    match j, hj with
    | 0, _ => rfl, hsz⟩
  have hm1 := Make_ok (some ⟨w.heap.size, 0, none⟩) w.heap.size 0 1 [[97]] 1 w0 hsa (by decide) (by decide) (by decide) (fun s hs => by simp at hs; subst hs; decide)
  rw [mk_a] at hm1
  have hl9 : ([1, 0, 16, 0, 0, 0, 0, 0, 0] : List UInt8).length = 9 := rfl
  have hA0 : ∀ h : 0 < ([1, 0, 16, 0, 0, 0, 0, 0, 0] : List UInt8).length, ([1, 0, 16, 0, 0, 0, 0, 0, 0] : List UInt8)[0].toNat = 1 := fun _ => rfl
  have hA2 : ∀ h : 2 < ([1, 0, 16, 0, 0, 0, 0, 0, 0] : List UInt8).length, ([1, 0, 16, 0, 0, 0, 0, 0, 0] : List UInt8)[2].toNat = 16 := fun _ => rfl
  have HST : Hid (∀ k, k < 9 → 0 < k → ∀ b, b < 8 → (([1, 0, 16, 0, 0, 0, 0, 0, 0] : List UInt8).getD k 0).toNat / 2 ^ b % 2 = onA k b) := step_a
  generalize ([1, 0, 16, 0, 0, 0, 0, 0, 0] : List UInt8) = LA at *
  have HL9 : Hid _ := hl9
  have hl9i : (LA.length : Int) = 9 := by omega
  have a0 := hA0 (by rw [HL9.out]; decide)
  have a2 := hA2 (by rw [HL9.out]; decide)
  clear hw0 hA0 hA2 hl9
  go_enter Try.func7, Try.ntmps7
  go_wp2_with fail
  refine hm1.mono ?_
  rintro e w1 ⟨rfl, hb1⟩
  have hbe1 := below2 hb0 hb1
  clear hm1 hsa hB0 hb0 hsz ew0 hb1
  have hm2 := Make_nil 32 w1 (by decide) (by decide)
  rw [mk_32] at hm2
  go_wp2_with fail
  refine hm2.mono ?_
  rintro e w2 ⟨rfl, hb2⟩
  have hbe2 := below2 hbe1 hb2
  clear hm2 hb2 hbe1
  have hm3 := Make_arg none 0 0 0 w2 (by decide)
  go_wp2_with fail
  refine hm3.mono ?_
  rintro e w3 ⟨rfl, rfl⟩
  clear hm3
  have hm4 := Make_arg none 0 0 33 w3 (by decide)
  go_wp2_with fail
  refine hm4.mono ?_
  rintro e w4 ⟨rfl, rfl⟩
  clear hm4
  have hm5 := Make_long (some ⟨w4.heap.size, 0, none⟩) 32769 32769 1 (w4.alloc (.cells Z1 9)) (by decide) (by decide) (by decide)
  have hbe5 : Below w.heap.size w (w4.alloc (.cells Z1 9)) := hbe2.alloc hbe2.size _
  go_wp2_with fail
  refine hm5.mono ?_
  rintro e w5 ⟨rfl, rfl⟩
  generalize w4.alloc (.cells Z1 9) = w5 at *
  clear hm5 hbe2
  have hm6 := Make_ok (some ⟨w5.heap.size, 0, none⟩) w5.heap.size 0 32768 (List.replicate 32768 []) 32 (w5.alloc (.cells Z2 9)) (HSA.out w5) (by decide) (by decide) (by rw [List.length_replicate]; decide) (fun s hs => by rw [List.eq_of_mem_replicate hs]; decide)
  rw [List.length_replicate] at hm6
  have hML : (mkF (List.replicate 32768 []) 32).length = 131073 := by rw [mkF_length, List.length_replicate]; rfl
  have hMI : isF (mkF (List.replicate 32768 []) 32) = true := isF_mk (by decide) (by rw [List.length_replicate]; decide)
  have hbe6 : Below w.heap.size w (w5.alloc (.cells Z2 9)) := hbe5.alloc hbe5.size _
  generalize mkF (List.replicate 32768 []) 32 = MM at *
  go_wp2_with fail
  refine hm6.mono ?_
  rintro e w6 ⟨rfl, hb6⟩
  have hbe7 := below2 hbe6 hb6
  have hMli : (MM.length : Int) = 131073 := by omega
  have hc1 := Check_yes MM w6 (by omega) hMI
  have hMl2 : (MM ++ [0]).length = MM.length + 1 := len_one MM 0
  have hMN : isF (MM ++ [0]) = false := isF_long _ (by omega)
  have hc2 := Check_no (MM ++ [0]) w6 (by omega) hMN
  have hstb : (bstr [8, 0, 0, 0, 0, 0, 0, 0, 0]) = ⟨#[8, 0, 0, 0, 0, 0, 0, 0, 0]⟩ := rfl
  have hst0 : (⟨#[0]⟩ : ByteArray) = bstr [0] := rfl
  have HML : Hid _ := hML
  clear hMl2
  clear hm6 hb6 hbe5 hbe6 hML hMI hMN mS1 mS2 HSA
  go_wp2_with fail
  refine hc1.mono ?_
  rintro e w7 ⟨rfl, rfl⟩
  clear hc1
  go_wp2_with fail
  refine hc2.mono ?_
  rintro e w8 ⟨rfl, rfl⟩
  clear hc2
  go_wp2_with fail
  go_loopw [13, 14] (fun s13 s14 wr => ∃ k : Nat, s14 = .int .i64 (k : Int) ∧ 1 ≤ k ∧ k ≤ 9 ∧ s13 = .int .i64 (cntA k 0 : Int) ∧ wr = w8) (fun _ s14 _ => 9 - (intOf s14).toNat)
  case atStart => exact ⟨1, rfl, by omega, by omega, rfl, rfl⟩
  case round =>
    obtain ⟨k, rfl, hk1, hk9, rfl, hwr⟩ := hrel
    rw [hwr]
    clear hwr
    by_cases hlt : k < 9
    · have c1 : (k : Int) < 9 := by omega
      have hkl : k < LA.length := by rw [HL9.out]; exact hlt
      go_wp2_with fail
      go_loopw [13, 15] (fun s13 s15 wx => ∃ b : Nat, s15 = .int .i64 (b : Int) ∧ b ≤ 8 ∧ s13 = .int .i64 (cntA k b : Int) ∧ wx = w8) (fun _ s15 _ => 8 - (intOf s15).toNat)
      case atStart => exact ⟨0, rfl, by omega, rfl, rfl⟩
      case round =>
        obtain ⟨b, rfl, hb8, rfl, hwx⟩ := hrel
        rw [hwx]
        clear hwx
        by_cases hbl : b < 8
        · have c2 : (b : Int) < 8 := by omega
          have hst := step_int LA k b (onA k b) hkl (HST.out k hlt (by omega) b hbl)
          have HN : Hid _ := cntA_next k b
          have h1 : onA k b ≤ 1 := by unfold onA; split <;> omega
          have h2 : cntA k b ≤ 1 := by unfold cntA; split <;> omega
          generalize onA k b = o at *
          generalize cntA k b = c at *
          go_wp2
          go_roundw
          case rel => exact ⟨b + 1, by go_num, by omega, by rw [← HN.out]; go_num, trivial⟩
          case measure => simp [intOf]; omega
        · obtain rfl : b = 8 := by omega
          have HO : Hid _ := cntA_over k
          generalize cntA k 8 = c at *
          go_wp2
          go_roundw
          case rel => exact ⟨k + 1, by go_num, by omega, by omega, by rw [← HO.out], trivial⟩
          case measure => simp [intOf]; omega
    · have hk : k = 9 := by omega
      have e9 : (cntA k 0 : Int) = 1 := by rw [hk]; rfl
      rw [e9]
      have c0 : ¬ (k : Int) < 9 := by omega
      clear hk1 hk9 hlt hk e9
      obtain ⟨wb, hwb⟩ : ∃ wb, wb = w8.alloc (.cells #[.string ⟨#[]⟩, .string ⟨#[1, 0, 0, 0, 0, 0, 0, 0]⟩, .string ⟨#[0, 0, 0, 0, 0, 0, 0, 0, 0]⟩, .string ⟨#[9, 0, 0, 0, 0, 0, 0, 0, 0]⟩] 9) := ⟨_, rfl⟩
      have hBb : wb.heap[w8.heap.size]? = some (.cells #[.string ⟨#[]⟩, .string ⟨#[1, 0, 0, 0, 0, 0, 0, 0]⟩, .string ⟨#[0, 0, 0, 0, 0, 0, 0, 0, 0]⟩, .string ⟨#[9, 0, 0, 0, 0, 0, 0, 0, 0]⟩] 9 (0, 0)) := by rw [hwb]; exact heap_alloc_new _ _
      have hSb : StrsAt wb w8.heap.size 0 bad4 := fun j hj => by
        rw [Nat.zero_add, (cells_block hBb).1]
        match j, hj with
        | 0, _ => rfl
        | 1, _ => rfl
        | 2, _ => rfl
        | 3, _ => rfl
      have hbb : Below w.heap.size w wb := by rw [hwb]; exact hbe7.alloc hbe7.size _
      have hgw : w8.heap.size < wb.heap.size := blk_lt hBb
      go_wp2_with fail
      rw [← hwb]
      clear hwb hBb hbe7
      have hb4 : Hid (bad4.length = 4) := rfl
      have hbn : Hid (∀ s ∈ bad4, isF s = false ∧ s.length ≤ 9) := bad4_none
      generalize bad4 = B4 at *
      go_loopw [125] (fun s125 wr => ∃ i : Nat, s125 = .int .i64 (i : Int) ∧ i ≤ 4 ∧ Below wb.heap.size wb wr) (fun s125 _ => 4 - (intOf s125).toNat)
      case atStart => exact ⟨0, rfl, by omega, Below.refl _ _⟩
      case round =>
        obtain ⟨i, rfl, hi4, hbel⟩ := hrel
        by_cases hlt : i < 4
        · have c1 : (i : Int) < 4 := by omega
          have hil : i < B4.length := by rw [hb4.out]; exact hlt
          have cs : wr.cell? ⟨w8.heap.size, i, none⟩ = some (.string (bstr B4[i])) := by
            have := (hSb.block (hbel.block _ hgw)) i hil
            rwa [Nat.zero_add] at this
          obtain ⟨hno, hl9⟩ := hbn.out B4[i] (List.getElem_mem hil)
          have h1 := Check_no B4[i] wr (by omega) hno
          have h2 := Has_no B4[i] [97] wr (by omega) (by decide) hno
          generalize B4[i] = s at *
          have hsn : (⟨#[97]⟩ : ByteArray) = bstr [97] := rfl
          clear hno hl9
          go_wp2_with fail
          refine h1.mono ?_
          rintro e wx ⟨rfl, rfl⟩
          clear h1 cs
          go_wp2_with fail
          refine h2.mono ?_
          rintro e wy ⟨rfl, hby⟩
          have hbel2 := below2 hbel hby
          clear h2 hby hbel
          go_wp2
          go_roundw
          case rel => exact ⟨i + 1, by go_num, by omega, hbel2⟩
          case measure => simp [intOf]; omega
        · have c1 : ¬ (i : Int) < 4 := by omega
          have hwk := works9_any wr
          go_wp2_with fail
          refine hwk.mono ?_
          rintro e w9 ⟨rfl, hb9⟩
          go_wp2
          go_ret
          exact ⟨rfl, below2 (below2 hbb hbel) hb9⟩

end Go.Proofs.Ytiingodillcleaa
