/-
  The law QuorumBack.
-/
import Derived.Test.YtdoiknfpgmglaaaUMem2
import Derived.Test.YtdoiknfpgmglaaaUMet
namespace Go.Proofs.Ytdoiknfpgmglaaa
open Go.RowKit Go.BigFrame

/-- Back again. -/
theorem bk1 : ∀ m < 32, ∀ k < 5, 0 < m → chOk m k = false → (lst m == [(k : Int)] && chgL (lst m) (chX m k) (chY m k) == []) = true := by decide +kernel
theorem bk2 : ∀ m < 32, ∀ k < 5, 0 < m → chOk m k = true → (chk (chgL (lst m) (chX m k) (chY m k)) && chgK (chgL (lst m) (chX m k) (chY m k)) (chY m k) (chX m k) && chgL (chgL (lst m) (chX m k) (chY m k)) (chY m k) (chX m k) == lst m) = true := by decide +kernel

set_option maxHeartbeats 16000000 in
set_option maxRecDepth 100000 in
theorem QBack_any (a y : Nat) (w : World) (ha : a < 256) (hy : y < 256) :
    Calls Try.prog 8 #[.int .u8 (a : Int), .int .u8 (y : Int)] w fun e w' => e = .returned (.bool true) ∧ Below w.heap.size w w' := by
  obtain ⟨M, hM⟩ : ∃ M, M = 1 + a % 31 := ⟨_, rfl⟩
  obtain ⟨k, hk⟩ : ∃ k, k = y % 5 := ⟨_, rfl⟩
  have hM1 : M < 32 := by omega
  have hM0 : 0 < M := by omega
  have hk5 : k < 5 := by omega
  have hmA := members_any a w ha
  rw [← hM] at hmA
  have HKE : Hid ((y : Int) % 5 = (k : Int)) := by show _ = _; omega
  have hlM : (lst M).length ≤ 5 := lstI_len _ 5
  have hlm0 : 0 < (lst M).length := by rw [lst_len M hM1]; exact (pop_pos M hM1 hM0).1
  clear hM hk
  go_enter Try.func8, Try.ntmps8
  go_wp2_with fail
  refine hmA.mono ?_
  rintro e w1 ⟨v, rfl, hown, hB1⟩
  obtain ⟨_, p1, c1, rfl, hI1⟩ := own_iarg hown
  clear hown hmA
  go_wp2_with fail
  rw [HKE.out]
  refine (Has_any p1 c1 (lst M) (k : Int) w1 hI1 (by omega)).mono ?_
  rintro e w2 ⟨rfl, rfl⟩
  go_upto_if 22 with fail
  go_cut [7, 8] from 22 to 23 (fun s7 s8 wx => s7 = .int .i64 (chX M k) ∧ s8 = .int .i64 (chY M k) ∧ wx = w2)
  case first =>
    have hCX : Hid (chX M k = if decide ((k : Int) ∈ lst M) = true then -1 else (k : Int)) := rfl
    have hCY : Hid (chY M k = if decide ((k : Int) ∈ lst M) = true then (k : Int) else -1) := rfl
    cases hd : decide ((k : Int) ∈ lst M) with
    | true =>
      rw [hd] at hCX hCY
      clear hd
      go_wp2
      go_meet
      case rel => exact ⟨by rw [hCX.out]; rfl, by rw [hCY.out]; rfl, rfl⟩
    | false =>
      rw [hd] at hCX hCY
      clear hd
      go_wp2
      go_meet
      case rel => exact ⟨by rw [hCX.out]; rfl, by rw [hCY.out]; rfl, rfl⟩
  case rest =>
  obtain ⟨rfl, rfl, rfl⟩ := hcut
  have hC := Change_any p1 c1 (lst M) (chX M k) (chY M k) _ hI1 (by omega)
  cases hok : chOk M k with
  | false =>
    have h1 := bk1 M hM1 k hk5 hM0 hok
    simp only [Bool.and_eq_true, beq_iff_eq] at h1
    obtain ⟨h1, h2⟩ := h1
    have hE : chgE (lst M) (chX M k) (chY M k) = 2 := by
      unfold chOk at hok
      unfold chgE
      rw [hok]
      rfl
    unfold ChgQ at hC
    rw [h2, hE] at hC
    have hl1 : (lst M).length = 1 := by rw [h1]; rfl
    have e0 : (0 : Int) < ((lst M).length : Int) := by omega
    have e1 : (((lst M).length : Int) == 1) = true := by rw [hl1]; rfl
    obtain ⟨b, off, rfl, hr⟩ := hI1 hlm0
    have c0 := hr 0 hlm0
    have e2 : (lst M)[0] = (k : Int) := by simp only [h1, List.getElem_cons_zero]
    rw [e2, Nat.add_zero] at c0
    clear h1 h2 hE hl1 e2 hr hok
    go_wp2_with fail
    refine hC.mono ?_
    rintro e w3 ⟨⟨p3, c3, rfl, hI3⟩, hb3⟩
    have hB3 := below2 hB1 hb3
    have c1' := cell_below hb3 c0
    go_wp2_with fail
    refine (works_any w3).mono ?_
    rintro e w4 ⟨rfl, hb⟩
    have hB4 := below2 hB3 hb
    go_wp2
    go_ret
    exact ⟨rfl, hB4⟩
  | true =>
    have h1 := bk2 M hM1 k hk5 hM0 hok
    simp only [Bool.and_eq_true, beq_iff_eq] at h1
    obtain ⟨⟨h1, h2⟩, h3⟩ := h1
    have hE : chgE (lst M) (chX M k) (chY M k) = 0 := by
      unfold chOk at hok
      unfold chgE
      rw [hok]
      rfl
    have hE2 : chgE (chgL (lst M) (chX M k) (chY M k)) (chY M k) (chX M k) = 0 := by
      unfold chgE
      rw [h2]
      rfl
    have hCl := chk_len h1
    have hD := fun p c w h => Change_any p c (chgL (lst M) (chX M k) (chY M k)) (chY M k) (chX M k) w h (by omega)
    have hCh := fun p c w h => Check_any p c (chgL (lst M) (chX M k) (chY M k)) w h (by omega)
    rw [h1, if_pos rfl] at hCh
    unfold ChgQ at hC hD
    rw [hE] at hC
    rw [h3, hE2] at hD
    clear h1 h2 h3 hE hE2 hok
    generalize chgL (lst M) (chX M k) (chY M k) = C at *
    generalize chX M k = X at *
    generalize chY M k = Y at *
    go_wp2_with fail
    refine hC.mono ?_
    rintro e w3 ⟨⟨p3, c3, rfl, hI3⟩, hb3⟩
    have hB3 := below2 hB1 hb3
    have hI1 := hI1.below hb3
    clear hC hb3
    go_wp2_with fail
    refine (hD p3 c3 w3 hI3).mono ?_
    rintro e w4 ⟨⟨p4, c4, rfl, hI4⟩, hb4⟩
    have hB4 := below2 hB3 hb4
    have hI1 := hI1.below hb4
    have hI3 := hI3.below hb4
    clear hD hb4 hB3
    go_wp2_with fail
    refine (hCh p3 c3 w4 hI3).mono ?_
    rintro e w5 ⟨rfl, hb5⟩
    have hB5 := below2 hB4 hb5
    have hI1 := hI1.below hb5
    have hI4 := hI4.below hb5
    clear hCh hb5 hB4
    go_wp2
    go_loopw [13] (fun s13 wr => ∃ i : Nat, s13 = .int .i64 (i : Int) ∧ i ≤ (lst M).length ∧ Below w5.heap.size w5 wr) (fun s13 _ => (lst M).length - (intOf s13).toNat)
    case atStart => exact ⟨0, rfl, Nat.zero_le _, Below.refl _ _⟩
    case round =>
      obtain ⟨i, rfl, hil, hbr⟩ := hrel
      by_cases hlt : i < (lst M).length
      · have hi1 : (i : Int) < ((lst M).length : Int) := by omega
        obtain ⟨g, off, rfl, hr⟩ := hI1.below hbr (by omega)
        obtain ⟨g2, off2, rfl, hr2⟩ := hI4.below hbr (by omega)
        have c0 := hr i hlt
        have c1' := hr2 i hlt
        obtain ⟨z, hz⟩ : ∃ z, z = (lst M)[i] := ⟨_, rfl⟩
        rw [← hz] at c0 c1'
        have hbx := fun n => bel_drewN hbr n
        clear hz hr hr2
        go_wp2
        go_quiet (fail)
        go_wp2
        go_roundw
        case rel => exact ⟨i + 1, by go_num, by omega, hbx _⟩
        case measure => simp [intOf]; omega
      · obtain rfl : i = (lst M).length := by omega
        have hB6 := below2 hB5 hbr
        go_wp2_with fail
        refine (works_any wr).mono ?_
        rintro e w6 ⟨rfl, hb⟩
        have hB7 := below2 hB6 hb
        go_wp2
        go_ret
        exact ⟨rfl, hB7⟩

end Go.Proofs.Ytdoiknfpgmglaaa
