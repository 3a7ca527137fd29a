/-
  The walk of WalKnown.
-/
import Derived.Test.YtpldfakfgngaaaaGreatDoorWKn2
namespace Go.Proofs.YtpldfakfgngaaaaGreatDoor
open Go.RowKit
attribute [local go_sem] size_bstr toList_bstr append_bstr

set_option maxHeartbeats 600000 in
set_option maxRecDepth 100000 in
theorem known_any (w : World) (hv : Vw w.heap.size w) :
    Calls Tryz.prog 7 #[] w fun e w' => e = .returned (.bool true) ∧ Below w.heap.size w w' := by
  have la := frm_length [97]
  have lb := frm_length [98]
  have lc := frm_length [99]
  have ld := frm_length [100]
  simp only [List.length_cons, List.length_nil] at la lb lc ld
  go_enter Tryz.func7, Tryz.ntmps7
  go_wp2_with fail
  refine (New_db w hv 1000).mono ?_
  rintro e w1 ⟨d, m, rfl, D1, hb1⟩
  go_wp2_with fail
  refine (Open_ex (p := [119]) (R := 1000) (P' := []) (G := []) 20 D1 rfl (lg_none _) (by simp [tot]) (by decide) (by decide) (by decide) (by decide)).mono ?_
  rintro e w2 ⟨k, rfl, rfl, kp, km, E2, hb2⟩
  have hB2 : Below w.heap.size w w2 := hb1.trans hb2
  clear D1 hb1 hb2
  go_wp2_with fail
  refine (First_v 1 E2 rfl).mono ?_
  rintro e w3 ⟨rfl, hw3⟩
  obtain rfl : w2 = w3 := hw3.symm
  clear hw3
  go_wp2_with fail
  refine (Next_v 1 E2 (by decide) rfl (by decide)).mono ?_
  rintro e w3 ⟨rfl, hb3⟩
  have E3 := E2.below hb3
  go_wp2_with fail
  refine (Sync_ex E3 (by decide)).mono ?_
  rintro e w4 ⟨rfl, E4, hb4⟩
  go_wp2_with fail
  refine (CutOver_ex 1 E4 (by decide) (by decide) (by decide) (by decide)).mono ?_
  rintro e w5 ⟨rfl, hb5⟩
  have E5 := E4.below hb5
  go_wp2_with fail
  refine (Drop_ex 9 E5 (by decide) (by decide)).mono ?_
  rintro e w6 ⟨rfl, E6, hb6⟩
  have hB6 : Below w.heap.size w w6 := (((hB2.trans (hb3.mono E2.vw.le)).trans hb4).trans (hb5.mono E4.vw.le)).trans hb6
  go_wp2_with fail
  have hBa : Below w6.heap.size w6 (w6.alloc (.cells #[.string ⟨#[97]⟩, .string ⟨#[98]⟩, .string ⟨#[99]⟩, .string ⟨#[100]⟩] 9)) := (Below.refl _ _).alloc (Nat.le_refl _) _
  have hbk : (w6.alloc (.cells #[.string ⟨#[97]⟩, .string ⟨#[98]⟩, .string ⟨#[99]⟩, .string ⟨#[100]⟩] 9)).heap[w6.heap.size]? = some (.cells #[.string ⟨#[97]⟩, .string ⟨#[98]⟩, .string ⟨#[99]⟩, .string ⟨#[100]⟩] 9 (0, 0)) := heap_alloc_new w6 _
  generalize w6.alloc (.cells #[.string ⟨#[97]⟩, .string ⟨#[98]⟩, .string ⟨#[99]⟩, .string ⟨#[100]⟩] 9) = W at *
  have E7 := (E6.far hBa (Array.getElem?_eq_some_iff.1 hbk).1).as (G' := kG 0) (P' := kP k.p 0) (N' := 30) rfl rfl (by decide)
  have hBW : Below w.heap.size w W := hB6.trans (hBa.mono E6.vw.le)
  clear E2 E3 E4 E5 hb3 hb4 hb5 hb6
  go_loopw [67] (fun s67 wr => ∃ i : Nat, s67 = .int .i64 (i : Int) ∧ i ≤ 4 ∧ ExF w.heap.size wr m k (kG i) (kP k.p i) 1000 (30 + 2 * i) w6.heap.size ∧ Below w.heap.size w wr ∧ wr.heap[w6.heap.size]? = some (.cells #[.string ⟨#[97]⟩, .string ⟨#[98]⟩, .string ⟨#[99]⟩, .string ⟨#[100]⟩] 9 (0, 0))) (fun s67 _ => 4 - (intOf s67).toNat)
  case atStart => exact ⟨0, rfl, by omega, E7, hBW, hbk⟩
  case round =>
    obtain ⟨i, rfl, hi4, E, hBr, hbr⟩ := hrel
    clear E7 hBW hbk hBa
    by_cases hi : i < 4
    · have hil : (i : Int) < 4 := by omega
      have hap := kAppF hi km E
      have ci : wr.cell? ⟨w6.heap.size, i, none⟩ = some (.string (bstr (kS i))) := by
        match i, hi with
        | 0, _ => exact cell_of_row wr _ 0 _ _ _ hbr
        | 1, _ => exact cell_of_row wr _ 1 _ _ _ hbr
        | 2, _ => exact cell_of_row wr _ 2 _ _ _ hbr
        | 3, _ => exact cell_of_row wr _ 3 _ _ _ hbr
      obtain ⟨z, hz⟩ : ∃ z, z = w6.heap.size := ⟨_, rfl⟩
      go_wp2_with fail
      refine hap.mono ?_
      rintro e y ⟨rfl, Ey, hby, hbl⟩
      go_wp2
      go_roundw
      case rel => exact ⟨i + 1, by simp, by omega, Ey, hBr.trans hby, hbl.trans hbr⟩
      case measure => simp [intOf]; omega
    · have hil : ¬ (i : Int) < 4 := by omega
      obtain rfl : i = 4 := by omega
      obtain ⟨b1, hb1⟩ : ∃ b1, b1 = frm [97] ++ frm [98] ++ frm [99] := ⟨_, rfl⟩
      obtain ⟨b4, hb4⟩ : ∃ b4, b4 = frm [100] := ⟨_, rfl⟩
      have lb1 : b1.length = 27 := by rw [hb1, List.length_append, List.length_append, la, lb, lc]
      have lb4 : b4.length = 9 := by rw [hb4, ld]
      have E8 := E.ex.as (G' := kG 4) (P' := [(nm k.p 1, b1, 27), (nm k.p 4, b4, 0)]) (N' := 40) rfl (by
        rw [← lb1, hb1, hb4]; rfl) (by decide)
      clear hb1 hb4 E hbr
      have nl1 : nm k.p 1 = [119, 48, 48, 48, 48, 48, 48, 48, 48, 48, 48, 48, 48, 48, 48, 48, 49] := by rw [kp]; decide +kernel
      have nl4 : nm k.p 4 = [119, 48, 48, 48, 48, 48, 48, 48, 48, 48, 48, 48, 48, 48, 48, 48, 52] := by rw [kp]; decide +kernel
      have R1 := Read_ex (nm k.p 1) b1 E8 (by rw [nm_length, kp]; decide) (l_gt _ _ _ _)
      have R4 := Read_ex (nm k.p 4) b4 E8 (by rw [nm_length, kp]; decide) (l_gt2 (n14ne _) _ _ _ _)
      rw [nl1] at R1
      rw [nl4] at R4
      go_wp2_with fail
      refine R1.mono ?_
      rintro e y ⟨c1, rfl, hy⟩
      obtain rfl : wr = y := hy.symm
      clear hy
      go_wp2_with fail
      refine R4.mono ?_
      rintro e y ⟨c4, rfl, hy⟩
      obtain rfl : wr = y := hy.symm
      clear hy R1 R4
      go_wp2_with fail
      refine (Get_ex 2 [98] E8 (by decide) (by decide) (by decide) (by decide) (by simp [kG]) rfl).mono ?_
      rintro e w9 ⟨rfl, hb9⟩
      have E9 := E8.below hb9
      go_wp2_with fail
      refine (GetNone_ex 5 E9 (by decide) (by decide) (Or.inr (by decide))).mono ?_
      rintro e w10 ⟨rfl, hb10⟩
      have E10 := E9.below hb10
      have hB10 : Below w.heap.size w w10 := (hBr.trans (hb9.mono E8.vw.le)).trans (hb10.mono E9.vw.le)
      have S1 := Synced_ex (nm k.p 1) 27 E10 (by rw [nm_length, kp]; decide) (l_sy _ _ _ _)
      have S4 := Synced_ex (nm k.p 4) 0 E10 (by rw [nm_length, kp]; decide) (l_sy2 (n14ne _) _ _ _ _)
      rw [nl1] at S1
      rw [nl4] at S4
      have eb : bstr [98] = ⟨#[98]⟩ := rfl
      rw [eb]
      clear eb E8 E9 nl1 nl4 hb9 hb10
      go_wp2_with fail
      refine S1.mono ?_
      rintro e y ⟨rfl, hy⟩
      obtain rfl : w10 = y := hy.symm
      clear hy
      go_wp2_with fail
      refine S4.mono ?_
      rintro e y ⟨rfl, hy⟩
      obtain rfl : w10 = y := hy.symm
      clear hy S1 S4
      go_wp2_with fail
      refine (Drop_ex 4 E10 (by decide) (by decide)).mono ?_
      rintro e w11 ⟨rfl, E11, hb11⟩
      have E11 := E11.as (G' := [(4, [[100]])]) (P' := [(nm k.p 4, b4, 0)]) (N' := 80) rfl (l_wto1 (n14ne _) _ _ _ _) (by decide)
      go_wp2_with fail
      refine (First_v 4 E11 rfl).mono ?_
      rintro e y ⟨rfl, hy⟩
      obtain rfl : w11 = y := hy.symm
      clear hy
      go_wp2_with fail
      refine (Drop_ex 9 E11 (by decide) (by decide)).mono ?_
      rintro e w12 ⟨rfl, E12, hb12⟩
      have E12 := E12.as (G' := [(4, [[100]])]) (P' := [(nm k.p 4, b4, 0)]) (N' := 160) rfl rfl (by decide)
      go_wp2_with fail
      refine (First_v 4 E12 rfl).mono ?_
      rintro e y ⟨rfl, hy⟩
      obtain rfl : w12 = y := hy.symm
      clear hy
      go_wp2_with fail
      refine (Next_v 5 E12 (by decide) rfl (by decide)).mono ?_
      rintro e w13 ⟨rfl, hb13⟩
      have E13 := E12.below hb13
      go_wp2_with fail
      refine (CutArg_ex 3 E13 (by decide)).mono ?_
      rintro e y ⟨rfl, hy⟩
      obtain rfl : w13 = y := hy.symm
      clear hy
      go_wp2_with fail
      refine (CutOver_ex 5 E13 (by decide) (by decide) (by decide) (by decide)).mono ?_
      rintro e w14 ⟨rfl, hb14⟩
      have E14 := E13.below hb14
      go_wp2_with fail
      refine (Cut1_ex 4 E14 (by decide) (by decide) (by decide) (by decide) (by decide) (by rw [tot1, lb4]; decide)).mono ?_
      rintro e w15 ⟨rfl, E15, hb15⟩
      have E15 := E15.as (G' := [(4, [])]) (P' := [(nm k.p 4, [], 0)]) (N' := 170) rfl (by
        rw [l_wto0 (fun e => sp_alien k.p 4 ⟨by decide, by decide⟩ e.symm), l_same]; rfl) (by decide)
      have hB15 : Below w.heap.size w w15 := ((((hB10.trans hb11).trans hb12).trans (hb13.mono E12.vw.le)).trans (hb14.mono E13.vw.le)).trans hb15
      clear E10 E11 E12 E13 E14 hb11 hb12 hb13 hb14 hb15
      go_wp2_with fail
      refine (Next_v 4 E15 (by decide) rfl (by decide)).mono ?_
      rintro e w16 ⟨rfl, hb16⟩
      have E16 := E15.below hb16
      go_wp2_with fail
      refine (AppOld_ex (A := []) [101] E16 (by decide) (by decide) (by rw [tot1]; decide) (by decide) (by rw [km]; decide)).mono ?_
      rintro e w17 ⟨rfl, E17, hb17⟩
      have E17 := E17.as (G' := [(4, [[101]])]) (P' := [(nm k.p 4, frm [101], 0)]) (N' := 180) rfl (by rw [l_gt, l_sy, l_same]; rfl) (by decide)
      have hB17 : Below w.heap.size w w17 := (hB15.trans (hb16.mono E15.vw.le)).trans hb17
      obtain ⟨L17, fe17, D17, hP17, hR17⟩ := E17.db
      go_wp2_with fail
      refine (Crash0_db D17 (by decide) (by omega)).mono ?_
      rintro e w18 ⟨rfl, L18, fe18, D18, hP18, hR18, hb18⟩
      have hP18 : Pu L18 = [(nm [119] 4, [], 0)] := by rw [hP18, hP17, kp]; rfl
      go_wp2_with fail
      refine (Open_ex (p := [119]) (R := 1000) 20 D18 (by rw [hP18]; exact op_one ⟨by decide, by decide⟩ 0 1000) (lg_one ⟨by decide, by decide⟩ 0) (by omega) (by decide) (by decide) (by decide) (by decide)).mono ?_
      rintro e w19 ⟨k2, rfl, k2d, k2p, k2m, E19, hb19⟩
      have hB19 : Below w.heap.size w w19 := (hB17.trans hb18).trans hb19
      clear E15 E16 E17 D17 D18 hb16 hb17 hb18 hb19 hP17 hP18 hR17 hR18
      go_wp2_with fail
      refine (First_v 4 E19 rfl).mono ?_
      rintro e y ⟨rfl, hy⟩
      obtain rfl : w19 = y := hy.symm
      clear hy
      go_wp2_with fail
      refine (Next_v 4 E19 (by decide) rfl (by decide)).mono ?_
      rintro e w20 ⟨rfl, hb20⟩
      have E20 := E19.below hb20
      go_wp2_with fail
      have hB20 : Below w.heap.size w w20 := hB19.trans (hb20.mono E19.vw.le)
      have v20 : Vw w20.heap.size w20 := E20.vw.up E20.vw.le (Nat.le_refl _)
      obtain ⟨L20, fe20, D20, _, _⟩ := E20.db
      rw [k2d] at D20
      clear E19 hb20
      refine (New_db w20 v20 1000).mono ?_
      rintro e w21 ⟨d3, m3, rfl, D21, hb21⟩
      go_wp2_with fail
      refine (Open_ex (p := [119]) (R := 1000) (P' := []) (G := []) 100 D21 rfl (lg_none _) (by simp [tot]) (by decide) (by decide) (by decide) (by decide)).mono ?_
      rintro e w22 ⟨k3, rfl, k3d, k3p, k3m, E22, hb22⟩
      go_wp2_with fail
      refine (AppNew_ex [97] E22 (by decide) (by decide) (by decide) (by decide) (by decide) (by decide) (fun A x e => by simp at e)).mono ?_
      rintro e w23 ⟨rfl, E23, hb23⟩
      have E23 := E23.as (G' := [(1, [[97]])]) (P' := [(nm k3.p 1, frm [97], 0)]) (N' := 12) rfl rfl (by decide)
      go_wp2_with fail
      refine (AppOld_ex (A := []) [98] E23 (by decide) (by decide) (by rw [tot1, la]; decide) (by decide) (by rw [k3m]; decide)).mono ?_
      rintro e w24 ⟨rfl, E24, hb24⟩
      have E24 := E24.as (G' := [(1, [[97], [98]])]) (P' := [(nm k3.p 1, frm [97] ++ frm [98], 0)]) (N' := 14) rfl (by rw [l_gt, l_sy, l_same]) (by decide)
      go_wp2_with fail
      refine (AppOld_ex (A := []) [99] E24 (by decide) (by decide) (by rw [tot1, List.length_append, la, lb]; decide) (by decide) (by rw [k3m]; decide)).mono ?_
      rintro e w25 ⟨rfl, E25, hb25⟩
      have E25 := E25.as (G' := [(1, [[97], [98], [99]])]) (P' := [(nm k3.p 1, frm [97] ++ frm [98] ++ frm [99], 0)]) (N' := 16) rfl (by rw [l_gt, l_sy, l_same]) (by decide)
      go_wp2_with fail
      refine (Cut1_ex 3 E25 (by decide) (by decide) (by decide) (by decide) (by decide) (by rw [tot1, List.length_append, List.length_append, la, lb, lc]; decide)).mono ?_
      rintro e w26 ⟨rfl, E26, hb26⟩
      go_wp2_with fail
      refine (Next_v 3 E26 (by decide) rfl (by decide)).mono ?_
      rintro e w27 ⟨rfl, hb27⟩
      have E27 := E26.below hb27
      go_wp2_with fail
      refine (Get_ex 2 [98] E27 (by decide) (by decide) (by decide) (by decide) (by simp) rfl).mono ?_
      rintro e w28 ⟨rfl, hb28⟩
      have hb228 : Below w20.heap.size w20 w28 := ((((((hb21.trans hb22).trans hb23).trans hb24).trans hb25).trans hb26).trans (hb27.mono E26.vw.le)).trans (hb28.mono E27.vw.le)
      have D28 := D20.below hb228
      have hB28 : Below w.heap.size w w28 := hB20.trans (hb228.mono E20.vw.le)
      have eb : bstr [98] = ⟨#[98]⟩ := rfl
      rw [eb]
      clear eb E22 E23 E24 E25 E26 E27 hb21 hb22 hb23 hb24 hb25 hb26 hb27 hb28 D21 D20 E20 v20 hB20 hb228
      go_wp2_with fail
      refine (Open_nil w28 _ 1).mono ?_
      rintro e y ⟨rfl, hy⟩
      obtain rfl : w28 = y := hy.symm
      clear hy
      have mk1 : ∀ W : World, (Instr.makeSlice 73 (.int .i64 49) (.int .i64 49)).run Tryz.prog W = .ok (.slice (some ⟨W.heap.size, 0, none⟩) 49 49) (W.alloc (.cells (zs 49) 5)) := fun W => make_run .i64 49 (by decide) W
      have md1 := fun W => made_run 49 (by decide) W
      have hBm : Below w28.heap.size w28 (w28.alloc (.cells (zs 49) 5)) := (Below.refl _ _).alloc (Nat.le_refl _) _
      have O49 := Open_arg (w28.alloc (.cells (zs 49) 5)) (D28.below hBm).dk (zeros 49) 1 (Or.inl (by rw [zeros_length]; decide))
      go_wp2_with fail
      refine O49.mono ?_
      rintro e y ⟨rfl, hy⟩
      have hB29 : Below w.heap.size w (w28.alloc (.cells (zs 49) 5)) := hB28.trans (hBm.mono D28.vw.le)
      have D29 := D28.below hBm
      rw [← hy] at hB29 D29
      clear hy O49 mk1 md1 hBm D28 hB28
      go_wp2_with fail
      refine (Open_arg y D29.dk [119] 0 (Or.inr (by decide))).mono ?_
      rintro e z ⟨rfl, hz⟩
      obtain rfl : y = z := hz.symm
      clear hz
      have v30 : Vw y.heap.size y := D29.vw.up D29.vw.le (Nat.le_refl _)
      have hle := D29.vw.le
      clear D29
      go_wp2_with fail
      refine (New_db y v30 8).mono ?_
      rintro e w31 ⟨d4, m4, rfl, D31, hb31⟩
      go_wp2_with fail
      refine (Open_ex (p := [119]) (R := 8) (P' := []) (G := []) 1 D31 rfl (lg_none _) (by simp [tot]) (by decide) (by decide) (by decide) (by decide)).mono ?_
      rintro e w32 ⟨k4, rfl, k4d, k4p, k4m, E32, hb32⟩
      have l0 : (frm []).length = 8 := frm_length []
      go_wp2_with fail
      refine (AppNew_ex [] E32 (by decide) (by decide) (by decide) (by decide) (by decide) (by decide) (fun A x e => by simp at e)).mono ?_
      rintro e w33 ⟨rfl, E33, hb33⟩
      have E33 := E33.as (G' := [(1, [[]])]) (P' := [(nm k4.p 1, frm [], 0)]) (N' := 12) rfl rfl (by decide)
      go_wp2_with fail
      refine (AppFull_ex [] E33 (by decide) (by decide) (by rw [tot1, l0]; decide) (by decide) (by decide) (fun A x e => by
        have e2 : A ++ [x] = [] ++ [(1, [[]])] := e.symm
        obtain ⟨_, e3⟩ := List.append_inj' e2 rfl
        cases e3
        rw [k4m]
        decide)).mono ?_
      rintro e w34 ⟨rfl, E34, hb34⟩
      go_wp2_with fail
      refine (Next_v 2 E34 (by decide) rfl (by decide)).mono ?_
      rintro e w35 ⟨rfl, hb35⟩
      have E35 := E34.below hb35
      have hB35 : Below w.heap.size w w35 := hB29.trans ((((((hb31.trans hb32).trans hb33).trans hb34).trans (hb35.mono E34.vw.le))).mono hle)
      clear E32 E33 E34 hb31 hb32 hb33 hb34 hb35 D31
      have mk2 : ∀ W : World, (Instr.makeSlice 73 (.int .i64 1048577) (.int .i64 1048577)).run Tryz.prog W = .ok (.slice (some ⟨W.heap.size, 0, none⟩) 1048577 1048577) (W.alloc (.cells (zs 1048577) 5)) := fun W => make_run .i64 1048577 (by decide) W
      have md2 := fun W => made_run 1048577 (by decide) W
      have zl := zeros_length 1048577
      generalize zeros 1048577 = Z at *
      generalize zs 1048577 = ZS at *
      have hBm : Below w35.heap.size w35 (w35.alloc (.cells ZS 5)) := (Below.refl _ _).alloc (Nat.le_refl _) _
      have E36 := E35.below hBm
      have hB36 := hB35.trans (hBm.mono (Nat.le_trans hle (by have := E35.vw.le; have := v30.le; omega)))
      go_wp2_with fail
      obtain ⟨L36, fe36, F36, v36, lo36, _⟩ := E36.go
      refine (wApp_long Z _ lo36.wm (by omega) (by omega)).mono ?_
      rintro e w37 ⟨rfl, hb37⟩
      have v37 := E36.vw.on hb37
      have hB37 : Below w.heap.size w w37 := hB36.trans (hb37.mono (Nat.le_trans hle E36.vw.le))
      clear E36 lo36 hb37 hB36 E35 hB35 mk2 md2
      go_wp2_with fail
      refine (Get_nil w37 1).mono ?_
      rintro e z ⟨rfl, hz⟩
      obtain rfl : w37 = z := hz.symm
      clear hz
      go_wp2_with fail
      refine (wApp_nil w37 _).mono ?_
      rintro e z ⟨rfl, hz⟩
      obtain rfl : w37 = z := hz.symm
      clear hz
      go_wp2_with fail
      refine (wSync_none w37).mono ?_
      rintro e z ⟨rfl, hz⟩
      obtain rfl : w37 = z := hz.symm
      clear hz
      go_wp2_with fail
      refine (Cut_nil w37 1).mono ?_
      rintro e z ⟨rfl, hz⟩
      obtain rfl : w37 = z := hz.symm
      clear hz
      go_wp2_with fail
      refine (Drop_nil w37 1).mono ?_
      rintro e z ⟨rfl, hz⟩
      obtain rfl : w37 = z := hz.symm
      clear hz
      go_wp2_with fail
      refine (First_nil w37).mono ?_
      rintro e z ⟨rfl, hz⟩
      obtain rfl : w37 = z := hz.symm
      clear hz
      go_wp2_with fail
      refine (Next_nil w37).mono ?_
      rintro e z ⟨rfl, hz⟩
      obtain rfl : w37 = z := hz.symm
      clear hz
      go_wp2_with fail
      refine (works7_any w37 v37).mono ?_
      rintro e z ⟨rfl, hz⟩
      go_wp2
      go_ret
      exact ⟨rfl, hB37.trans (hz.mono hle)⟩

end Go.Proofs.YtpldfakfgngaaaaGreatDoor
