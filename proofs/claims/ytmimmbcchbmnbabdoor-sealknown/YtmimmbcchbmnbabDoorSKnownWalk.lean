/-
  The walk of the law SealKnown over this seat's translation: it returns true, and of what was there nothing has turned.
-/
import Derived.Test.YtmimmbcchbmnbabDoorWks
import Derived.Test.YtmimmbcchbmnbabDoorRowMath
import Derived.Test.YtmimmbcchbmnbabDoorMade
namespace Go.Proofs.YtmimmbcchbmnbabDoor
open Go.RowKit
attribute [local go_sem] size_bstr getElem_bstr toList_bstr append_bstr

theorem big_none : opn ([0, 16, 0, 1] ++ zeros 40) = none := by
  show opn (0 :: 16 :: 0 :: 1 :: 0 :: 0 :: 0 :: 0 :: List.replicate 36 0) = none
  rw [opn_eq, show rd4 0 16 0 1 = 1048577 from by decide]
  exact if_neg fun hh => absurd hh.1 (by omega)
theorem known_scn : scn (frm [] ++ (frm [97] ++ [0, 0])).length (frm [] ++ (frm [97] ++ [0, 0])) = [[], [97]] := by
  have h := scn_frames [[], [97]] [0, 0] (frm [] ++ (frm [97] ++ [0, 0])).length (by simp [frm_length]) (by intro b hb; simp at hb; rcases hb with rfl | rfl <;> simp) rfl
  rw [fr_cons, fr_cons, fr_nil, List.append_nil, List.append_assoc] at h
  exact h
theorem known_tot : tot [[], [97]] = 17 := rfl
theorem frm_a : frm [97] = [0, 0, 0, 1, 146, 151, 140, 229, 97] := by decide +kernel
theorem Sum_none (w : World) : Calls Tryd.prog 9 #[.slice none 0 0] w fun e w' => e = .returned (.int .u32 0) ∧ w' = w := by
  go_enter Tryd.func9, Tryd.ntmps9
  go_wp2
  go_loop [3, 10] (fun vr vj => vr = .int .u32 4294967295 ∧ vj = .int .i64 0) (fun _ vj => (intOf vj).toNat)
  case atStart => exact ⟨rfl, rfl⟩
  case round =>
    obtain ⟨rfl, rfl⟩ := hrel
    go_wp2
    go_ret
    exact ⟨rfl, rfl⟩

set_option maxHeartbeats 4000000 in
set_option maxRecDepth 100000 in
theorem known_walk (w : World) (ht : Tabs w) :
    Calls Tryd.prog 4 #[] w fun e w' => e = .returned (.bool true) ∧ Below w.heap.size w w' := by
  have hE0 : (⟨#[]⟩ : ByteArray) = bstr [] := rfl
  have hEa : (⟨#[97]⟩ : ByteArray) = bstr [97] := rfl
  have hE00 : (⟨#[0, 0]⟩ : ByteArray) = bstr [0, 0] := rfl
  have hEb : (⟨#[0, 16, 0, 1]⟩ : ByteArray) = bstr [0, 16, 0, 1] := rfl
  have hE4 : (⟨#[49, 50, 51, 52]⟩ : ByteArray) = bstr [49, 50, 51, 52] := rfl
  have hE5 : (⟨#[53, 54, 55, 56, 57]⟩ : ByteArray) = bstr [53, 54, 55, 56, 57] := rfl
  have m7 : ∀ W : World, (Instr.makeSlice 27 (.int .i64 7) (.int .i64 7)).run Tryd.prog W = .ok (.slice (some ⟨W.heap.size, 0, none⟩) 7 7) (W.alloc (.cells (zs 7) 5)) := fun W => make_run .i64 7 (by omega) W
  have m8 : ∀ W : World, (Instr.makeSlice 27 (.int .i64 8) (.int .i64 8)).run Tryd.prog W = .ok (.slice (some ⟨W.heap.size, 0, none⟩) 8 8) (W.alloc (.cells (zs 8) 5)) := fun W => make_run .i64 8 (by omega) W
  have m40 : ∀ W : World, (Instr.makeSlice 27 (.int .i64 40) (.int .i64 40)).run Tryd.prog W = .ok (.slice (some ⟨W.heap.size, 0, none⟩) 40 40) (W.alloc (.cells (zs 40) 5)) := fun W => make_run .i64 40 (by omega) W
  have mA : ∀ W : World, (Instr.makeSlice 27 (.int .i64 1048577) (.int .i64 1048577)).run Tryd.prog W = .ok (.slice (some ⟨W.heap.size, 0, none⟩) 1048577 1048577) (W.alloc (.cells (zs 1048577) 5)) := fun W => make_run .i64 1048577 (by omega) W
  have mB : ∀ W : World, (Instr.makeSlice 27 (.int .i64 1048576) (.int .i64 1048576)).run Tryd.prog W = .ok (.slice (some ⟨W.heap.size, 0, none⟩) 1048576 1048576) (W.alloc (.cells (zs 1048576) 5)) := fun W => make_run .i64 1048576 (by omega) W
  have c7 := made_run 7 (by omega)
  have c8 := made_run 8 (by omega)
  have c40 := made_run 40 (by omega)
  have cA := made_run 1048577 (by omega)
  have cB := made_run 1048576 (by omega)
  have l7 := zeros_length 7
  have l8 := zeros_length 8
  have l40 := zeros_length 40
  have lA := zeros_length 1048577
  have lB := zeros_length 1048576
  have o7 : Hid (opn (zeros 7) = none) := zeros_none 7
  have o8 : Hid (opn (zeros 8) = none) := zeros_none 8
  have o40 : Hid (opn ([0, 16, 0, 1] ++ zeros 40) = none) := big_none
  generalize zs 7 = z7 at *
  generalize zs 8 = z8 at *
  generalize zs 40 = z40 at *
  generalize zs 1048577 = zA at *
  generalize zs 1048576 = zB at *
  generalize zeros 7 = y7 at *
  generalize zeros 8 = y8 at *
  generalize zeros 40 = y40 at *
  generalize zeros 1048577 = yA at *
  generalize zeros 1048576 = yB at *
  have hfa := frm_length [97]
  have hfe := frm_length []
  have hfB := frm_length yB
  simp only [List.length_cons, List.length_nil] at hfa hfe
  go_enter Tryd.func4, Tryd.ntmps4
  go_wp2_with fail
  refine (Frame_ok [] _ (by simp) ht).mono ?_
  rintro e w1 ⟨rfl, hb⟩
  have ht1 := ht.below hb
  go_wp2_with fail
  refine (Frame_ok [97] _ (by simp) ht1).mono ?_
  rintro e w2 ⟨rfl, hq⟩
  have ht2 := ht1.below hq
  replace hb := hb.trans (hq.mono hb.size)
  clear hq
  go_wp2_with fail
  refine (Scan_any _ _ (by simp only [List.length_append, List.length_cons, List.length_nil]; omega) ht2).mono ?_
  rintro e w3 ⟨v3, rfl, hown3, hq⟩
  rw [known_scn] at hown3 ⊢
  rw [known_tot]
  have ht3 := ht2.below hq
  have hb3 : Below w3.heap.size w3 w3 := Below.refl _ _
  replace hb := hb.trans (hq.mono hb.size)
  clear hq
  obtain ⟨g, cap, hv3, hgl, hg0, hg1⟩ : ∃ g cap, v3 = .slice (some ⟨g, 0, none⟩) 2 cap ∧ g < w3.heap.size ∧ w3.cell? ⟨g, 0, none⟩ = some (.string (bstr [])) ∧ w3.cell? ⟨g, 1, none⟩ = some (.string (bstr [97])) := by
    rcases hown3.2 with ⟨hv, h0⟩ | ⟨g, cap, cur, hv, hbg, hg, hnc, hcm, hcs, htake⟩
    · exact absurd h0 (by decide)
    · have hc := hown3.cells (g := g) (by rw [hv]; rfl)
      exact ⟨g, cap, hv, (hown3.lt g (by rw [hv]; rfl)).2, hc 0 _ rfl, hc 1 _ rfl⟩
  subst hv3
  clear hown3
  have hqa : Below w3.heap.size w3 (w3.alloc (.cells z7 5)) := (Below.refl _ _).alloc (Nat.le_refl _) _
  go_wp2_with fail
  refine (Open_none y7 _ (by omega) (ht3.below hqa) o7.out).mono ?_
  rintro e w4 ⟨rfl, hq⟩
  replace hq := hqa.trans (hq.mono hqa.size)
  have ht4 := ht3.below hq
  clear hqa
  replace hb := hb.trans (hq.mono hb.size)
  replace hb3 := hb3.trans (hq.mono hb3.size)
  clear hq
  have hqa : Below w4.heap.size w4 (w4.alloc (.cells z8 5)) := (Below.refl _ _).alloc (Nat.le_refl _) _
  go_wp2_with fail
  refine (Open_none y8 _ (by omega) (ht4.below hqa) o8.out).mono ?_
  rintro e w5 ⟨rfl, hq⟩
  replace hq := hqa.trans (hq.mono hqa.size)
  have ht5 := ht4.below hq
  clear hqa
  replace hb := hb.trans (hq.mono hb.size)
  replace hb3 := hb3.trans (hq.mono hb3.size)
  clear hq
  have hqa : Below w5.heap.size w5 (w5.alloc (.cells z40 5)) := (Below.refl _ _).alloc (Nat.le_refl _) _
  go_wp2_with fail
  refine (Open_none _ _ (by rw [List.length_append]; simp only [List.length_cons, List.length_nil]; omega) (ht5.below hqa) o40.out).mono ?_
  rintro e w6 ⟨rfl, hq⟩
  replace hq := hqa.trans (hq.mono hqa.size)
  have ht6 := ht5.below hq
  clear hqa
  replace hb := hb.trans (hq.mono hb.size)
  replace hb3 := hb3.trans (hq.mono hb3.size)
  clear hq
  have hqa : Below w6.heap.size w6 (w6.alloc (.cells zA 5)) := (Below.refl _ _).alloc (Nat.le_refl _) _
  go_wp2_with fail
  refine (Frame_long yA _ (by omega) (by omega)).mono ?_
  rintro e w7 ⟨rfl, hq⟩
  replace hq := hqa.trans (hq.mono hqa.size)
  have ht7 := ht6.below hq
  clear hqa
  replace hb := hb.trans (hq.mono hb.size)
  replace hb3 := hb3.trans (hq.mono hb3.size)
  clear hq
  have hqa : Below w7.heap.size w7 (w7.alloc (.cells zB 5)) := (Below.refl _ _).alloc (Nat.le_refl _) _
  go_wp2_with fail
  refine (Frame_ok yB _ (by omega) (ht7.below hqa)).mono ?_
  rintro e w8 ⟨rfl, hq⟩
  replace hq := hqa.trans (hq.mono hqa.size)
  have ht8 := ht7.below hq
  clear hqa
  replace hb := hb.trans (hq.mono hb.size)
  replace hb3 := hb3.trans (hq.mono hb3.size)
  clear hq
  clear m7 m8 m40 mA mB c7 c8 c40 cA cB o7 o8 o40
  go_wp2_with fail
  refine (works_any _ ht8).mono ?_
  rintro e w9 ⟨rfl, hq⟩
  have ht9 := ht8.below hq
  replace hb := hb.trans (hq.mono hb.size)
  replace hb3 := hb3.trans (hq.mono hb3.size)
  clear hq
  go_wp2_with fail
  refine (Sum_none _).mono ?_
  rintro e wa ⟨rfl, hwa⟩
  rw [hwa]
  clear hwa
  go_wp2_with fail
  refine (Sum_lit w9 2 [[49, 50, 51, 52], [53, 54, 55, 56, 57]] #[.string (bstr [49, 50, 51, 52]), .string (bstr [53, 54, 55, 56, 57])] rfl rfl ht9 (by decide) (all2 (by simp) (by simp))).mono ?_
  rintro e wb ⟨rfl, hq⟩
  replace hb := hb.trans (hq.mono hb.size)
  replace hb3 := hb3.trans (hq.mono hb3.size)
  clear hq
  rw [show [[49, 50, 51, 52], [53, 54, 55, 56, 57]].flatten = ([49, 50, 51, 52, 53, 54, 55, 56, 57] : List UInt8) from rfl, crc_nine, frm_a]
  have hc0 : wb.cell? ⟨g, 0, none⟩ = some (.string (bstr [])) := ((bcell hb3).1 g 0 hgl).trans hg0
  have hc1 : wb.cell? ⟨g, 1, none⟩ = some (.string (bstr [97])) := ((bcell hb3).1 g 1 hgl).trans hg1
  have hfB2 : (frm yB).length = 1048584 := by omega
  clear hfB lA lB l7 l8 l40
  go_wp2_with fail
  go_ret
  exact ⟨rfl, hb⟩

end Go.Proofs.YtmimmbcchbmnbabDoor
