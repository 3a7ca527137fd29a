/-
  Base laid: written by mkolay.py.
-/
import Derived.Test.YtbdbefgfejdbjaaGreatGOLst
namespace Go.Proofs.YtbdbefgfejdbjaaGreat
open Go.RowKit Go.BigFrame
attribute [local go_sem] size_bstr toList_bstr append_bstr

set_option maxHeartbeats 8000000 in
set_option maxRecDepth 100000 in
theorem oLayBase_any (vs0 : List Lit) (x2 : Value) (B2 : List UInt8) (w : World) (hf0 : fitKs baseK vs0) (lB2 : B2.length ≤ 400000000) (hB2 : ∀ W : World, Below w.heap.size w W → Calls Tryz.prog 77 #[x2, .func (.func 78) #[] #[]] W fun e W' => e = .returned (.string (bstr B2)) ∧ Below W.heap.size W W') :
    Calls Tryz.prog 89 #[.agg (vs0.map Lit.toCell ++ ([x2])).toArray] w fun x w' => x = .returned (.string (bstr (layKs baseK vs0 ++ (B2)))) ∧ Below w.heap.size w w' := by
  have g0 := hf0
  obtain ⟨v0, vs0, rfl, h0, g0⟩ := fit_cons g0
  obtain ⟨v1, vs0, rfl, h1, g0⟩ := fit_cons g0
  obtain rfl := fit_nil g0
  clear g0
  obtain ⟨x0, rfl, h0⟩ := fitU h0
  obtain ⟨x1, rfl, h1⟩ := fitU h1
  have LB2 : Hid _ := lB2
  have HB2 : Hid _ := hB2
  obtain ⟨P0, eP0⟩ : ∃ x, x = nums [x0, x1] := ⟨_, rfl⟩
  have lP0 : P0.length ≤ 1000 := by rw [eP0]; have := nums_len [x0, x1] (by simp; omega); simp only [List.length_cons, List.length_nil] at this; omega
  obtain ⟨P1, eP1⟩ : ∃ x, x = B2 := ⟨_, rfl⟩
  have lP1 : P1.length ≤ 400000000 := by rw [eP1]; exact lB2
  have hL : layKs baseK [.int .u64 (x0 : Int), .int .u64 (x1 : Int)] ++ (B2) = (P0 ++ P1) := by
    rw [eP0, eP1]
    simp [layKs, layK, nums]
  have HL : Hid _ := hL
  have EP0 : Hid _ := eP0
  have LP0 : Hid _ := lP0
  have EP1 : Hid _ := eP1
  have LP1 : Hid _ := lP1
  have H0 : Hid _ := h0
  have H1 : Hid _ := h1
  clear hf0 lB2 hB2 hL eP0 lP0 eP1 lP1 
  rw [show Value.agg (([.int .u64 (x0 : Int), .int .u64 (x1 : Int)] : List Lit).map Lit.toCell ++ ([x2])).toArray = .agg #[.int .u64 (x0 : Int), .int .u64 (x1 : Int), x2] from rfl]
  go_enter Tryz.func89, Tryz.ntmps89
  go_upto_region 1 with fail
  obtain ⟨w1, hw1⟩ : ∃ w1, w1 = w.alloc (.cells #[.int .u64 (x0 : Int), .int .u64 (x1 : Int), x2] 51) := ⟨_, rfl⟩
  have hb1 : Below w.heap.size w w1 := by rw [hw1]; exact (Below.refl _ _).alloc (Nat.le_refl _) _
  have hc := (mcells (show w1.heap[w.heap.size]? = some (.cells #[.int .u64 (x0 : Int), .int .u64 (x1 : Int), x2] 51 (0, 0)) by rw [hw1]; exact heap_alloc_new w _)).1
  have C0 : Hid (w1.cell? ⟨w.heap.size, 0, none⟩ = some (.int .u64 (x0 : Int))) := hc 0
  have C1 : Hid (w1.cell? ⟨w.heap.size, 1, none⟩ = some (.int .u64 (x1 : Int))) := hc 1
  have C2 : Hid (w1.cell? ⟨w.heap.size, 2, none⟩ = some (x2)) := hc 2
  rw [← hw1]
  clear hc hw1
  refine wp_grow (R := RS [eqV (.pointer (some ⟨w.heap.size, 0, none⟩)),
    eqV (.int .u64 (x0 : Int)),
    eqV (.pointer (some ⟨w.heap.size, 1, none⟩)),
    eqV (.int .u64 (x1 : Int)),
    slV [.int .u64 (x0 : Int), .int .u64 (x1 : Int)],
    eqV (.string (bstr P0)),
    eqV (.pointer (some ⟨w.heap.size, 2, none⟩)),
    eqV (x2),
    eqV (.string (bstr P1)),
    eqV (.string (bstr (P0 ++ P1))),
    eqV (.string (bstr (P0 ++ P1)))])
    (by kernel_rfl) (by kernel_rfl) (RS.below ?_) ?_ ?_
  · simp [lst_eqV, lst_slV]
  · refine ⟨?_, ?_, ?_, ?_, ?_, ?_, ?_, ?_, ?_, ?_, ?_, trivial⟩
    · intro a W K hb hold hd hK
      have t1 : a.tmps.getD 1 undef = .pointer (some ⟨w.heap.size, 0, none⟩) := hold 1 (by kernel_rfl)
      go_simp
      exact hK _ _ (Below.refl _ _) rfl
    · intro a W K hb hold hd hK
      have t1 : a.tmps.getD 3 undef = .pointer (some ⟨w.heap.size, 0, none⟩) := hd ⟨0, .data⟩ (by simp) rfl _ _ rfl rfl
      have c := cell_below hb C0.out
      go_simp
      exact hK _ _ (Below.refl _ _) rfl
    · intro a W K hb hold hd hK
      have t1 : a.tmps.getD 1 undef = .pointer (some ⟨w.heap.size, 0, none⟩) := hold 1 (by kernel_rfl)
      go_simp
      exact hK _ _ (Below.refl _ _) rfl
    · intro a W K hb hold hd hK
      have t1 : a.tmps.getD 5 undef = .pointer (some ⟨w.heap.size, 1, none⟩) := hd ⟨2, .data⟩ (by simp) rfl _ _ rfl rfl
      have c := cell_below hb C1.out
      go_simp
      exact hK _ _ (Below.refl _ _) rfl
    · intro a W K hb hold hd hK
      have t0 : a.tmps.getD 4 undef = .int .u64 (x0 : Int) := hd ⟨1, .data⟩ (by simp) rfl _ _ rfl rfl
      have t1 : a.tmps.getD 6 undef = .int .u64 (x1 : Int) := hd ⟨3, .data⟩ (by simp) rfl _ _ rfl rfl
      rw [Array.getD_eq_getD_getElem?] at t0 t1
      go_simp
      exact hK _ _ ((Below.refl _ _).alloc (Nat.le_refl _) _) (sl_newL _ [.int .u64 (x0 : Int), .int .u64 (x1 : Int)] _)
    · intro a W K hb hold hd hK
      obtain ⟨b, t1, hbb, hc⟩ : slV [.int .u64 (x0 : Int), .int .u64 (x1 : Int)] (a.tmps.getD 7 undef) W := hd ⟨4, .data⟩ (by simp) rfl _ _ rfl rfl
      go_simp
      refine (jNumsV [x0, x1] _ W ⟨b, rfl, hbb, hc⟩ (by simp) (by simp; omega)).mono ?_
      rintro e wf ⟨rfl, hbf⟩
      exact hK _ _ hbf (congrArg (fun x => Value.string (bstr x)) EP0.out.symm)
    · intro a W K hb hold hd hK
      have t1 : a.tmps.getD 1 undef = .pointer (some ⟨w.heap.size, 0, none⟩) := hold 1 (by kernel_rfl)
      go_simp
      exact hK _ _ (Below.refl _ _) rfl
    · intro a W K hb hold hd hK
      have t1 : a.tmps.getD 9 undef = .pointer (some ⟨w.heap.size, 2, none⟩) := hd ⟨6, .data⟩ (by simp) rfl _ _ rfl rfl
      have c := cell_below hb C2.out
      go_simp
      exact hK _ _ (Below.refl _ _) rfl
    · intro a W K hb hold hd hK
      have t1 : a.tmps.getD 10 undef = x2 := hd ⟨7, .data⟩ (by simp) rfl _ _ rfl rfl
      go_simp
      refine (HB2.out W (bel_call hb (bel_drew hb1))).mono ?_
      rintro e wf ⟨rfl, hbf⟩
      exact hK _ _ hbf (congrArg (fun x => Value.string (bstr x)) EP1.out.symm)
    · intro a W K hb hold hd hK
      have t1 : a.tmps.getD 8 undef = .string (bstr P0) := hd ⟨5, .data⟩ (by simp) rfl _ _ rfl rfl
      have t2 : a.tmps.getD 11 undef = .string (bstr P1) := hd ⟨8, .data⟩ (by simp) rfl _ _ rfl rfl
      have lP0 := LP0.out
      have lP1 := LP1.out
      go_simp
      rw [if_neg (by omega)]
      go_simp
      exact hK _ _ (Below.refl _ _) rfl
    · intro a W K hb hold hd hK
      have t1 : a.tmps.getD 12 undef = .string (bstr (P0 ++ P1)) := hd ⟨9, .data⟩ (by simp) rfl _ _ rfl rfl
      go_simp
      exact hK _ _ (Below.refl _ _) rfl
  · intro a' w' hb hdf hts hold hnew
    have t2 : a'.tmps.getD 2 undef = .string (bstr (layKs baseK [.int .u64 (x0 : Int), .int .u64 (x1 : Int)] ++ (B2))) := (hnew 10 _ 2 rfl rfl).trans (by rw [HL.out])
    obtain ⟨t, d⟩ := a'
    obtain rfl : d = [] := hdf
    simp only at t2
    clear hold hnew hts
    go_wp2
    go_ret
    exact ⟨congrArg Ending.returned t2, bel_call hb (bel_drew hb1)⟩

end Go.Proofs.YtbdbefgfejdbjaaGreat
