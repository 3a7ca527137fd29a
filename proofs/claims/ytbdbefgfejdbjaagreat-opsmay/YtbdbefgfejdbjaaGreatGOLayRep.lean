/-
  Result laid: written by mkolay.py.
  Reply laid: written by mkolay.py.
-/
import Derived.Test.YtbdbefgfejdbjaaGreatOLay0
namespace Go.Proofs.YtbdbefgfejdbjaaGreat
open Go.RowKit Go.BigFrame
attribute [local go_sem] size_bstr toList_bstr append_bstr

set_option maxHeartbeats 8000000 in
set_option maxRecDepth 100000 in
theorem oLayResult_any (vs : List Lit) (w : World) (h : fitKs resK vs) :
    Calls Tryz.prog 53 #[litsV vs] w fun x w' => x = .returned (.string (bstr (layKs resK vs))) ∧ Below w.heap.size w w' := by
  have hf := h
  obtain ⟨v0, vs, rfl, h0, h⟩ := fit_cons h
  obtain ⟨v1, vs, rfl, h1, h⟩ := fit_cons h
  obtain ⟨v2, vs, rfl, h2, h⟩ := fit_cons h
  obtain ⟨v3, vs, rfl, h3, h⟩ := fit_cons h
  obtain ⟨v4, vs, rfl, h4, h⟩ := fit_cons h
  obtain rfl := fit_nil h
  obtain ⟨x0, rfl, h0⟩ := fitI h0
  obtain ⟨x1, rfl⟩ := fitB h1
  obtain ⟨x2, rfl, h2⟩ := fitS h2
  obtain ⟨x3, rfl, h3⟩ := fitS h3
  obtain ⟨x4, rfl, h4⟩ := fitU h4
  clear h
  obtain ⟨P0, eP0⟩ : ∃ x, x = nums [x0] := ⟨_, rfl⟩
  have lP0 : P0.length ≤ 1000 := by rw [eP0]; have := nums_len [x0] (by simp; omega); simp only [List.length_cons, List.length_nil] at this; omega
  obtain ⟨P1, eP1⟩ : ∃ x, x = bol x1 := ⟨_, rfl⟩
  have lP1 : P1.length ≤ 1000 := by rw [eP1]; cases x1 <;> decide
  obtain ⟨P2, eP2⟩ : ∃ x, x = txts [x2, x3] := ⟨_, rfl⟩
  have lP2 : P2.length ≤ 30000000 := by rw [eP2]; have := txts_len [x2, x3] 1048576 (by omega) (by simp; omega); simp only [List.length_cons, List.length_nil] at this; omega
  obtain ⟨P3, eP3⟩ : ∃ x, x = nums [x4] := ⟨_, rfl⟩
  have lP3 : P3.length ≤ 1000 := by rw [eP3]; have := nums_len [x4] (by simp; omega); simp only [List.length_cons, List.length_nil] at this; omega
  have hL : layKs resK [.int .i64 (x0 : Int), .bool x1, .string x2, .string x3, .int .u64 (x4 : Int)] = (P0 ++ (P1 ++ (P2 ++ P3))) := by
    rw [eP0, eP1, eP2, eP3]
    simp [layKs, layK, nums, txts]
  have HL : Hid _ := hL
  have EP0 : Hid _ := eP0
  have LP0 : Hid _ := lP0
  have EP1 : Hid _ := eP1
  have LP1 : Hid _ := lP1
  have EP2 : Hid _ := eP2
  have LP2 : Hid _ := lP2
  have EP3 : Hid _ := eP3
  have LP3 : Hid _ := lP3
  have HW0 : Hid (IntKind.u64.wrap (x0 : Int) = (x0 : Int)) := by show _ = _; rw [IntKind.wrap_u64]; omega
  have H0 : Hid _ := h0
  have H2 : Hid _ := h2
  have H3 : Hid _ := h3
  have H4 : Hid _ := h4
  clear hf hL eP0 lP0 eP1 lP1 eP2 lP2 eP3 lP3 
  rw [show litsV [.int .i64 (x0 : Int), .bool x1, .string x2, .string x3, .int .u64 (x4 : Int)] = .agg #[.int .i64 (x0 : Int), .bool x1, .string (bstr x2), .string (bstr x3), .int .u64 (x4 : Int)] from rfl]
  go_enter Tryz.func53, Tryz.ntmps53
  go_upto_region 1 with fail
  obtain ⟨w1, hw1⟩ : ∃ w1, w1 = w.alloc (.cells #[.int .i64 (x0 : Int), .bool x1, .string (bstr x2), .string (bstr x3), .int .u64 (x4 : Int)] 46) := ⟨_, rfl⟩
  have hb1 : Below w.heap.size w w1 := by rw [hw1]; exact (Below.refl _ _).alloc (Nat.le_refl _) _
  have hc := (mcells (show w1.heap[w.heap.size]? = some (.cells #[.int .i64 (x0 : Int), .bool x1, .string (bstr x2), .string (bstr x3), .int .u64 (x4 : Int)] 46 (0, 0)) by rw [hw1]; exact heap_alloc_new w _)).1
  have C0 : Hid (w1.cell? ⟨w.heap.size, 0, none⟩ = some (.int .i64 (x0 : Int))) := hc 0
  have C1 : Hid (w1.cell? ⟨w.heap.size, 1, none⟩ = some (.bool x1)) := hc 1
  have C2 : Hid (w1.cell? ⟨w.heap.size, 2, none⟩ = some (.string (bstr x2))) := hc 2
  have C3 : Hid (w1.cell? ⟨w.heap.size, 3, none⟩ = some (.string (bstr x3))) := hc 3
  have C4 : Hid (w1.cell? ⟨w.heap.size, 4, none⟩ = some (.int .u64 (x4 : Int))) := hc 4
  rw [← hw1]
  clear hc hw1
  refine wp_grow (R := RS [eqV (.pointer (some ⟨w.heap.size, 0, none⟩)),
    eqV (.int .i64 (x0 : Int)),
    eqV (.int .u64 (x0 : Int)),
    slV [.int .u64 (x0 : Int)],
    eqV (.string (bstr P0)),
    eqV (.pointer (some ⟨w.heap.size, 1, none⟩)),
    eqV (.bool x1),
    eqV (.string (bstr P1)),
    eqV (.string (bstr (P0 ++ P1))),
    eqV (.pointer (some ⟨w.heap.size, 2, none⟩)),
    eqV (.string (bstr x2)),
    eqV (.pointer (some ⟨w.heap.size, 3, none⟩)),
    eqV (.string (bstr x3)),
    slV [.string (bstr x2), .string (bstr x3)],
    eqV (.string (bstr P2)),
    eqV (.string (bstr (P0 ++ (P1 ++ P2)))),
    eqV (.pointer (some ⟨w.heap.size, 4, none⟩)),
    eqV (.int .u64 (x4 : Int)),
    slV [.int .u64 (x4 : Int)],
    eqV (.string (bstr P3)),
    eqV (.string (bstr (P0 ++ (P1 ++ (P2 ++ P3))))),
    eqV (.string (bstr (P0 ++ (P1 ++ (P2 ++ P3)))))])
    (by kernel_rfl) (by kernel_rfl) (RS.below ?_) ?_ ?_
  · simp [lst_eqV, lst_slV]
  · refine ⟨?_, ?_, ?_, ?_, ?_, ?_, ?_, ?_, ?_, ?_, ?_, ?_, ?_, ?_, ?_, ?_, ?_, ?_, ?_, ?_, ?_, ?_, trivial⟩
    · intro a W K hb hold hd hK
      have t1 : a.tmps.getD 1 undef = .pointer (some ⟨w.heap.size, 0, none⟩) := hold 1 (by kernel_rfl)
      go_simp
      exact hK _ _ (Below.refl _ _) rfl
    · intro a W K hb hold hd hK
      have t1 : a.tmps.getD 3 undef = .pointer (some ⟨w.heap.size, 0, none⟩) := hd ⟨0, .data⟩ (by simp) rfl _ _ rfl rfl
      have c := cell_below hb C0.out
      go_simp
      exact hK _ _ (Below.refl _ _) rfl
    · intro a W K hb hold hd hK
      have t1 : a.tmps.getD 4 undef = .int .i64 (x0 : Int) := hd ⟨1, .data⟩ (by simp) rfl _ _ rfl rfl
      have hw := HW0.out
      go_simp
      exact hK _ _ (Below.refl _ _) rfl
    · intro a W K hb hold hd hK
      have t0 : a.tmps.getD 5 undef = .int .u64 (x0 : Int) := hd ⟨2, .data⟩ (by simp) rfl _ _ rfl rfl
      rw [Array.getD_eq_getD_getElem?] at t0
      go_simp
      exact hK _ _ ((Below.refl _ _).alloc (Nat.le_refl _) _) (sl_newL _ [.int .u64 (x0 : Int)] _)
    · intro a W K hb hold hd hK
      obtain ⟨b, t1, hbb, hc⟩ : slV [.int .u64 (x0 : Int)] (a.tmps.getD 6 undef) W := hd ⟨3, .data⟩ (by simp) rfl _ _ rfl rfl
      go_simp
      refine (jNumsV [x0] _ W ⟨b, rfl, hbb, hc⟩ (by simp) (by simp; omega)).mono ?_
      rintro e wf ⟨rfl, hbf⟩
      exact hK _ _ hbf (congrArg (fun x => Value.string (bstr x)) EP0.out.symm)
    · intro a W K hb hold hd hK
      have t1 : a.tmps.getD 1 undef = .pointer (some ⟨w.heap.size, 0, none⟩) := hold 1 (by kernel_rfl)
      go_simp
      exact hK _ _ (Below.refl _ _) rfl
    · intro a W K hb hold hd hK
      have t1 : a.tmps.getD 8 undef = .pointer (some ⟨w.heap.size, 1, none⟩) := hd ⟨5, .data⟩ (by simp) rfl _ _ rfl rfl
      have c := cell_below hb C1.out
      go_simp
      exact hK _ _ (Below.refl _ _) rfl
    · intro a W K hb hold hd hK
      have t1 : a.tmps.getD 9 undef = .bool x1 := hd ⟨6, .data⟩ (by simp) rfl _ _ rfl rfl
      go_simp
      refine (jBool_any x1 W).mono ?_
      rintro e wf ⟨rfl, hbf⟩
      exact hK _ _ hbf (congrArg (fun x => Value.string (bstr x)) EP1.out.symm)
    · intro a W K hb hold hd hK
      have t1 : a.tmps.getD 7 undef = .string (bstr P0) := hd ⟨4, .data⟩ (by simp) rfl _ _ rfl rfl
      have t2 : a.tmps.getD 10 undef = .string (bstr P1) := hd ⟨7, .data⟩ (by simp) rfl _ _ rfl rfl
      have lP0 := LP0.out
      have lP1 := LP1.out
      go_simp
      rw [if_neg (by omega)]
      go_simp
      exact hK _ _ (Below.refl _ _) rfl
    · intro a W K hb hold hd hK
      have t1 : a.tmps.getD 1 undef = .pointer (some ⟨w.heap.size, 0, none⟩) := hold 1 (by kernel_rfl)
      go_simp
      exact hK _ _ (Below.refl _ _) rfl
    · intro a W K hb hold hd hK
      have t1 : a.tmps.getD 12 undef = .pointer (some ⟨w.heap.size, 2, none⟩) := hd ⟨9, .data⟩ (by simp) rfl _ _ rfl rfl
      have c := cell_below hb C2.out
      go_simp
      exact hK _ _ (Below.refl _ _) rfl
    · intro a W K hb hold hd hK
      have t1 : a.tmps.getD 1 undef = .pointer (some ⟨w.heap.size, 0, none⟩) := hold 1 (by kernel_rfl)
      go_simp
      exact hK _ _ (Below.refl _ _) rfl
    · intro a W K hb hold hd hK
      have t1 : a.tmps.getD 14 undef = .pointer (some ⟨w.heap.size, 3, none⟩) := hd ⟨11, .data⟩ (by simp) rfl _ _ rfl rfl
      have c := cell_below hb C3.out
      go_simp
      exact hK _ _ (Below.refl _ _) rfl
    · intro a W K hb hold hd hK
      have t0 : a.tmps.getD 13 undef = .string (bstr x2) := hd ⟨10, .data⟩ (by simp) rfl _ _ rfl rfl
      have t1 : a.tmps.getD 15 undef = .string (bstr x3) := hd ⟨12, .data⟩ (by simp) rfl _ _ rfl rfl
      rw [Array.getD_eq_getD_getElem?] at t0 t1
      go_simp
      exact hK _ _ ((Below.refl _ _).alloc (Nat.le_refl _) _) (sl_newL _ [.string (bstr x2), .string (bstr x3)] _)
    · intro a W K hb hold hd hK
      obtain ⟨b, t1, hbb, hc⟩ : slV [.string (bstr x2), .string (bstr x3)] (a.tmps.getD 16 undef) W := hd ⟨13, .data⟩ (by simp) rfl _ _ rfl rfl
      go_simp
      refine (jTxtsV [x2, x3] _ W ⟨b, rfl, hbb, hc⟩ (by simp) (by simp; omega)).mono ?_
      rintro e wf ⟨rfl, hbf⟩
      exact hK _ _ hbf (congrArg (fun x => Value.string (bstr x)) EP2.out.symm)
    · intro a W K hb hold hd hK
      have t1 : a.tmps.getD 11 undef = .string (bstr (P0 ++ P1)) := hd ⟨8, .data⟩ (by simp) rfl _ _ rfl rfl
      have t2 : a.tmps.getD 17 undef = .string (bstr P2) := hd ⟨14, .data⟩ (by simp) rfl _ _ rfl rfl
      have lP0 := LP0.out
      have lP1 := LP1.out
      have lP2 := LP2.out
      go_simp
      rw [if_neg (by omega)]
      go_simp
      exact hK _ _ (Below.refl _ _) rfl
    · intro a W K hb hold hd hK
      have t1 : a.tmps.getD 1 undef = .pointer (some ⟨w.heap.size, 0, none⟩) := hold 1 (by kernel_rfl)
      go_simp
      exact hK _ _ (Below.refl _ _) rfl
    · intro a W K hb hold hd hK
      have t1 : a.tmps.getD 19 undef = .pointer (some ⟨w.heap.size, 4, none⟩) := hd ⟨16, .data⟩ (by simp) rfl _ _ rfl rfl
      have c := cell_below hb C4.out
      go_simp
      exact hK _ _ (Below.refl _ _) rfl
    · intro a W K hb hold hd hK
      have t0 : a.tmps.getD 20 undef = .int .u64 (x4 : Int) := hd ⟨17, .data⟩ (by simp) rfl _ _ rfl rfl
      rw [Array.getD_eq_getD_getElem?] at t0
      go_simp
      exact hK _ _ ((Below.refl _ _).alloc (Nat.le_refl _) _) (sl_newL _ [.int .u64 (x4 : Int)] _)
    · intro a W K hb hold hd hK
      obtain ⟨b, t1, hbb, hc⟩ : slV [.int .u64 (x4 : Int)] (a.tmps.getD 21 undef) W := hd ⟨18, .data⟩ (by simp) rfl _ _ rfl rfl
      go_simp
      refine (jNumsV [x4] _ W ⟨b, rfl, hbb, hc⟩ (by simp) (by simp; omega)).mono ?_
      rintro e wf ⟨rfl, hbf⟩
      exact hK _ _ hbf (congrArg (fun x => Value.string (bstr x)) EP3.out.symm)
    · intro a W K hb hold hd hK
      have t1 : a.tmps.getD 18 undef = .string (bstr (P0 ++ (P1 ++ P2))) := hd ⟨15, .data⟩ (by simp) rfl _ _ rfl rfl
      have t2 : a.tmps.getD 22 undef = .string (bstr P3) := hd ⟨19, .data⟩ (by simp) rfl _ _ rfl rfl
      have lP0 := LP0.out
      have lP1 := LP1.out
      have lP2 := LP2.out
      have lP3 := LP3.out
      go_simp
      rw [if_neg (by omega)]
      go_simp
      exact hK _ _ (Below.refl _ _) rfl
    · intro a W K hb hold hd hK
      have t1 : a.tmps.getD 23 undef = .string (bstr (P0 ++ (P1 ++ (P2 ++ P3)))) := hd ⟨20, .data⟩ (by simp) rfl _ _ rfl rfl
      go_simp
      exact hK _ _ (Below.refl _ _) rfl
  · intro a' w' hb hdf hts hold hnew
    have t2 : a'.tmps.getD 2 undef = .string (bstr (layKs resK [.int .i64 (x0 : Int), .bool x1, .string x2, .string x3, .int .u64 (x4 : Int)])) := (hnew 21 _ 2 rfl rfl).trans (by rw [HL.out])
    obtain ⟨t, d⟩ := a'
    obtain rfl : d = [] := hdf
    simp only at t2
    clear hold hnew hts
    go_wp2
    go_ret
    exact ⟨congrArg Ending.returned t2, bel_call hb (bel_drew hb1)⟩

end Go.Proofs.YtbdbefgfejdbjaaGreat

namespace Go.Proofs.YtbdbefgfejdbjaaGreat
open Go.RowKit Go.BigFrame
attribute [local go_sem] size_bstr toList_bstr append_bstr

set_option maxHeartbeats 8000000 in
set_option maxRecDepth 100000 in
theorem oLayReply_any (vs : List Lit) (w : World) (h : fitKs repK vs) :
    Calls Tryz.prog 91 #[litsV vs] w fun x w' => x = .returned (.string (bstr (layKs repK vs))) ∧ Below w.heap.size w w' := by
  have hf := h
  obtain ⟨v0, vs, rfl, h0, h⟩ := fit_cons h
  obtain ⟨v1, vs, rfl, h1, h⟩ := fit_cons h
  obtain ⟨v2, vs, rfl, h2, h⟩ := fit_cons h
  obtain ⟨v3, vs, rfl, h3, h⟩ := fit_cons h
  obtain ⟨v4, vs, rfl, h4, h⟩ := fit_cons h
  obtain ⟨v5, vs, rfl, h5, h⟩ := fit_cons h
  obtain ⟨v6, vs, rfl, h6, h⟩ := fit_cons h
  obtain ⟨v7, vs, rfl, h7, h⟩ := fit_cons h
  obtain rfl := fit_nil h
  obtain ⟨x0, rfl, h0⟩ := fitI h0
  obtain ⟨x1, rfl, h1⟩ := fitU h1
  obtain ⟨x2, rfl, h2⟩ := fitI h2
  obtain ⟨x3, rfl⟩ := fitB h3
  obtain ⟨x4, rfl, h4⟩ := fitS h4
  obtain ⟨x5, rfl, h5⟩ := fitS h5
  obtain ⟨x6, rfl, h6⟩ := fitU h6
  obtain ⟨x7, rfl, h7⟩ := fitG h7
  clear h
  have f2 : fitKs resK [.int .i64 (x2 : Int), .bool x3, .string x4, .string x5, .int .u64 (x6 : Int)] := ⟨hf.2.2.1, hf.2.2.2.1, hf.2.2.2.2.1, hf.2.2.2.2.2.1, hf.2.2.2.2.2.2.1, trivial⟩
  have F2 : Hid _ := f2
  obtain ⟨P0, eP0⟩ : ∃ x, x = nums [x0, x1] := ⟨_, rfl⟩
  have lP0 : P0.length ≤ 1000 := by rw [eP0]; have := nums_len [x0, x1] (by simp; omega); simp only [List.length_cons, List.length_nil] at this; omega
  obtain ⟨P1, eP1⟩ : ∃ x, x = layKs resK [.int .i64 (x2 : Int), .bool x3, .string x4, .string x5, .int .u64 (x6 : Int)] := ⟨_, rfl⟩
  have lP1 : P1.length ≤ 40000000 := by rw [eP1]; have := layKs_len f2; simp only [List.length_cons, List.length_nil] at this; omega
  obtain ⟨P2, eP2⟩ : ∃ x, x = Lib.uvarint (zig x7) := ⟨_, rfl⟩
  have lP2 : P2.length ≤ 1000 := by rw [eP2]; have := Lib.uvarint_length64 (x := zig x7) (by omega); omega
  have hL : layKs repK [.int .i64 (x0 : Int), .int .u64 (x1 : Int), .int .i64 (x2 : Int), .bool x3, .string x4, .string x5, .int .u64 (x6 : Int), .int .i64 x7] = (P0 ++ (P1 ++ P2)) := by
    rw [eP0, eP1, eP2]
    simp [layKs, layK, nums]
  have HL : Hid _ := hL
  have EP0 : Hid _ := eP0
  have LP0 : Hid _ := lP0
  have EP1 : Hid _ := eP1
  have LP1 : Hid _ := lP1
  have EP2 : Hid _ := eP2
  have LP2 : Hid _ := lP2
  have HW0 : Hid (IntKind.u64.wrap (x0 : Int) = (x0 : Int)) := by show _ = _; rw [IntKind.wrap_u64]; omega
  have H0 : Hid _ := h0
  have H1 : Hid _ := h1
  have HW2 : Hid (IntKind.u64.wrap (x2 : Int) = (x2 : Int)) := by show _ = _; rw [IntKind.wrap_u64]; omega
  have H2 : Hid _ := h2
  have H4 : Hid _ := h4
  have H5 : Hid _ := h5
  have H6 : Hid _ := h6
  have H7 : Hid _ := h7
  clear hf hL eP0 lP0 eP1 lP1 eP2 lP2 f2
  rw [show litsV [.int .i64 (x0 : Int), .int .u64 (x1 : Int), .int .i64 (x2 : Int), .bool x3, .string x4, .string x5, .int .u64 (x6 : Int), .int .i64 x7] = .agg #[.int .i64 (x0 : Int), .int .u64 (x1 : Int), .int .i64 (x2 : Int), .bool x3, .string (bstr x4), .string (bstr x5), .int .u64 (x6 : Int), .int .i64 x7] from rfl]
  go_enter Tryz.func91, Tryz.ntmps91
  go_upto_region 1 with fail
  obtain ⟨w1, hw1⟩ : ∃ w1, w1 = w.alloc (.cells #[.int .i64 (x0 : Int), .int .u64 (x1 : Int), .int .i64 (x2 : Int), .bool x3, .string (bstr x4), .string (bstr x5), .int .u64 (x6 : Int), .int .i64 x7] 55) := ⟨_, rfl⟩
  have hb1 : Below w.heap.size w w1 := by rw [hw1]; exact (Below.refl _ _).alloc (Nat.le_refl _) _
  have hc := (mcells (show w1.heap[w.heap.size]? = some (.cells #[.int .i64 (x0 : Int), .int .u64 (x1 : Int), .int .i64 (x2 : Int), .bool x3, .string (bstr x4), .string (bstr x5), .int .u64 (x6 : Int), .int .i64 x7] 55 (0, 0)) by rw [hw1]; exact heap_alloc_new w _)).1
  have G2 : Hid (w1.rangeAt w.heap.size 2 [.int .i64 (x2 : Int), .bool x3, .string (bstr x4), .string (bstr x5), .int .u64 (x6 : Int)]) := range_of_block (show w1.heap[w.heap.size]? = some (.cells #[.int .i64 (x0 : Int), .int .u64 (x1 : Int), .int .i64 (x2 : Int), .bool x3, .string (bstr x4), .string (bstr x5), .int .u64 (x6 : Int), .int .i64 x7] 55 (0, 0)) by rw [hw1]; exact heap_alloc_new w _) [.int .i64 (x0 : Int), .int .u64 (x1 : Int)] [.int .i64 (x2 : Int), .bool x3, .string (bstr x4), .string (bstr x5), .int .u64 (x6 : Int)] [.int .i64 x7] rfl
  have C0 : Hid (w1.cell? ⟨w.heap.size, 0, none⟩ = some (.int .i64 (x0 : Int))) := hc 0
  have C1 : Hid (w1.cell? ⟨w.heap.size, 1, none⟩ = some (.int .u64 (x1 : Int))) := hc 1
  have C2 : Hid (w1.cell? ⟨w.heap.size, 2, none⟩ = some (.int .i64 (x2 : Int))) := hc 2
  have C3 : Hid (w1.cell? ⟨w.heap.size, 3, none⟩ = some (.bool x3)) := hc 3
  have C4 : Hid (w1.cell? ⟨w.heap.size, 4, none⟩ = some (.string (bstr x4))) := hc 4
  have C5 : Hid (w1.cell? ⟨w.heap.size, 5, none⟩ = some (.string (bstr x5))) := hc 5
  have C6 : Hid (w1.cell? ⟨w.heap.size, 6, none⟩ = some (.int .u64 (x6 : Int))) := hc 6
  have C7 : Hid (w1.cell? ⟨w.heap.size, 7, none⟩ = some (.int .i64 x7)) := hc 7
  rw [← hw1]
  clear hc hw1
  refine wp_grow (R := RS [eqV (.pointer (some ⟨w.heap.size, 0, none⟩)),
    eqV (.int .i64 (x0 : Int)),
    eqV (.int .u64 (x0 : Int)),
    eqV (.pointer (some ⟨w.heap.size, 1, none⟩)),
    eqV (.int .u64 (x1 : Int)),
    slV [.int .u64 (x0 : Int), .int .u64 (x1 : Int)],
    eqV (.string (bstr P0)),
    eqV (.pointer (some ⟨w.heap.size, 2, none⟩)),
    eqV (.agg #[.int .i64 (x2 : Int), .bool x3, .string (bstr x4), .string (bstr x5), .int .u64 (x6 : Int)]),
    eqV (.string (bstr P1)),
    eqV (.string (bstr (P0 ++ P1))),
    eqV (.pointer (some ⟨w.heap.size, 7, none⟩)),
    eqV (.int .i64 x7),
    eqV (.string (bstr P2)),
    eqV (.string (bstr (P0 ++ (P1 ++ P2)))),
    eqV (.string (bstr (P0 ++ (P1 ++ P2))))])
    (by kernel_rfl) (by kernel_rfl) (RS.below ?_) ?_ ?_
  · simp [lst_eqV, lst_slV]
  · refine ⟨?_, ?_, ?_, ?_, ?_, ?_, ?_, ?_, ?_, ?_, ?_, ?_, ?_, ?_, ?_, ?_, trivial⟩
    · intro a W K hb hold hd hK
      have t1 : a.tmps.getD 1 undef = .pointer (some ⟨w.heap.size, 0, none⟩) := hold 1 (by kernel_rfl)
      go_simp
      exact hK _ _ (Below.refl _ _) rfl
    · intro a W K hb hold hd hK
      have t1 : a.tmps.getD 3 undef = .pointer (some ⟨w.heap.size, 0, none⟩) := hd ⟨0, .data⟩ (by simp) rfl _ _ rfl rfl
      have c := cell_below hb C0.out
      go_simp
      exact hK _ _ (Below.refl _ _) rfl
    · intro a W K hb hold hd hK
      have t1 : a.tmps.getD 4 undef = .int .i64 (x0 : Int) := hd ⟨1, .data⟩ (by simp) rfl _ _ rfl rfl
      have hw := HW0.out
      go_simp
      exact hK _ _ (Below.refl _ _) rfl
    · intro a W K hb hold hd hK
      have t1 : a.tmps.getD 1 undef = .pointer (some ⟨w.heap.size, 0, none⟩) := hold 1 (by kernel_rfl)
      go_simp
      exact hK _ _ (Below.refl _ _) rfl
    · intro a W K hb hold hd hK
      have t1 : a.tmps.getD 6 undef = .pointer (some ⟨w.heap.size, 1, none⟩) := hd ⟨3, .data⟩ (by simp) rfl _ _ rfl rfl
      have c := cell_below hb C1.out
      go_simp
      exact hK _ _ (Below.refl _ _) rfl
    · intro a W K hb hold hd hK
      have t0 : a.tmps.getD 5 undef = .int .u64 (x0 : Int) := hd ⟨2, .data⟩ (by simp) rfl _ _ rfl rfl
      have t1 : a.tmps.getD 7 undef = .int .u64 (x1 : Int) := hd ⟨4, .data⟩ (by simp) rfl _ _ rfl rfl
      rw [Array.getD_eq_getD_getElem?] at t0 t1
      go_simp
      exact hK _ _ ((Below.refl _ _).alloc (Nat.le_refl _) _) (sl_newL _ [.int .u64 (x0 : Int), .int .u64 (x1 : Int)] _)
    · intro a W K hb hold hd hK
      obtain ⟨b, t1, hbb, hc⟩ : slV [.int .u64 (x0 : Int), .int .u64 (x1 : Int)] (a.tmps.getD 8 undef) W := hd ⟨5, .data⟩ (by simp) rfl _ _ rfl rfl
      go_simp
      refine (jNumsV [x0, x1] _ W ⟨b, rfl, hbb, hc⟩ (by simp) (by simp; omega)).mono ?_
      rintro e wf ⟨rfl, hbf⟩
      exact hK _ _ hbf (congrArg (fun x => Value.string (bstr x)) EP0.out.symm)
    · intro a W K hb hold hd hK
      have t1 : a.tmps.getD 1 undef = .pointer (some ⟨w.heap.size, 0, none⟩) := hold 1 (by kernel_rfl)
      go_simp
      exact hK _ _ (Below.refl _ _) rfl
    · intro a W K hb hold hd hK
      have t1 : a.tmps.getD 10 undef = .pointer (some ⟨w.heap.size, 2, none⟩) := hd ⟨7, .data⟩ (by simp) rfl _ _ rfl rfl
      exact wp_load_mid 46 _ rfl w.heap.size 2 t1 [.int .i64 (x2 : Int), .bool x3, .string (bstr x4), .string (bstr x5), .int .u64 (x6 : Int)] _ (range_below hb G2.out) Tryz.underlying46 rfl (by kernel_rfl) (hK _ _ (Below.refl _ _) rfl)
    · intro a W K hb hold hd hK
      have t1 : a.tmps.getD 11 undef = .agg #[.int .i64 (x2 : Int), .bool x3, .string (bstr x4), .string (bstr x5), .int .u64 (x6 : Int)] := hd ⟨8, .data⟩ (by simp) rfl _ _ rfl rfl
      go_simp
      refine (oLayResult_any [.int .i64 (x2 : Int), .bool x3, .string x4, .string x5, .int .u64 (x6 : Int)] W F2.out).mono ?_
      rintro e wf ⟨rfl, hbf⟩
      exact hK _ _ hbf (congrArg (fun x => Value.string (bstr x)) EP1.out.symm)
    · intro a W K hb hold hd hK
      have t1 : a.tmps.getD 9 undef = .string (bstr P0) := hd ⟨6, .data⟩ (by simp) rfl _ _ rfl rfl
      have t2 : a.tmps.getD 12 undef = .string (bstr P1) := hd ⟨9, .data⟩ (by simp) rfl _ _ rfl rfl
      have lP0 := LP0.out
      have lP1 := LP1.out
      go_simp
      rw [if_neg (by omega)]
      go_simp
      exact hK _ _ (Below.refl _ _) rfl
    · intro a W K hb hold hd hK
      have t1 : a.tmps.getD 1 undef = .pointer (some ⟨w.heap.size, 0, none⟩) := hold 1 (by kernel_rfl)
      go_simp
      exact hK _ _ (Below.refl _ _) rfl
    · intro a W K hb hold hd hK
      have t1 : a.tmps.getD 14 undef = .pointer (some ⟨w.heap.size, 7, none⟩) := hd ⟨11, .data⟩ (by simp) rfl _ _ rfl rfl
      have c := cell_below hb C7.out
      go_simp
      exact hK _ _ (Below.refl _ _) rfl
    · intro a W K hb hold hd hK
      have t1 : a.tmps.getD 15 undef = .int .i64 x7 := hd ⟨12, .data⟩ (by simp) rfl _ _ rfl rfl
      go_simp
      refine (oSigned_any x7 W H7.out).mono ?_
      rintro e wf ⟨rfl, hbf⟩
      exact hK _ _ hbf (congrArg (fun x => Value.string (bstr x)) EP2.out.symm)
    · intro a W K hb hold hd hK
      have t1 : a.tmps.getD 13 undef = .string (bstr (P0 ++ P1)) := hd ⟨10, .data⟩ (by simp) rfl _ _ rfl rfl
      have t2 : a.tmps.getD 16 undef = .string (bstr P2) := hd ⟨13, .data⟩ (by simp) rfl _ _ rfl rfl
      have lP0 := LP0.out
      have lP1 := LP1.out
      have lP2 := LP2.out
      go_simp
      rw [if_neg (by omega)]
      go_simp
      exact hK _ _ (Below.refl _ _) rfl
    · intro a W K hb hold hd hK
      have t1 : a.tmps.getD 17 undef = .string (bstr (P0 ++ (P1 ++ P2))) := hd ⟨14, .data⟩ (by simp) rfl _ _ rfl rfl
      go_simp
      exact hK _ _ (Below.refl _ _) rfl
  · intro a' w' hb hdf hts hold hnew
    have t2 : a'.tmps.getD 2 undef = .string (bstr (layKs repK [.int .i64 (x0 : Int), .int .u64 (x1 : Int), .int .i64 (x2 : Int), .bool x3, .string x4, .string x5, .int .u64 (x6 : Int), .int .i64 x7])) := (hnew 15 _ 2 rfl rfl).trans (by rw [HL.out])
    obtain ⟨t, d⟩ := a'
    obtain rfl : d = [] := hdf
    simp only at t2
    clear hold hnew hts
    go_wp2
    go_ret
    exact ⟨congrArg Ending.returned t2, bel_call hb (bel_drew hb1)⟩

end Go.Proofs.YtbdbefgfejdbjaaGreat
