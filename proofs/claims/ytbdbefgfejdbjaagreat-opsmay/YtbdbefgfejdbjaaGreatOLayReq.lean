/-
  Request laid: written by mkolay.py.
-/
import Derived.Test.YtbdbefgfejdbjaaGreatOLayOp
namespace Go.Proofs.YtbdbefgfejdbjaaGreat
open Go.RowKit Go.BigFrame
attribute [local go_sem] size_bstr toList_bstr append_bstr

set_option maxHeartbeats 8000000 in
set_option maxRecDepth 100000 in
theorem oLayRequest_any (vs : List Lit) (w : World) (h : fitKs reqK vs) :
    Calls Tryz.prog 90 #[litsV vs] w fun x w' => x = .returned (.string (bstr (layKs reqK vs))) ∧ Below w.heap.size w w' := by
  have hf := h
  obtain ⟨v0, vs, rfl, h0, h⟩ := fit_cons h
  obtain ⟨v1, vs, rfl, h1, h⟩ := fit_cons h
  obtain ⟨v2, vs, rfl, h2, h⟩ := fit_cons h
  obtain ⟨v3, vs, rfl, h3, h⟩ := fit_cons h
  obtain ⟨v4, vs, rfl, h4, h⟩ := fit_cons h
  obtain ⟨v5, vs, rfl, h5, h⟩ := fit_cons h
  obtain ⟨v6, vs, rfl, h6, h⟩ := fit_cons h
  obtain ⟨v7, vs, rfl, h7, h⟩ := fit_cons h
  obtain ⟨v8, vs, rfl, h8, h⟩ := fit_cons h
  obtain ⟨v9, vs, rfl, h9, h⟩ := fit_cons h
  obtain rfl := fit_nil h
  obtain ⟨x0, rfl, h0⟩ := fitI h0
  obtain ⟨x1, rfl, h1⟩ := fitU h1
  obtain ⟨x2, rfl, h2⟩ := fitI h2
  obtain ⟨x3, rfl, h3⟩ := fitU h3
  obtain ⟨x4, rfl, h4⟩ := fitI h4
  obtain ⟨x5, rfl, h5⟩ := fitS h5
  obtain ⟨x6, rfl, h6⟩ := fitS h6
  obtain ⟨x7, rfl, h7⟩ := fitS h7
  obtain ⟨x8, rfl⟩ := fitB h8
  obtain ⟨x9, rfl, h9⟩ := fitS h9
  clear h
  have f4 : fitKs opK [.int .i64 (x4 : Int), .string x5, .string x6, .string x7, .bool x8, .string x9] := ⟨hf.2.2.2.2.1, hf.2.2.2.2.2.1, hf.2.2.2.2.2.2.1, hf.2.2.2.2.2.2.2.1, hf.2.2.2.2.2.2.2.2.1, hf.2.2.2.2.2.2.2.2.2.1, trivial⟩
  have F4 : Hid _ := f4
  obtain ⟨P0, eP0⟩ : ∃ x, x = nums [x0, x1, x2, x3] := ⟨_, rfl⟩
  have lP0 : P0.length ≤ 1000 := by rw [eP0]; have := nums_len [x0, x1, x2, x3] (by simp; omega); simp only [List.length_cons, List.length_nil] at this; omega
  obtain ⟨P1, eP1⟩ : ∃ x, x = layKs opK [.int .i64 (x4 : Int), .string x5, .string x6, .string x7, .bool x8, .string x9] := ⟨_, rfl⟩
  have lP1 : P1.length ≤ 40000000 := by rw [eP1]; have := layKs_len f4; simp only [List.length_cons, List.length_nil] at this; omega
  have hL : layKs reqK [.int .i64 (x0 : Int), .int .u64 (x1 : Int), .int .i64 (x2 : Int), .int .u64 (x3 : Int), .int .i64 (x4 : Int), .string x5, .string x6, .string x7, .bool x8, .string x9] = (P0 ++ P1) := by
    rw [eP0, eP1]
    simp [layKs, layK, nums]
  have HL : Hid _ := hL
  have EP0 : Hid _ := eP0
  have LP0 : Hid _ := lP0
  have EP1 : Hid _ := eP1
  have LP1 : Hid _ := lP1
  have HW0 : Hid (IntKind.u64.wrap (x0 : Int) = (x0 : Int)) := by show _ = _; rw [IntKind.wrap_u64]; omega
  have H0 : Hid _ := h0
  have H1 : Hid _ := h1
  have HW2 : Hid (IntKind.u64.wrap (x2 : Int) = (x2 : Int)) := by show _ = _; rw [IntKind.wrap_u64]; omega
  have H2 : Hid _ := h2
  have H3 : Hid _ := h3
  have HW4 : Hid (IntKind.u64.wrap (x4 : Int) = (x4 : Int)) := by show _ = _; rw [IntKind.wrap_u64]; omega
  have H4 : Hid _ := h4
  have H5 : Hid _ := h5
  have H6 : Hid _ := h6
  have H7 : Hid _ := h7
  have H9 : Hid _ := h9
  clear hf hL eP0 lP0 eP1 lP1 f4
  rw [show litsV [.int .i64 (x0 : Int), .int .u64 (x1 : Int), .int .i64 (x2 : Int), .int .u64 (x3 : Int), .int .i64 (x4 : Int), .string x5, .string x6, .string x7, .bool x8, .string x9] = .agg #[.int .i64 (x0 : Int), .int .u64 (x1 : Int), .int .i64 (x2 : Int), .int .u64 (x3 : Int), .int .i64 (x4 : Int), .string (bstr x5), .string (bstr x6), .string (bstr x7), .bool x8, .string (bstr x9)] from rfl]
  go_enter Tryz.func90, Tryz.ntmps90
  go_upto_region 1 with fail
  obtain ⟨w1, hw1⟩ : ∃ w1, w1 = w.alloc (.cells #[.int .i64 (x0 : Int), .int .u64 (x1 : Int), .int .i64 (x2 : Int), .int .u64 (x3 : Int), .int .i64 (x4 : Int), .string (bstr x5), .string (bstr x6), .string (bstr x7), .bool x8, .string (bstr x9)] 53) := ⟨_, rfl⟩
  have hb1 : Below w.heap.size w w1 := by rw [hw1]; exact (Below.refl _ _).alloc (Nat.le_refl _) _
  have hc := (mcells (show w1.heap[w.heap.size]? = some (.cells #[.int .i64 (x0 : Int), .int .u64 (x1 : Int), .int .i64 (x2 : Int), .int .u64 (x3 : Int), .int .i64 (x4 : Int), .string (bstr x5), .string (bstr x6), .string (bstr x7), .bool x8, .string (bstr x9)] 53 (0, 0)) by rw [hw1]; exact heap_alloc_new w _)).1
  have G4 : Hid (w1.rangeAt w.heap.size 4 [.int .i64 (x4 : Int), .string (bstr x5), .string (bstr x6), .string (bstr x7), .bool x8, .string (bstr x9)]) := range_of_block (show w1.heap[w.heap.size]? = some (.cells #[.int .i64 (x0 : Int), .int .u64 (x1 : Int), .int .i64 (x2 : Int), .int .u64 (x3 : Int), .int .i64 (x4 : Int), .string (bstr x5), .string (bstr x6), .string (bstr x7), .bool x8, .string (bstr x9)] 53 (0, 0)) by rw [hw1]; exact heap_alloc_new w _) [.int .i64 (x0 : Int), .int .u64 (x1 : Int), .int .i64 (x2 : Int), .int .u64 (x3 : Int)] [.int .i64 (x4 : Int), .string (bstr x5), .string (bstr x6), .string (bstr x7), .bool x8, .string (bstr x9)] [] rfl
  have C0 : Hid (w1.cell? ⟨w.heap.size, 0, none⟩ = some (.int .i64 (x0 : Int))) := hc 0
  have C1 : Hid (w1.cell? ⟨w.heap.size, 1, none⟩ = some (.int .u64 (x1 : Int))) := hc 1
  have C2 : Hid (w1.cell? ⟨w.heap.size, 2, none⟩ = some (.int .i64 (x2 : Int))) := hc 2
  have C3 : Hid (w1.cell? ⟨w.heap.size, 3, none⟩ = some (.int .u64 (x3 : Int))) := hc 3
  have C4 : Hid (w1.cell? ⟨w.heap.size, 4, none⟩ = some (.int .i64 (x4 : Int))) := hc 4
  have C5 : Hid (w1.cell? ⟨w.heap.size, 5, none⟩ = some (.string (bstr x5))) := hc 5
  have C6 : Hid (w1.cell? ⟨w.heap.size, 6, none⟩ = some (.string (bstr x6))) := hc 6
  have C7 : Hid (w1.cell? ⟨w.heap.size, 7, none⟩ = some (.string (bstr x7))) := hc 7
  have C8 : Hid (w1.cell? ⟨w.heap.size, 8, none⟩ = some (.bool x8)) := hc 8
  have C9 : Hid (w1.cell? ⟨w.heap.size, 9, none⟩ = some (.string (bstr x9))) := hc 9
  rw [← hw1]
  clear hc hw1
  refine wp_grow (R := RS [eqV (.pointer (some ⟨w.heap.size, 0, none⟩)),
    eqV (.int .i64 (x0 : Int)),
    eqV (.int .u64 (x0 : Int)),
    eqV (.pointer (some ⟨w.heap.size, 1, none⟩)),
    eqV (.int .u64 (x1 : Int)),
    eqV (.pointer (some ⟨w.heap.size, 2, none⟩)),
    eqV (.int .i64 (x2 : Int)),
    eqV (.int .u64 (x2 : Int)),
    eqV (.pointer (some ⟨w.heap.size, 3, none⟩)),
    eqV (.int .u64 (x3 : Int)),
    slV [.int .u64 (x0 : Int), .int .u64 (x1 : Int), .int .u64 (x2 : Int), .int .u64 (x3 : Int)],
    eqV (.string (bstr P0)),
    eqV (.pointer (some ⟨w.heap.size, 4, none⟩)),
    eqV (.agg #[.int .i64 (x4 : Int), .string (bstr x5), .string (bstr x6), .string (bstr x7), .bool x8, .string (bstr x9)]),
    eqV (.string (bstr P1)),
    eqV (.string (bstr (P0 ++ P1))),
    eqV (.string (bstr (P0 ++ P1)))])
    (by kernel_rfl) (by kernel_rfl) (RS.below ?_) ?_ ?_
  · simp [lst_eqV, lst_slV]
  · refine ⟨?_, ?_, ?_, ?_, ?_, ?_, ?_, ?_, ?_, ?_, ?_, ?_, ?_, ?_, ?_, ?_, ?_, trivial⟩
    · intro a W K hb hold hd hK
      have t1 : a.tmps.getD 1 undef = .pointer (some ⟨w.heap.size, 0, none⟩) := hold 1 (by kernel_rfl)
      go_simp
      exact hK _ _ (Below.refl _ _) rfl
    · intro a W K hb hold hd hK
      have t1 : a.tmps.getD 3 undef = .pointer (some ⟨w.heap.size, 0, none⟩) := hd ⟨0, .data⟩ (by simp) rfl _ _ rfl rfl
      have c := cell_below hb C0.out
      go_simp
      exact hK _ _ (Below.refl _ _) rfl
    · intro a W K hb hold hd hK
      have t1 : a.tmps.getD 4 undef = .int .i64 (x0 : Int) := hd ⟨1, .data⟩ (by simp) rfl _ _ rfl rfl
      have hw := HW0.out
      go_simp
      exact hK _ _ (Below.refl _ _) rfl
    · intro a W K hb hold hd hK
      have t1 : a.tmps.getD 1 undef = .pointer (some ⟨w.heap.size, 0, none⟩) := hold 1 (by kernel_rfl)
      go_simp
      exact hK _ _ (Below.refl _ _) rfl
    · intro a W K hb hold hd hK
      have t1 : a.tmps.getD 6 undef = .pointer (some ⟨w.heap.size, 1, none⟩) := hd ⟨3, .data⟩ (by simp) rfl _ _ rfl rfl
      have c := cell_below hb C1.out
      go_simp
      exact hK _ _ (Below.refl _ _) rfl
    · intro a W K hb hold hd hK
      have t1 : a.tmps.getD 1 undef = .pointer (some ⟨w.heap.size, 0, none⟩) := hold 1 (by kernel_rfl)
      go_simp
      exact hK _ _ (Below.refl _ _) rfl
    · intro a W K hb hold hd hK
      have t1 : a.tmps.getD 8 undef = .pointer (some ⟨w.heap.size, 2, none⟩) := hd ⟨5, .data⟩ (by simp) rfl _ _ rfl rfl
      have c := cell_below hb C2.out
      go_simp
      exact hK _ _ (Below.refl _ _) rfl
    · intro a W K hb hold hd hK
      have t1 : a.tmps.getD 9 undef = .int .i64 (x2 : Int) := hd ⟨6, .data⟩ (by simp) rfl _ _ rfl rfl
      have hw := HW2.out
      go_simp
      exact hK _ _ (Below.refl _ _) rfl
    · intro a W K hb hold hd hK
      have t1 : a.tmps.getD 1 undef = .pointer (some ⟨w.heap.size, 0, none⟩) := hold 1 (by kernel_rfl)
      go_simp
      exact hK _ _ (Below.refl _ _) rfl
    · intro a W K hb hold hd hK
      have t1 : a.tmps.getD 11 undef = .pointer (some ⟨w.heap.size, 3, none⟩) := hd ⟨8, .data⟩ (by simp) rfl _ _ rfl rfl
      have c := cell_below hb C3.out
      go_simp
      exact hK _ _ (Below.refl _ _) rfl
    · intro a W K hb hold hd hK
      have t0 : a.tmps.getD 5 undef = .int .u64 (x0 : Int) := hd ⟨2, .data⟩ (by simp) rfl _ _ rfl rfl
      have t1 : a.tmps.getD 7 undef = .int .u64 (x1 : Int) := hd ⟨4, .data⟩ (by simp) rfl _ _ rfl rfl
      have t2 : a.tmps.getD 10 undef = .int .u64 (x2 : Int) := hd ⟨7, .data⟩ (by simp) rfl _ _ rfl rfl
      have t3 : a.tmps.getD 12 undef = .int .u64 (x3 : Int) := hd ⟨9, .data⟩ (by simp) rfl _ _ rfl rfl
      rw [Array.getD_eq_getD_getElem?] at t0 t1 t2 t3
      go_simp
      exact hK _ _ ((Below.refl _ _).alloc (Nat.le_refl _) _) (sl_newL _ [.int .u64 (x0 : Int), .int .u64 (x1 : Int), .int .u64 (x2 : Int), .int .u64 (x3 : Int)] _)
    · intro a W K hb hold hd hK
      obtain ⟨b, t1, hbb, hc⟩ : slV [.int .u64 (x0 : Int), .int .u64 (x1 : Int), .int .u64 (x2 : Int), .int .u64 (x3 : Int)] (a.tmps.getD 13 undef) W := hd ⟨10, .data⟩ (by simp) rfl _ _ rfl rfl
      go_simp
      refine (jNumsV [x0, x1, x2, x3] _ W ⟨b, rfl, hbb, hc⟩ (by simp) (by simp; omega)).mono ?_
      rintro e wf ⟨rfl, hbf⟩
      exact hK _ _ hbf (congrArg (fun x => Value.string (bstr x)) EP0.out.symm)
    · intro a W K hb hold hd hK
      have t1 : a.tmps.getD 1 undef = .pointer (some ⟨w.heap.size, 0, none⟩) := hold 1 (by kernel_rfl)
      go_simp
      exact hK _ _ (Below.refl _ _) rfl
    · intro a W K hb hold hd hK
      have t1 : a.tmps.getD 15 undef = .pointer (some ⟨w.heap.size, 4, none⟩) := hd ⟨12, .data⟩ (by simp) rfl _ _ rfl rfl
      exact wp_load_mid 24 _ rfl w.heap.size 4 t1 [.int .i64 (x4 : Int), .string (bstr x5), .string (bstr x6), .string (bstr x7), .bool x8, .string (bstr x9)] _ (range_below hb G4.out) Tryz.underlying24 rfl (by kernel_rfl) (hK _ _ (Below.refl _ _) rfl)
    · intro a W K hb hold hd hK
      have t1 : a.tmps.getD 16 undef = .agg #[.int .i64 (x4 : Int), .string (bstr x5), .string (bstr x6), .string (bstr x7), .bool x8, .string (bstr x9)] := hd ⟨13, .data⟩ (by simp) rfl _ _ rfl rfl
      go_simp
      refine (oLayOp_any [.int .i64 (x4 : Int), .string x5, .string x6, .string x7, .bool x8, .string x9] W F4.out).mono ?_
      rintro e wf ⟨rfl, hbf⟩
      exact hK _ _ hbf (congrArg (fun x => Value.string (bstr x)) EP1.out.symm)
    · intro a W K hb hold hd hK
      have t1 : a.tmps.getD 14 undef = .string (bstr P0) := hd ⟨11, .data⟩ (by simp) rfl _ _ rfl rfl
      have t2 : a.tmps.getD 17 undef = .string (bstr P1) := hd ⟨14, .data⟩ (by simp) rfl _ _ rfl rfl
      have lP0 := LP0.out
      have lP1 := LP1.out
      go_simp
      rw [if_neg (by omega)]
      go_simp
      exact hK _ _ (Below.refl _ _) rfl
    · intro a W K hb hold hd hK
      have t1 : a.tmps.getD 18 undef = .string (bstr (P0 ++ P1)) := hd ⟨15, .data⟩ (by simp) rfl _ _ rfl rfl
      go_simp
      exact hK _ _ (Below.refl _ _) rfl
  · intro a' w' hb hdf hts hold hnew
    have t2 : a'.tmps.getD 2 undef = .string (bstr (layKs reqK [.int .i64 (x0 : Int), .int .u64 (x1 : Int), .int .i64 (x2 : Int), .int .u64 (x3 : Int), .int .i64 (x4 : Int), .string x5, .string x6, .string x7, .bool x8, .string x9])) := (hnew 16 _ 2 rfl rfl).trans (by rw [HL.out])
    obtain ⟨t, d⟩ := a'
    obtain rfl : d = [] := hdf
    simp only at t2
    clear hold hnew hts
    go_wp2
    go_ret
    exact ⟨congrArg Ending.returned t2, bel_call hb (bel_drew hb1)⟩

end Go.Proofs.YtbdbefgfejdbjaaGreat
