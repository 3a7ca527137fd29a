/-
  Want laid: written by mkolay.py.
  Cmd laid: written by mkolay.py.
-/
import Derived.Test.YtbdbefgfejdbjaaGreatOLay0
import Derived.Test.YtbdbefgfejdbjaaGreatOLayOp
namespace Go.Proofs.YtbdbefgfejdbjaaGreat
open Go.RowKit Go.BigFrame
attribute [local go_sem] size_bstr toList_bstr append_bstr

set_option maxHeartbeats 8000000 in
set_option maxRecDepth 100000 in
theorem oLayWant_any (vs : List Lit) (w : World) (h : fitKs wantK vs) :
    Calls Tryz.prog 115 #[litsV vs] w fun x w' => x = .returned (.string (bstr (layKs wantK vs))) ∧ Below w.heap.size w w' := by
  have hf := h
  obtain ⟨v0, vs, rfl, h0, h⟩ := fit_cons h
  obtain ⟨v1, vs, rfl, h1, h⟩ := fit_cons h
  obtain ⟨v2, vs, rfl, h2, h⟩ := fit_cons h
  obtain ⟨v3, vs, rfl, h3, h⟩ := fit_cons h
  obtain ⟨v4, vs, rfl, h4, h⟩ := fit_cons h
  obtain rfl := fit_nil h
  obtain ⟨x0, rfl⟩ := fitB h0
  obtain ⟨x1, rfl, h1⟩ := fitI h1
  obtain ⟨x2, rfl, h2⟩ := fitS h2
  obtain ⟨x3, rfl, h3⟩ := fitI h3
  obtain ⟨x4, rfl, h4⟩ := fitI h4
  clear h
  obtain ⟨P0, eP0⟩ : ∃ x, x = bol x0 := ⟨_, rfl⟩
  have lP0 : P0.length ≤ 1000 := by rw [eP0]; cases x0 <;> decide
  obtain ⟨P1, eP1⟩ : ∃ x, x = Lib.uvarint x1 := ⟨_, rfl⟩
  have lP1 : P1.length ≤ 1000 := by rw [eP1]; have := Lib.uvarint_length64 (x := x1) (by omega); omega
  obtain ⟨P2, eP2⟩ : ∃ x, x = txts [x2] := ⟨_, rfl⟩
  have lP2 : P2.length ≤ 30000000 := by rw [eP2]; have := txts_len [x2] 1048576 (by omega) (by simp; omega); simp only [List.length_cons, List.length_nil] at this; omega
  obtain ⟨P3, eP3⟩ : ∃ x, x = Lib.uvarint x3 := ⟨_, rfl⟩
  have lP3 : P3.length ≤ 1000 := by rw [eP3]; have := Lib.uvarint_length64 (x := x3) (by omega); omega
  obtain ⟨P4, eP4⟩ : ∃ x, x = Lib.uvarint x4 := ⟨_, rfl⟩
  have lP4 : P4.length ≤ 1000 := by rw [eP4]; have := Lib.uvarint_length64 (x := x4) (by omega); omega
  have hL : layKs wantK [.bool x0, .int .i64 (x1 : Int), .string x2, .int .i64 (x3 : Int), .int .i64 (x4 : Int)] = (P0 ++ (P1 ++ (P2 ++ (P3 ++ P4)))) := by
    rw [eP0, eP1, eP2, eP3, eP4]
    simp [layKs, layK, txts]
  have HL : Hid _ := hL
  have EP0 : Hid _ := eP0
  have LP0 : Hid _ := lP0
  have EP1 : Hid _ := eP1
  have LP1 : Hid _ := lP1
  have EP2 : Hid _ := eP2
  have LP2 : Hid _ := lP2
  have EP3 : Hid _ := eP3
  have LP3 : Hid _ := lP3
  have EP4 : Hid _ := eP4
  have LP4 : Hid _ := lP4
  have HW1 : Hid (IntKind.u64.wrap (x1 : Int) = (x1 : Int)) := by show _ = _; rw [IntKind.wrap_u64]; omega
  have H1 : Hid _ := h1
  have H2 : Hid _ := h2
  have HW3 : Hid (IntKind.u64.wrap (x3 : Int) = (x3 : Int)) := by show _ = _; rw [IntKind.wrap_u64]; omega
  have H3 : Hid _ := h3
  have HW4 : Hid (IntKind.u64.wrap (x4 : Int) = (x4 : Int)) := by show _ = _; rw [IntKind.wrap_u64]; omega
  have H4 : Hid _ := h4
  clear hf hL eP0 lP0 eP1 lP1 eP2 lP2 eP3 lP3 eP4 lP4 
  rw [show litsV [.bool x0, .int .i64 (x1 : Int), .string x2, .int .i64 (x3 : Int), .int .i64 (x4 : Int)] = .agg #[.bool x0, .int .i64 (x1 : Int), .string (bstr x2), .int .i64 (x3 : Int), .int .i64 (x4 : Int)] from rfl]
  go_enter Tryz.func115, Tryz.ntmps115
  go_upto_region 1 with fail
  obtain ⟨w1, hw1⟩ : ∃ w1, w1 = w.alloc (.cells #[.bool x0, .int .i64 (x1 : Int), .string (bstr x2), .int .i64 (x3 : Int), .int .i64 (x4 : Int)] 26) := ⟨_, rfl⟩
  have hb1 : Below w.heap.size w w1 := by rw [hw1]; exact (Below.refl _ _).alloc (Nat.le_refl _) _
  have hc := (mcells (show w1.heap[w.heap.size]? = some (.cells #[.bool x0, .int .i64 (x1 : Int), .string (bstr x2), .int .i64 (x3 : Int), .int .i64 (x4 : Int)] 26 (0, 0)) by rw [hw1]; exact heap_alloc_new w _)).1
  have C0 : Hid (w1.cell? ⟨w.heap.size, 0, none⟩ = some (.bool x0)) := hc 0
  have C1 : Hid (w1.cell? ⟨w.heap.size, 1, none⟩ = some (.int .i64 (x1 : Int))) := hc 1
  have C2 : Hid (w1.cell? ⟨w.heap.size, 2, none⟩ = some (.string (bstr x2))) := hc 2
  have C3 : Hid (w1.cell? ⟨w.heap.size, 3, none⟩ = some (.int .i64 (x3 : Int))) := hc 3
  have C4 : Hid (w1.cell? ⟨w.heap.size, 4, none⟩ = some (.int .i64 (x4 : Int))) := hc 4
  rw [← hw1]
  clear hc hw1
  refine wp_grow (R := RS [eqV (.pointer (some ⟨w.heap.size, 0, none⟩)),
    eqV (.bool x0),
    eqV (.string (bstr P0)),
    eqV (.pointer (some ⟨w.heap.size, 1, none⟩)),
    eqV (.int .i64 (x1 : Int)),
    eqV (.string (bstr P1)),
    eqV (.string (bstr (P0 ++ P1))),
    eqV (.pointer (some ⟨w.heap.size, 2, none⟩)),
    eqV (.string (bstr x2)),
    slV [.string (bstr x2)],
    eqV (.string (bstr P2)),
    eqV (.string (bstr (P0 ++ (P1 ++ P2)))),
    eqV (.pointer (some ⟨w.heap.size, 3, none⟩)),
    eqV (.int .i64 (x3 : Int)),
    eqV (.string (bstr P3)),
    eqV (.string (bstr (P0 ++ (P1 ++ (P2 ++ P3))))),
    eqV (.pointer (some ⟨w.heap.size, 4, none⟩)),
    eqV (.int .i64 (x4 : Int)),
    eqV (.string (bstr P4)),
    eqV (.string (bstr (P0 ++ (P1 ++ (P2 ++ (P3 ++ P4)))))),
    eqV (.string (bstr (P0 ++ (P1 ++ (P2 ++ (P3 ++ P4))))))])
    (by kernel_rfl) (by kernel_rfl) (RS.below ?_) ?_ ?_
  · simp [lst_eqV, lst_slV]
  · refine ⟨?_, ?_, ?_, ?_, ?_, ?_, ?_, ?_, ?_, ?_, ?_, ?_, ?_, ?_, ?_, ?_, ?_, ?_, ?_, ?_, ?_, trivial⟩
    · intro a W K hb hold hd hK
      have t1 : a.tmps.getD 1 undef = .pointer (some ⟨w.heap.size, 0, none⟩) := hold 1 (by kernel_rfl)
      go_simp
      exact hK _ _ (Below.refl _ _) rfl
    · intro a W K hb hold hd hK
      have t1 : a.tmps.getD 3 undef = .pointer (some ⟨w.heap.size, 0, none⟩) := hd ⟨0, .data⟩ (by simp) rfl _ _ rfl rfl
      have c := cell_below hb C0.out
      go_simp
      exact hK _ _ (Below.refl _ _) rfl
    · intro a W K hb hold hd hK
      have t1 : a.tmps.getD 4 undef = .bool x0 := hd ⟨1, .data⟩ (by simp) rfl _ _ rfl rfl
      go_simp
      refine (jBool_any x0 W).mono ?_
      rintro e wf ⟨rfl, hbf⟩
      exact hK _ _ hbf (congrArg (fun x => Value.string (bstr x)) EP0.out.symm)
    · intro a W K hb hold hd hK
      have t1 : a.tmps.getD 1 undef = .pointer (some ⟨w.heap.size, 0, none⟩) := hold 1 (by kernel_rfl)
      go_simp
      exact hK _ _ (Below.refl _ _) rfl
    · intro a W K hb hold hd hK
      have t1 : a.tmps.getD 6 undef = .pointer (some ⟨w.heap.size, 1, none⟩) := hd ⟨3, .data⟩ (by simp) rfl _ _ rfl rfl
      have c := cell_below hb C1.out
      go_simp
      exact hK _ _ (Below.refl _ _) rfl
    · intro a W K hb hold hd hK
      have t1 : a.tmps.getD 7 undef = .int .i64 (x1 : Int) := hd ⟨4, .data⟩ (by simp) rfl _ _ rfl rfl
      go_simp
      refine (oInt_any x1 W (by have := H1.out; omega)).mono ?_
      rintro e wf ⟨rfl, hbf⟩
      exact hK _ _ hbf (congrArg (fun x => Value.string (bstr x)) EP1.out.symm)
    · intro a W K hb hold hd hK
      have t1 : a.tmps.getD 5 undef = .string (bstr P0) := hd ⟨2, .data⟩ (by simp) rfl _ _ rfl rfl
      have t2 : a.tmps.getD 8 undef = .string (bstr P1) := hd ⟨5, .data⟩ (by simp) rfl _ _ rfl rfl
      have lP0 := LP0.out
      have lP1 := LP1.out
      go_simp
      rw [if_neg (by omega)]
      go_simp
      exact hK _ _ (Below.refl _ _) rfl
    · intro a W K hb hold hd hK
      have t1 : a.tmps.getD 1 undef = .pointer (some ⟨w.heap.size, 0, none⟩) := hold 1 (by kernel_rfl)
      go_simp
      exact hK _ _ (Below.refl _ _) rfl
    · intro a W K hb hold hd hK
      have t1 : a.tmps.getD 10 undef = .pointer (some ⟨w.heap.size, 2, none⟩) := hd ⟨7, .data⟩ (by simp) rfl _ _ rfl rfl
      have c := cell_below hb C2.out
      go_simp
      exact hK _ _ (Below.refl _ _) rfl
    · intro a W K hb hold hd hK
      have t0 : a.tmps.getD 11 undef = .string (bstr x2) := hd ⟨8, .data⟩ (by simp) rfl _ _ rfl rfl
      rw [Array.getD_eq_getD_getElem?] at t0
      go_simp
      exact hK _ _ ((Below.refl _ _).alloc (Nat.le_refl _) _) (sl_newL _ [.string (bstr x2)] _)
    · intro a W K hb hold hd hK
      obtain ⟨b, t1, hbb, hc⟩ : slV [.string (bstr x2)] (a.tmps.getD 12 undef) W := hd ⟨9, .data⟩ (by simp) rfl _ _ rfl rfl
      go_simp
      refine (jTxtsV [x2] _ W ⟨b, rfl, hbb, hc⟩ (by simp) (by simp; omega)).mono ?_
      rintro e wf ⟨rfl, hbf⟩
      exact hK _ _ hbf (congrArg (fun x => Value.string (bstr x)) EP2.out.symm)
    · intro a W K hb hold hd hK
      have t1 : a.tmps.getD 9 undef = .string (bstr (P0 ++ P1)) := hd ⟨6, .data⟩ (by simp) rfl _ _ rfl rfl
      have t2 : a.tmps.getD 13 undef = .string (bstr P2) := hd ⟨10, .data⟩ (by simp) rfl _ _ rfl rfl
      have lP0 := LP0.out
      have lP1 := LP1.out
      have lP2 := LP2.out
      go_simp
      rw [if_neg (by omega)]
      go_simp
      exact hK _ _ (Below.refl _ _) rfl
    · intro a W K hb hold hd hK
      have t1 : a.tmps.getD 1 undef = .pointer (some ⟨w.heap.size, 0, none⟩) := hold 1 (by kernel_rfl)
      go_simp
      exact hK _ _ (Below.refl _ _) rfl
    · intro a W K hb hold hd hK
      have t1 : a.tmps.getD 15 undef = .pointer (some ⟨w.heap.size, 3, none⟩) := hd ⟨12, .data⟩ (by simp) rfl _ _ rfl rfl
      have c := cell_below hb C3.out
      go_simp
      exact hK _ _ (Below.refl _ _) rfl
    · intro a W K hb hold hd hK
      have t1 : a.tmps.getD 16 undef = .int .i64 (x3 : Int) := hd ⟨13, .data⟩ (by simp) rfl _ _ rfl rfl
      go_simp
      refine (oInt_any x3 W (by have := H3.out; omega)).mono ?_
      rintro e wf ⟨rfl, hbf⟩
      exact hK _ _ hbf (congrArg (fun x => Value.string (bstr x)) EP3.out.symm)
    · intro a W K hb hold hd hK
      have t1 : a.tmps.getD 14 undef = .string (bstr (P0 ++ (P1 ++ P2))) := hd ⟨11, .data⟩ (by simp) rfl _ _ rfl rfl
      have t2 : a.tmps.getD 17 undef = .string (bstr P3) := hd ⟨14, .data⟩ (by simp) rfl _ _ rfl rfl
      have lP0 := LP0.out
      have lP1 := LP1.out
      have lP2 := LP2.out
      have lP3 := LP3.out
      go_simp
      rw [if_neg (by omega)]
      go_simp
      exact hK _ _ (Below.refl _ _) rfl
    · intro a W K hb hold hd hK
      have t1 : a.tmps.getD 1 undef = .pointer (some ⟨w.heap.size, 0, none⟩) := hold 1 (by kernel_rfl)
      go_simp
      exact hK _ _ (Below.refl _ _) rfl
    · intro a W K hb hold hd hK
      have t1 : a.tmps.getD 19 undef = .pointer (some ⟨w.heap.size, 4, none⟩) := hd ⟨16, .data⟩ (by simp) rfl _ _ rfl rfl
      have c := cell_below hb C4.out
      go_simp
      exact hK _ _ (Below.refl _ _) rfl
    · intro a W K hb hold hd hK
      have t1 : a.tmps.getD 20 undef = .int .i64 (x4 : Int) := hd ⟨17, .data⟩ (by simp) rfl _ _ rfl rfl
      go_simp
      refine (oInt_any x4 W (by have := H4.out; omega)).mono ?_
      rintro e wf ⟨rfl, hbf⟩
      exact hK _ _ hbf (congrArg (fun x => Value.string (bstr x)) EP4.out.symm)
    · intro a W K hb hold hd hK
      have t1 : a.tmps.getD 18 undef = .string (bstr (P0 ++ (P1 ++ (P2 ++ P3)))) := hd ⟨15, .data⟩ (by simp) rfl _ _ rfl rfl
      have t2 : a.tmps.getD 21 undef = .string (bstr P4) := hd ⟨18, .data⟩ (by simp) rfl _ _ rfl rfl
      have lP0 := LP0.out
      have lP1 := LP1.out
      have lP2 := LP2.out
      have lP3 := LP3.out
      have lP4 := LP4.out
      go_simp
      rw [if_neg (by omega)]
      go_simp
      exact hK _ _ (Below.refl _ _) rfl
    · intro a W K hb hold hd hK
      have t1 : a.tmps.getD 22 undef = .string (bstr (P0 ++ (P1 ++ (P2 ++ (P3 ++ P4))))) := hd ⟨19, .data⟩ (by simp) rfl _ _ rfl rfl
      go_simp
      exact hK _ _ (Below.refl _ _) rfl
  · intro a' w' hb hdf hts hold hnew
    have t2 : a'.tmps.getD 2 undef = .string (bstr (layKs wantK [.bool x0, .int .i64 (x1 : Int), .string x2, .int .i64 (x3 : Int), .int .i64 (x4 : Int)])) := (hnew 20 _ 2 rfl rfl).trans (by rw [HL.out])
    obtain ⟨t, d⟩ := a'
    obtain rfl : d = [] := hdf
    simp only at t2
    clear hold hnew hts
    go_wp2
    go_ret
    exact ⟨congrArg Ending.returned t2, bel_call hb (bel_drew hb1)⟩

end Go.Proofs.YtbdbefgfejdbjaaGreat

namespace Go.Proofs.YtbdbefgfejdbjaaGreat
open Go.RowKit Go.BigFrame
attribute [local go_sem] size_bstr toList_bstr append_bstr

set_option maxHeartbeats 8000000 in
set_option maxRecDepth 100000 in
theorem oLayCmd_any (vs : List Lit) (w : World) (h : fitKs cmdK vs) :
    Calls Tryz.prog 76 #[litsV vs] w fun x w' => x = .returned (.string (bstr (layKs cmdK vs))) ∧ Below w.heap.size w w' := by
  have hf := h
  obtain ⟨v0, vs, rfl, h0, h⟩ := fit_cons h
  obtain ⟨v1, vs, rfl, h1, h⟩ := fit_cons h
  obtain ⟨v2, vs, rfl, h2, h⟩ := fit_cons h
  obtain ⟨v3, vs, rfl, h3, h⟩ := fit_cons h
  obtain ⟨v4, vs, rfl, h4, h⟩ := fit_cons h
  obtain ⟨v5, vs, rfl, h5, h⟩ := fit_cons h
  obtain ⟨v6, vs, rfl, h6, h⟩ := fit_cons h
  obtain ⟨v7, vs, rfl, h7, h⟩ := fit_cons h
  obtain ⟨v8, vs, rfl, h8, h⟩ := fit_cons h
  obtain ⟨v9, vs, rfl, h9, h⟩ := fit_cons h
  obtain ⟨v10, vs, rfl, h10, h⟩ := fit_cons h
  obtain ⟨v11, vs, rfl, h11, h⟩ := fit_cons h
  obtain ⟨v12, vs, rfl, h12, h⟩ := fit_cons h
  obtain ⟨v13, vs, rfl, h13, h⟩ := fit_cons h
  obtain ⟨v14, vs, rfl, h14, h⟩ := fit_cons h
  obtain ⟨v15, vs, rfl, h15, h⟩ := fit_cons h
  obtain ⟨v16, vs, rfl, h16, h⟩ := fit_cons h
  obtain ⟨v17, vs, rfl, h17, h⟩ := fit_cons h
  obtain ⟨v18, vs, rfl, h18, h⟩ := fit_cons h
  obtain ⟨v19, vs, rfl, h19, h⟩ := fit_cons h
  obtain rfl := fit_nil h
  obtain ⟨x0, rfl, h0⟩ := fitI h0
  obtain ⟨x1, rfl, h1⟩ := fitI h1
  obtain ⟨x2, rfl, h2⟩ := fitU h2
  obtain ⟨x3, rfl, h3⟩ := fitU h3
  obtain ⟨x4, rfl, h4⟩ := fitI h4
  obtain ⟨x5, rfl, h5⟩ := fitS h5
  obtain ⟨x6, rfl, h6⟩ := fitS h6
  obtain ⟨x7, rfl, h7⟩ := fitS h7
  obtain ⟨x8, rfl⟩ := fitB h8
  obtain ⟨x9, rfl, h9⟩ := fitS h9
  obtain ⟨x10, rfl, h10⟩ := fitU h10
  obtain ⟨x11, rfl, h11⟩ := fitI h11
  obtain ⟨x12, rfl, h12⟩ := fitS h12
  obtain ⟨x13, rfl, h13⟩ := fitS h13
  obtain ⟨x14, rfl, h14⟩ := fitI h14
  obtain ⟨x15, rfl⟩ := fitB h15
  obtain ⟨x16, rfl, h16⟩ := fitI h16
  obtain ⟨x17, rfl, h17⟩ := fitS h17
  obtain ⟨x18, rfl, h18⟩ := fitI h18
  obtain ⟨x19, rfl, h19⟩ := fitI h19
  clear h
  have f4 : fitKs opK [.int .i64 (x4 : Int), .string x5, .string x6, .string x7, .bool x8, .string x9] := ⟨hf.2.2.2.2.1, hf.2.2.2.2.2.1, hf.2.2.2.2.2.2.1, hf.2.2.2.2.2.2.2.1, hf.2.2.2.2.2.2.2.2.1, hf.2.2.2.2.2.2.2.2.2.1, trivial⟩
  have F4 : Hid _ := f4
  have f15 : fitKs wantK [.bool x15, .int .i64 (x16 : Int), .string x17, .int .i64 (x18 : Int), .int .i64 (x19 : Int)] := ⟨hf.2.2.2.2.2.2.2.2.2.2.2.2.2.2.2.1, hf.2.2.2.2.2.2.2.2.2.2.2.2.2.2.2.2.1, hf.2.2.2.2.2.2.2.2.2.2.2.2.2.2.2.2.2.1, hf.2.2.2.2.2.2.2.2.2.2.2.2.2.2.2.2.2.2.1, hf.2.2.2.2.2.2.2.2.2.2.2.2.2.2.2.2.2.2.2.1, trivial⟩
  have F15 : Hid _ := f15
  obtain ⟨P0, eP0⟩ : ∃ x, x = nums [x0, x1, x2, x3] := ⟨_, rfl⟩
  have lP0 : P0.length ≤ 1000 := by rw [eP0]; have := nums_len [x0, x1, x2, x3] (by simp; omega); simp only [List.length_cons, List.length_nil] at this; omega
  obtain ⟨P1, eP1⟩ : ∃ x, x = layKs opK [.int .i64 (x4 : Int), .string x5, .string x6, .string x7, .bool x8, .string x9] := ⟨_, rfl⟩
  have lP1 : P1.length ≤ 40000000 := by rw [eP1]; have := layKs_len f4; simp only [List.length_cons, List.length_nil] at this; omega
  obtain ⟨P2, eP2⟩ : ∃ x, x = nums [x10, x11] := ⟨_, rfl⟩
  have lP2 : P2.length ≤ 1000 := by rw [eP2]; have := nums_len [x10, x11] (by simp; omega); simp only [List.length_cons, List.length_nil] at this; omega
  obtain ⟨P3, eP3⟩ : ∃ x, x = txts [x12, x13] := ⟨_, rfl⟩
  have lP3 : P3.length ≤ 30000000 := by rw [eP3]; have := txts_len [x12, x13] 1048576 (by omega) (by simp; omega); simp only [List.length_cons, List.length_nil] at this; omega
  obtain ⟨P4, eP4⟩ : ∃ x, x = Lib.uvarint x14 := ⟨_, rfl⟩
  have lP4 : P4.length ≤ 1000 := by rw [eP4]; have := Lib.uvarint_length64 (x := x14) (by omega); omega
  obtain ⟨P5, eP5⟩ : ∃ x, x = layKs wantK [.bool x15, .int .i64 (x16 : Int), .string x17, .int .i64 (x18 : Int), .int .i64 (x19 : Int)] := ⟨_, rfl⟩
  have lP5 : P5.length ≤ 40000000 := by rw [eP5]; have := layKs_len f15; simp only [List.length_cons, List.length_nil] at this; omega
  have hL : layKs cmdK [.int .i64 (x0 : Int), .int .i64 (x1 : Int), .int .u64 (x2 : Int), .int .u64 (x3 : Int), .int .i64 (x4 : Int), .string x5, .string x6, .string x7, .bool x8, .string x9, .int .u64 (x10 : Int), .int .i64 (x11 : Int), .string x12, .string x13, .int .i64 (x14 : Int), .bool x15, .int .i64 (x16 : Int), .string x17, .int .i64 (x18 : Int), .int .i64 (x19 : Int)] = (P0 ++ (P1 ++ (P2 ++ (P3 ++ (P4 ++ P5))))) := by
    rw [eP0, eP1, eP2, eP3, eP4, eP5]
    simp [layKs, layK, nums, txts]
  have HL : Hid _ := hL
  have EP0 : Hid _ := eP0
  have LP0 : Hid _ := lP0
  have EP1 : Hid _ := eP1
  have LP1 : Hid _ := lP1
  have EP2 : Hid _ := eP2
  have LP2 : Hid _ := lP2
  have EP3 : Hid _ := eP3
  have LP3 : Hid _ := lP3
  have EP4 : Hid _ := eP4
  have LP4 : Hid _ := lP4
  have EP5 : Hid _ := eP5
  have LP5 : Hid _ := lP5
  have HW0 : Hid (IntKind.u64.wrap (x0 : Int) = (x0 : Int)) := by show _ = _; rw [IntKind.wrap_u64]; omega
  have H0 : Hid _ := h0
  have HW1 : Hid (IntKind.u64.wrap (x1 : Int) = (x1 : Int)) := by show _ = _; rw [IntKind.wrap_u64]; omega
  have H1 : Hid _ := h1
  have H2 : Hid _ := h2
  have H3 : Hid _ := h3
  have HW4 : Hid (IntKind.u64.wrap (x4 : Int) = (x4 : Int)) := by show _ = _; rw [IntKind.wrap_u64]; omega
  have H4 : Hid _ := h4
  have H5 : Hid _ := h5
  have H6 : Hid _ := h6
  have H7 : Hid _ := h7
  have H9 : Hid _ := h9
  have H10 : Hid _ := h10
  have HW11 : Hid (IntKind.u64.wrap (x11 : Int) = (x11 : Int)) := by show _ = _; rw [IntKind.wrap_u64]; omega
  have H11 : Hid _ := h11
  have H12 : Hid _ := h12
  have H13 : Hid _ := h13
  have HW14 : Hid (IntKind.u64.wrap (x14 : Int) = (x14 : Int)) := by show _ = _; rw [IntKind.wrap_u64]; omega
  have H14 : Hid _ := h14
  have HW16 : Hid (IntKind.u64.wrap (x16 : Int) = (x16 : Int)) := by show _ = _; rw [IntKind.wrap_u64]; omega
  have H16 : Hid _ := h16
  have H17 : Hid _ := h17
  have HW18 : Hid (IntKind.u64.wrap (x18 : Int) = (x18 : Int)) := by show _ = _; rw [IntKind.wrap_u64]; omega
  have H18 : Hid _ := h18
  have HW19 : Hid (IntKind.u64.wrap (x19 : Int) = (x19 : Int)) := by show _ = _; rw [IntKind.wrap_u64]; omega
  have H19 : Hid _ := h19
  clear hf hL eP0 lP0 eP1 lP1 eP2 lP2 eP3 lP3 eP4 lP4 eP5 lP5 f4 f15
  rw [show litsV [.int .i64 (x0 : Int), .int .i64 (x1 : Int), .int .u64 (x2 : Int), .int .u64 (x3 : Int), .int .i64 (x4 : Int), .string x5, .string x6, .string x7, .bool x8, .string x9, .int .u64 (x10 : Int), .int .i64 (x11 : Int), .string x12, .string x13, .int .i64 (x14 : Int), .bool x15, .int .i64 (x16 : Int), .string x17, .int .i64 (x18 : Int), .int .i64 (x19 : Int)] = .agg #[.int .i64 (x0 : Int), .int .i64 (x1 : Int), .int .u64 (x2 : Int), .int .u64 (x3 : Int), .int .i64 (x4 : Int), .string (bstr x5), .string (bstr x6), .string (bstr x7), .bool x8, .string (bstr x9), .int .u64 (x10 : Int), .int .i64 (x11 : Int), .string (bstr x12), .string (bstr x13), .int .i64 (x14 : Int), .bool x15, .int .i64 (x16 : Int), .string (bstr x17), .int .i64 (x18 : Int), .int .i64 (x19 : Int)] from rfl]
  go_enter Tryz.func76, Tryz.ntmps76
  go_upto_region 1 with fail
  obtain ⟨w1, hw1⟩ : ∃ w1, w1 = w.alloc (.cells #[.int .i64 (x0 : Int), .int .i64 (x1 : Int), .int .u64 (x2 : Int), .int .u64 (x3 : Int), .int .i64 (x4 : Int), .string (bstr x5), .string (bstr x6), .string (bstr x7), .bool x8, .string (bstr x9), .int .u64 (x10 : Int), .int .i64 (x11 : Int), .string (bstr x12), .string (bstr x13), .int .i64 (x14 : Int), .bool x15, .int .i64 (x16 : Int), .string (bstr x17), .int .i64 (x18 : Int), .int .i64 (x19 : Int)] 28) := ⟨_, rfl⟩
  have hb1 : Below w.heap.size w w1 := by rw [hw1]; exact (Below.refl _ _).alloc (Nat.le_refl _) _
  have hc := (mcells (show w1.heap[w.heap.size]? = some (.cells #[.int .i64 (x0 : Int), .int .i64 (x1 : Int), .int .u64 (x2 : Int), .int .u64 (x3 : Int), .int .i64 (x4 : Int), .string (bstr x5), .string (bstr x6), .string (bstr x7), .bool x8, .string (bstr x9), .int .u64 (x10 : Int), .int .i64 (x11 : Int), .string (bstr x12), .string (bstr x13), .int .i64 (x14 : Int), .bool x15, .int .i64 (x16 : Int), .string (bstr x17), .int .i64 (x18 : Int), .int .i64 (x19 : Int)] 28 (0, 0)) by rw [hw1]; exact heap_alloc_new w _)).1
  have G4 : Hid (w1.rangeAt w.heap.size 4 [.int .i64 (x4 : Int), .string (bstr x5), .string (bstr x6), .string (bstr x7), .bool x8, .string (bstr x9)]) := range_of_block (show w1.heap[w.heap.size]? = some (.cells #[.int .i64 (x0 : Int), .int .i64 (x1 : Int), .int .u64 (x2 : Int), .int .u64 (x3 : Int), .int .i64 (x4 : Int), .string (bstr x5), .string (bstr x6), .string (bstr x7), .bool x8, .string (bstr x9), .int .u64 (x10 : Int), .int .i64 (x11 : Int), .string (bstr x12), .string (bstr x13), .int .i64 (x14 : Int), .bool x15, .int .i64 (x16 : Int), .string (bstr x17), .int .i64 (x18 : Int), .int .i64 (x19 : Int)] 28 (0, 0)) by rw [hw1]; exact heap_alloc_new w _) [.int .i64 (x0 : Int), .int .i64 (x1 : Int), .int .u64 (x2 : Int), .int .u64 (x3 : Int)] [.int .i64 (x4 : Int), .string (bstr x5), .string (bstr x6), .string (bstr x7), .bool x8, .string (bstr x9)] [.int .u64 (x10 : Int), .int .i64 (x11 : Int), .string (bstr x12), .string (bstr x13), .int .i64 (x14 : Int), .bool x15, .int .i64 (x16 : Int), .string (bstr x17), .int .i64 (x18 : Int), .int .i64 (x19 : Int)] rfl
  have G15 : Hid (w1.rangeAt w.heap.size 15 [.bool x15, .int .i64 (x16 : Int), .string (bstr x17), .int .i64 (x18 : Int), .int .i64 (x19 : Int)]) := range_of_block (show w1.heap[w.heap.size]? = some (.cells #[.int .i64 (x0 : Int), .int .i64 (x1 : Int), .int .u64 (x2 : Int), .int .u64 (x3 : Int), .int .i64 (x4 : Int), .string (bstr x5), .string (bstr x6), .string (bstr x7), .bool x8, .string (bstr x9), .int .u64 (x10 : Int), .int .i64 (x11 : Int), .string (bstr x12), .string (bstr x13), .int .i64 (x14 : Int), .bool x15, .int .i64 (x16 : Int), .string (bstr x17), .int .i64 (x18 : Int), .int .i64 (x19 : Int)] 28 (0, 0)) by rw [hw1]; exact heap_alloc_new w _) [.int .i64 (x0 : Int), .int .i64 (x1 : Int), .int .u64 (x2 : Int), .int .u64 (x3 : Int), .int .i64 (x4 : Int), .string (bstr x5), .string (bstr x6), .string (bstr x7), .bool x8, .string (bstr x9), .int .u64 (x10 : Int), .int .i64 (x11 : Int), .string (bstr x12), .string (bstr x13), .int .i64 (x14 : Int)] [.bool x15, .int .i64 (x16 : Int), .string (bstr x17), .int .i64 (x18 : Int), .int .i64 (x19 : Int)] [] rfl
  have C0 : Hid (w1.cell? ⟨w.heap.size, 0, none⟩ = some (.int .i64 (x0 : Int))) := hc 0
  have C1 : Hid (w1.cell? ⟨w.heap.size, 1, none⟩ = some (.int .i64 (x1 : Int))) := hc 1
  have C2 : Hid (w1.cell? ⟨w.heap.size, 2, none⟩ = some (.int .u64 (x2 : Int))) := hc 2
  have C3 : Hid (w1.cell? ⟨w.heap.size, 3, none⟩ = some (.int .u64 (x3 : Int))) := hc 3
  have C4 : Hid (w1.cell? ⟨w.heap.size, 4, none⟩ = some (.int .i64 (x4 : Int))) := hc 4
  have C5 : Hid (w1.cell? ⟨w.heap.size, 5, none⟩ = some (.string (bstr x5))) := hc 5
  have C6 : Hid (w1.cell? ⟨w.heap.size, 6, none⟩ = some (.string (bstr x6))) := hc 6
  have C7 : Hid (w1.cell? ⟨w.heap.size, 7, none⟩ = some (.string (bstr x7))) := hc 7
  have C8 : Hid (w1.cell? ⟨w.heap.size, 8, none⟩ = some (.bool x8)) := hc 8
  have C9 : Hid (w1.cell? ⟨w.heap.size, 9, none⟩ = some (.string (bstr x9))) := hc 9
  have C10 : Hid (w1.cell? ⟨w.heap.size, 10, none⟩ = some (.int .u64 (x10 : Int))) := hc 10
  have C11 : Hid (w1.cell? ⟨w.heap.size, 11, none⟩ = some (.int .i64 (x11 : Int))) := hc 11
  have C12 : Hid (w1.cell? ⟨w.heap.size, 12, none⟩ = some (.string (bstr x12))) := hc 12
  have C13 : Hid (w1.cell? ⟨w.heap.size, 13, none⟩ = some (.string (bstr x13))) := hc 13
  have C14 : Hid (w1.cell? ⟨w.heap.size, 14, none⟩ = some (.int .i64 (x14 : Int))) := hc 14
  have C15 : Hid (w1.cell? ⟨w.heap.size, 15, none⟩ = some (.bool x15)) := hc 15
  have C16 : Hid (w1.cell? ⟨w.heap.size, 16, none⟩ = some (.int .i64 (x16 : Int))) := hc 16
  have C17 : Hid (w1.cell? ⟨w.heap.size, 17, none⟩ = some (.string (bstr x17))) := hc 17
  have C18 : Hid (w1.cell? ⟨w.heap.size, 18, none⟩ = some (.int .i64 (x18 : Int))) := hc 18
  have C19 : Hid (w1.cell? ⟨w.heap.size, 19, none⟩ = some (.int .i64 (x19 : Int))) := hc 19
  rw [← hw1]
  clear hc hw1
  refine wp_grow (R := RS [eqV (.pointer (some ⟨w.heap.size, 0, none⟩)),
    eqV (.int .i64 (x0 : Int)),
    eqV (.int .u64 (x0 : Int)),
    eqV (.pointer (some ⟨w.heap.size, 1, none⟩)),
    eqV (.int .i64 (x1 : Int)),
    eqV (.int .u64 (x1 : Int)),
    eqV (.pointer (some ⟨w.heap.size, 2, none⟩)),
    eqV (.int .u64 (x2 : Int)),
    eqV (.pointer (some ⟨w.heap.size, 3, none⟩)),
    eqV (.int .u64 (x3 : Int)),
    slV [.int .u64 (x0 : Int), .int .u64 (x1 : Int), .int .u64 (x2 : Int), .int .u64 (x3 : Int)],
    eqV (.string (bstr P0)),
    eqV (.pointer (some ⟨w.heap.size, 4, none⟩)),
    eqV (.agg #[.int .i64 (x4 : Int), .string (bstr x5), .string (bstr x6), .string (bstr x7), .bool x8, .string (bstr x9)]),
    eqV (.string (bstr P1)),
    eqV (.string (bstr (P0 ++ P1))),
    eqV (.pointer (some ⟨w.heap.size, 10, none⟩)),
    eqV (.int .u64 (x10 : Int)),
    eqV (.pointer (some ⟨w.heap.size, 11, none⟩)),
    eqV (.int .i64 (x11 : Int)),
    eqV (.int .u64 (x11 : Int)),
    slV [.int .u64 (x10 : Int), .int .u64 (x11 : Int)],
    eqV (.string (bstr P2)),
    eqV (.string (bstr (P0 ++ (P1 ++ P2)))),
    eqV (.pointer (some ⟨w.heap.size, 12, none⟩)),
    eqV (.string (bstr x12)),
    eqV (.pointer (some ⟨w.heap.size, 13, none⟩)),
    eqV (.string (bstr x13)),
    slV [.string (bstr x12), .string (bstr x13)],
    eqV (.string (bstr P3)),
    eqV (.string (bstr (P0 ++ (P1 ++ (P2 ++ P3))))),
    eqV (.pointer (some ⟨w.heap.size, 14, none⟩)),
    eqV (.int .i64 (x14 : Int)),
    eqV (.string (bstr P4)),
    eqV (.string (bstr (P0 ++ (P1 ++ (P2 ++ (P3 ++ P4)))))),
    eqV (.pointer (some ⟨w.heap.size, 15, none⟩)),
    eqV (.agg #[.bool x15, .int .i64 (x16 : Int), .string (bstr x17), .int .i64 (x18 : Int), .int .i64 (x19 : Int)]),
    eqV (.string (bstr P5)),
    eqV (.string (bstr (P0 ++ (P1 ++ (P2 ++ (P3 ++ (P4 ++ P5))))))),
    eqV (.string (bstr (P0 ++ (P1 ++ (P2 ++ (P3 ++ (P4 ++ P5)))))))])
    (by kernel_rfl) (by kernel_rfl) (RS.below ?_) ?_ ?_
  · simp [lst_eqV, lst_slV]
  · refine ⟨?_, ?_, ?_, ?_, ?_, ?_, ?_, ?_, ?_, ?_, ?_, ?_, ?_, ?_, ?_, ?_, ?_, ?_, ?_, ?_, ?_, ?_, ?_, ?_, ?_, ?_, ?_, ?_, ?_, ?_, ?_, ?_, ?_, ?_, ?_, ?_, ?_, ?_, ?_, ?_, trivial⟩
    · intro a W K hb hold hd hK
      have t1 : a.tmps.getD 1 undef = .pointer (some ⟨w.heap.size, 0, none⟩) := hold 1 (by kernel_rfl)
      go_simp
      exact hK _ _ (Below.refl _ _) rfl
    · intro a W K hb hold hd hK
      have t1 : a.tmps.getD 3 undef = .pointer (some ⟨w.heap.size, 0, none⟩) := hd ⟨0, .data⟩ (by simp) rfl _ _ rfl rfl
      have c := cell_below hb C0.out
      go_simp
      exact hK _ _ (Below.refl _ _) rfl
    · intro a W K hb hold hd hK
      have t1 : a.tmps.getD 4 undef = .int .i64 (x0 : Int) := hd ⟨1, .data⟩ (by simp) rfl _ _ rfl rfl
      have hw := HW0.out
      go_simp
      exact hK _ _ (Below.refl _ _) rfl
    · intro a W K hb hold hd hK
      have t1 : a.tmps.getD 1 undef = .pointer (some ⟨w.heap.size, 0, none⟩) := hold 1 (by kernel_rfl)
      go_simp
      exact hK _ _ (Below.refl _ _) rfl
    · intro a W K hb hold hd hK
      have t1 : a.tmps.getD 6 undef = .pointer (some ⟨w.heap.size, 1, none⟩) := hd ⟨3, .data⟩ (by simp) rfl _ _ rfl rfl
      have c := cell_below hb C1.out
      go_simp
      exact hK _ _ (Below.refl _ _) rfl
    · intro a W K hb hold hd hK
      have t1 : a.tmps.getD 7 undef = .int .i64 (x1 : Int) := hd ⟨4, .data⟩ (by simp) rfl _ _ rfl rfl
      have hw := HW1.out
      go_simp
      exact hK _ _ (Below.refl _ _) rfl
    · intro a W K hb hold hd hK
      have t1 : a.tmps.getD 1 undef = .pointer (some ⟨w.heap.size, 0, none⟩) := hold 1 (by kernel_rfl)
      go_simp
      exact hK _ _ (Below.refl _ _) rfl
    · intro a W K hb hold hd hK
      have t1 : a.tmps.getD 9 undef = .pointer (some ⟨w.heap.size, 2, none⟩) := hd ⟨6, .data⟩ (by simp) rfl _ _ rfl rfl
      have c := cell_below hb C2.out
      go_simp
      exact hK _ _ (Below.refl _ _) rfl
    · intro a W K hb hold hd hK
      have t1 : a.tmps.getD 1 undef = .pointer (some ⟨w.heap.size, 0, none⟩) := hold 1 (by kernel_rfl)
      go_simp
      exact hK _ _ (Below.refl _ _) rfl
    · intro a W K hb hold hd hK
      have t1 : a.tmps.getD 11 undef = .pointer (some ⟨w.heap.size, 3, none⟩) := hd ⟨8, .data⟩ (by simp) rfl _ _ rfl rfl
      have c := cell_below hb C3.out
      go_simp
      exact hK _ _ (Below.refl _ _) rfl
    · intro a W K hb hold hd hK
      have t0 : a.tmps.getD 5 undef = .int .u64 (x0 : Int) := hd ⟨2, .data⟩ (by simp) rfl _ _ rfl rfl
      have t1 : a.tmps.getD 8 undef = .int .u64 (x1 : Int) := hd ⟨5, .data⟩ (by simp) rfl _ _ rfl rfl
      have t2 : a.tmps.getD 10 undef = .int .u64 (x2 : Int) := hd ⟨7, .data⟩ (by simp) rfl _ _ rfl rfl
      have t3 : a.tmps.getD 12 undef = .int .u64 (x3 : Int) := hd ⟨9, .data⟩ (by simp) rfl _ _ rfl rfl
      rw [Array.getD_eq_getD_getElem?] at t0 t1 t2 t3
      go_simp
      exact hK _ _ ((Below.refl _ _).alloc (Nat.le_refl _) _) (sl_newL _ [.int .u64 (x0 : Int), .int .u64 (x1 : Int), .int .u64 (x2 : Int), .int .u64 (x3 : Int)] _)
    · intro a W K hb hold hd hK
      obtain ⟨b, t1, hbb, hc⟩ : slV [.int .u64 (x0 : Int), .int .u64 (x1 : Int), .int .u64 (x2 : Int), .int .u64 (x3 : Int)] (a.tmps.getD 13 undef) W := hd ⟨10, .data⟩ (by simp) rfl _ _ rfl rfl
      go_simp
      refine (jNumsV [x0, x1, x2, x3] _ W ⟨b, rfl, hbb, hc⟩ (by simp) (by simp; omega)).mono ?_
      rintro e wf ⟨rfl, hbf⟩
      exact hK _ _ hbf (congrArg (fun x => Value.string (bstr x)) EP0.out.symm)
    · intro a W K hb hold hd hK
      have t1 : a.tmps.getD 1 undef = .pointer (some ⟨w.heap.size, 0, none⟩) := hold 1 (by kernel_rfl)
      go_simp
      exact hK _ _ (Below.refl _ _) rfl
    · intro a W K hb hold hd hK
      have t1 : a.tmps.getD 15 undef = .pointer (some ⟨w.heap.size, 4, none⟩) := hd ⟨12, .data⟩ (by simp) rfl _ _ rfl rfl
      exact wp_load_mid 24 _ rfl w.heap.size 4 t1 [.int .i64 (x4 : Int), .string (bstr x5), .string (bstr x6), .string (bstr x7), .bool x8, .string (bstr x9)] _ (range_below hb G4.out) Tryz.underlying24 rfl (by kernel_rfl) (hK _ _ (Below.refl _ _) rfl)
    · intro a W K hb hold hd hK
      have t1 : a.tmps.getD 16 undef = .agg #[.int .i64 (x4 : Int), .string (bstr x5), .string (bstr x6), .string (bstr x7), .bool x8, .string (bstr x9)] := hd ⟨13, .data⟩ (by simp) rfl _ _ rfl rfl
      go_simp
      refine (oLayOp_any [.int .i64 (x4 : Int), .string x5, .string x6, .string x7, .bool x8, .string x9] W F4.out).mono ?_
      rintro e wf ⟨rfl, hbf⟩
      exact hK _ _ hbf (congrArg (fun x => Value.string (bstr x)) EP1.out.symm)
    · intro a W K hb hold hd hK
      have t1 : a.tmps.getD 14 undef = .string (bstr P0) := hd ⟨11, .data⟩ (by simp) rfl _ _ rfl rfl
      have t2 : a.tmps.getD 17 undef = .string (bstr P1) := hd ⟨14, .data⟩ (by simp) rfl _ _ rfl rfl
      have lP0 := LP0.out
      have lP1 := LP1.out
      go_simp
      rw [if_neg (by omega)]
      go_simp
      exact hK _ _ (Below.refl _ _) rfl
    · intro a W K hb hold hd hK
      have t1 : a.tmps.getD 1 undef = .pointer (some ⟨w.heap.size, 0, none⟩) := hold 1 (by kernel_rfl)
      go_simp
      exact hK _ _ (Below.refl _ _) rfl
    · intro a W K hb hold hd hK
      have t1 : a.tmps.getD 19 undef = .pointer (some ⟨w.heap.size, 10, none⟩) := hd ⟨16, .data⟩ (by simp) rfl _ _ rfl rfl
      have c := cell_below hb C10.out
      go_simp
      exact hK _ _ (Below.refl _ _) rfl
    · intro a W K hb hold hd hK
      have t1 : a.tmps.getD 1 undef = .pointer (some ⟨w.heap.size, 0, none⟩) := hold 1 (by kernel_rfl)
      go_simp
      exact hK _ _ (Below.refl _ _) rfl
    · intro a W K hb hold hd hK
      have t1 : a.tmps.getD 21 undef = .pointer (some ⟨w.heap.size, 11, none⟩) := hd ⟨18, .data⟩ (by simp) rfl _ _ rfl rfl
      have c := cell_below hb C11.out
      go_simp
      exact hK _ _ (Below.refl _ _) rfl
    · intro a W K hb hold hd hK
      have t1 : a.tmps.getD 22 undef = .int .i64 (x11 : Int) := hd ⟨19, .data⟩ (by simp) rfl _ _ rfl rfl
      have hw := HW11.out
      go_simp
      exact hK _ _ (Below.refl _ _) rfl
    · intro a W K hb hold hd hK
      have t0 : a.tmps.getD 20 undef = .int .u64 (x10 : Int) := hd ⟨17, .data⟩ (by simp) rfl _ _ rfl rfl
      have t1 : a.tmps.getD 23 undef = .int .u64 (x11 : Int) := hd ⟨20, .data⟩ (by simp) rfl _ _ rfl rfl
      rw [Array.getD_eq_getD_getElem?] at t0 t1
      go_simp
      exact hK _ _ ((Below.refl _ _).alloc (Nat.le_refl _) _) (sl_newL _ [.int .u64 (x10 : Int), .int .u64 (x11 : Int)] _)
    · intro a W K hb hold hd hK
      obtain ⟨b, t1, hbb, hc⟩ : slV [.int .u64 (x10 : Int), .int .u64 (x11 : Int)] (a.tmps.getD 24 undef) W := hd ⟨21, .data⟩ (by simp) rfl _ _ rfl rfl
      go_simp
      refine (jNumsV [x10, x11] _ W ⟨b, rfl, hbb, hc⟩ (by simp) (by simp; omega)).mono ?_
      rintro e wf ⟨rfl, hbf⟩
      exact hK _ _ hbf (congrArg (fun x => Value.string (bstr x)) EP2.out.symm)
    · intro a W K hb hold hd hK
      have t1 : a.tmps.getD 18 undef = .string (bstr (P0 ++ P1)) := hd ⟨15, .data⟩ (by simp) rfl _ _ rfl rfl
      have t2 : a.tmps.getD 25 undef = .string (bstr P2) := hd ⟨22, .data⟩ (by simp) rfl _ _ rfl rfl
      have lP0 := LP0.out
      have lP1 := LP1.out
      have lP2 := LP2.out
      go_simp
      rw [if_neg (by omega)]
      go_simp
      exact hK _ _ (Below.refl _ _) rfl
    · intro a W K hb hold hd hK
      have t1 : a.tmps.getD 1 undef = .pointer (some ⟨w.heap.size, 0, none⟩) := hold 1 (by kernel_rfl)
      go_simp
      exact hK _ _ (Below.refl _ _) rfl
    · intro a W K hb hold hd hK
      have t1 : a.tmps.getD 27 undef = .pointer (some ⟨w.heap.size, 12, none⟩) := hd ⟨24, .data⟩ (by simp) rfl _ _ rfl rfl
      have c := cell_below hb C12.out
      go_simp
      exact hK _ _ (Below.refl _ _) rfl
    · intro a W K hb hold hd hK
      have t1 : a.tmps.getD 1 undef = .pointer (some ⟨w.heap.size, 0, none⟩) := hold 1 (by kernel_rfl)
      go_simp
      exact hK _ _ (Below.refl _ _) rfl
    · intro a W K hb hold hd hK
      have t1 : a.tmps.getD 29 undef = .pointer (some ⟨w.heap.size, 13, none⟩) := hd ⟨26, .data⟩ (by simp) rfl _ _ rfl rfl
      have c := cell_below hb C13.out
      go_simp
      exact hK _ _ (Below.refl _ _) rfl
    · intro a W K hb hold hd hK
      have t0 : a.tmps.getD 28 undef = .string (bstr x12) := hd ⟨25, .data⟩ (by simp) rfl _ _ rfl rfl
      have t1 : a.tmps.getD 30 undef = .string (bstr x13) := hd ⟨27, .data⟩ (by simp) rfl _ _ rfl rfl
      rw [Array.getD_eq_getD_getElem?] at t0 t1
      go_simp
      exact hK _ _ ((Below.refl _ _).alloc (Nat.le_refl _) _) (sl_newL _ [.string (bstr x12), .string (bstr x13)] _)
    · intro a W K hb hold hd hK
      obtain ⟨b, t1, hbb, hc⟩ : slV [.string (bstr x12), .string (bstr x13)] (a.tmps.getD 31 undef) W := hd ⟨28, .data⟩ (by simp) rfl _ _ rfl rfl
      go_simp
      refine (jTxtsV [x12, x13] _ W ⟨b, rfl, hbb, hc⟩ (by simp) (by simp; omega)).mono ?_
      rintro e wf ⟨rfl, hbf⟩
      exact hK _ _ hbf (congrArg (fun x => Value.string (bstr x)) EP3.out.symm)
    · intro a W K hb hold hd hK
      have t1 : a.tmps.getD 26 undef = .string (bstr (P0 ++ (P1 ++ P2))) := hd ⟨23, .data⟩ (by simp) rfl _ _ rfl rfl
      have t2 : a.tmps.getD 32 undef = .string (bstr P3) := hd ⟨29, .data⟩ (by simp) rfl _ _ rfl rfl
      have lP0 := LP0.out
      have lP1 := LP1.out
      have lP2 := LP2.out
      have lP3 := LP3.out
      go_simp
      rw [if_neg (by omega)]
      go_simp
      exact hK _ _ (Below.refl _ _) rfl
    · intro a W K hb hold hd hK
      have t1 : a.tmps.getD 1 undef = .pointer (some ⟨w.heap.size, 0, none⟩) := hold 1 (by kernel_rfl)
      go_simp
      exact hK _ _ (Below.refl _ _) rfl
    · intro a W K hb hold hd hK
      have t1 : a.tmps.getD 34 undef = .pointer (some ⟨w.heap.size, 14, none⟩) := hd ⟨31, .data⟩ (by simp) rfl _ _ rfl rfl
      have c := cell_below hb C14.out
      go_simp
      exact hK _ _ (Below.refl _ _) rfl
    · intro a W K hb hold hd hK
      have t1 : a.tmps.getD 35 undef = .int .i64 (x14 : Int) := hd ⟨32, .data⟩ (by simp) rfl _ _ rfl rfl
      go_simp
      refine (oInt_any x14 W (by have := H14.out; omega)).mono ?_
      rintro e wf ⟨rfl, hbf⟩
      exact hK _ _ hbf (congrArg (fun x => Value.string (bstr x)) EP4.out.symm)
    · intro a W K hb hold hd hK
      have t1 : a.tmps.getD 33 undef = .string (bstr (P0 ++ (P1 ++ (P2 ++ P3)))) := hd ⟨30, .data⟩ (by simp) rfl _ _ rfl rfl
      have t2 : a.tmps.getD 36 undef = .string (bstr P4) := hd ⟨33, .data⟩ (by simp) rfl _ _ rfl rfl
      have lP0 := LP0.out
      have lP1 := LP1.out
      have lP2 := LP2.out
      have lP3 := LP3.out
      have lP4 := LP4.out
      go_simp
      rw [if_neg (by omega)]
      go_simp
      exact hK _ _ (Below.refl _ _) rfl
    · intro a W K hb hold hd hK
      have t1 : a.tmps.getD 1 undef = .pointer (some ⟨w.heap.size, 0, none⟩) := hold 1 (by kernel_rfl)
      go_simp
      exact hK _ _ (Below.refl _ _) rfl
    · intro a W K hb hold hd hK
      have t1 : a.tmps.getD 38 undef = .pointer (some ⟨w.heap.size, 15, none⟩) := hd ⟨35, .data⟩ (by simp) rfl _ _ rfl rfl
      exact wp_load_mid 26 _ rfl w.heap.size 15 t1 [.bool x15, .int .i64 (x16 : Int), .string (bstr x17), .int .i64 (x18 : Int), .int .i64 (x19 : Int)] _ (range_below hb G15.out) Tryz.underlying26 rfl (by kernel_rfl) (hK _ _ (Below.refl _ _) rfl)
    · intro a W K hb hold hd hK
      have t1 : a.tmps.getD 39 undef = .agg #[.bool x15, .int .i64 (x16 : Int), .string (bstr x17), .int .i64 (x18 : Int), .int .i64 (x19 : Int)] := hd ⟨36, .data⟩ (by simp) rfl _ _ rfl rfl
      go_simp
      refine (oLayWant_any [.bool x15, .int .i64 (x16 : Int), .string x17, .int .i64 (x18 : Int), .int .i64 (x19 : Int)] W F15.out).mono ?_
      rintro e wf ⟨rfl, hbf⟩
      exact hK _ _ hbf (congrArg (fun x => Value.string (bstr x)) EP5.out.symm)
    · intro a W K hb hold hd hK
      have t1 : a.tmps.getD 37 undef = .string (bstr (P0 ++ (P1 ++ (P2 ++ (P3 ++ P4))))) := hd ⟨34, .data⟩ (by simp) rfl _ _ rfl rfl
      have t2 : a.tmps.getD 40 undef = .string (bstr P5) := hd ⟨37, .data⟩ (by simp) rfl _ _ rfl rfl
      have lP0 := LP0.out
      have lP1 := LP1.out
      have lP2 := LP2.out
      have lP3 := LP3.out
      have lP4 := LP4.out
      have lP5 := LP5.out
      go_simp
      rw [if_neg (by omega)]
      go_simp
      exact hK _ _ (Below.refl _ _) rfl
    · intro a W K hb hold hd hK
      have t1 : a.tmps.getD 41 undef = .string (bstr (P0 ++ (P1 ++ (P2 ++ (P3 ++ (P4 ++ P5)))))) := hd ⟨38, .data⟩ (by simp) rfl _ _ rfl rfl
      go_simp
      exact hK _ _ (Below.refl _ _) rfl
  · intro a' w' hb hdf hts hold hnew
    have t2 : a'.tmps.getD 2 undef = .string (bstr (layKs cmdK [.int .i64 (x0 : Int), .int .i64 (x1 : Int), .int .u64 (x2 : Int), .int .u64 (x3 : Int), .int .i64 (x4 : Int), .string x5, .string x6, .string x7, .bool x8, .string x9, .int .u64 (x10 : Int), .int .i64 (x11 : Int), .string x12, .string x13, .int .i64 (x14 : Int), .bool x15, .int .i64 (x16 : Int), .string x17, .int .i64 (x18 : Int), .int .i64 (x19 : Int)])) := (hnew 39 _ 2 rfl rfl).trans (by rw [HL.out])
    obtain ⟨t, d⟩ := a'
    obtain rfl : d = [] := hdf
    simp only at t2
    clear hold hnew hts
    go_wp2
    go_ret
    exact ⟨congrArg Ending.returned t2, bel_call hb (bel_drew hb1)⟩

end Go.Proofs.YtbdbefgfejdbjaaGreat
