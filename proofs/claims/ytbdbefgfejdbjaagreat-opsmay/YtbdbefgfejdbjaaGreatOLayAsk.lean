/-
  Ask laid: written by mkolay.py.
-/
import Derived.Test.YtbdbefgfejdbjaaGreatGOLayCmd
namespace Go.Proofs.YtbdbefgfejdbjaaGreat
open Go.RowKit Go.BigFrame
attribute [local go_sem] size_bstr toList_bstr append_bstr

set_option maxHeartbeats 8000000 in
set_option maxRecDepth 100000 in
theorem oLayAsk_any (vs : List Lit) (w : World) (h : fitKs askK vs) :
    Calls Tryz.prog 92 #[litsV vs] w fun x w' => x = .returned (.string (bstr (layKs askK vs))) ∧ Below w.heap.size w w' := by
  have hf := h
  obtain ⟨v0, vs, rfl, h0, h⟩ := fit_cons h
  obtain ⟨v1, vs, rfl, h1, h⟩ := fit_cons h
  obtain ⟨v2, vs, rfl, h2, h⟩ := fit_cons h
  obtain ⟨v3, vs, rfl, h3, h⟩ := fit_cons h
  obtain ⟨v4, vs, rfl, h4, h⟩ := fit_cons h
  obtain ⟨v5, vs, rfl, h5, h⟩ := fit_cons h
  obtain ⟨v6, vs, rfl, h6, h⟩ := fit_cons h
  obtain ⟨v7, vs, rfl, h7, h⟩ := fit_cons h
  obtain ⟨v8, vs, rfl, h8, h⟩ := fit_cons h
  obtain ⟨v9, vs, rfl, h9, h⟩ := fit_cons h
  obtain ⟨v10, vs, rfl, h10, h⟩ := fit_cons h
  obtain ⟨v11, vs, rfl, h11, h⟩ := fit_cons h
  obtain ⟨v12, vs, rfl, h12, h⟩ := fit_cons h
  obtain ⟨v13, vs, rfl, h13, h⟩ := fit_cons h
  obtain ⟨v14, vs, rfl, h14, h⟩ := fit_cons h
  obtain ⟨v15, vs, rfl, h15, h⟩ := fit_cons h
  obtain ⟨v16, vs, rfl, h16, h⟩ := fit_cons h
  obtain ⟨v17, vs, rfl, h17, h⟩ := fit_cons h
  obtain ⟨v18, vs, rfl, h18, h⟩ := fit_cons h
  obtain ⟨v19, vs, rfl, h19, h⟩ := fit_cons h
  obtain ⟨v20, vs, rfl, h20, h⟩ := fit_cons h
  obtain ⟨v21, vs, rfl, h21, h⟩ := fit_cons h
  obtain ⟨v22, vs, rfl, h22, h⟩ := fit_cons h
  obtain rfl := fit_nil h
  obtain ⟨x0, rfl, h0⟩ := fitI h0
  obtain ⟨x1, rfl, h1⟩ := fitI h1
  obtain ⟨x2, rfl, h2⟩ := fitI h2
  obtain ⟨x3, rfl, h3⟩ := fitU h3
  obtain ⟨x4, rfl, h4⟩ := fitU h4
  obtain ⟨x5, rfl, h5⟩ := fitI h5
  obtain ⟨x6, rfl, h6⟩ := fitS h6
  obtain ⟨x7, rfl, h7⟩ := fitS h7
  obtain ⟨x8, rfl, h8⟩ := fitS h8
  obtain ⟨x9, rfl⟩ := fitB h9
  obtain ⟨x10, rfl, h10⟩ := fitS h10
  obtain ⟨x11, rfl, h11⟩ := fitU h11
  obtain ⟨x12, rfl, h12⟩ := fitI h12
  obtain ⟨x13, rfl, h13⟩ := fitS h13
  obtain ⟨x14, rfl, h14⟩ := fitS h14
  obtain ⟨x15, rfl, h15⟩ := fitI h15
  obtain ⟨x16, rfl⟩ := fitB h16
  obtain ⟨x17, rfl, h17⟩ := fitI h17
  obtain ⟨x18, rfl, h18⟩ := fitS h18
  obtain ⟨x19, rfl, h19⟩ := fitI h19
  obtain ⟨x20, rfl, h20⟩ := fitI h20
  obtain ⟨x21, rfl, h21⟩ := fitG h21
  obtain ⟨x22, rfl, h22⟩ := fitG h22
  clear h
  have f1 : fitKs cmdK [.int .i64 (x1 : Int), .int .i64 (x2 : Int), .int .u64 (x3 : Int), .int .u64 (x4 : Int), .int .i64 (x5 : Int), .string x6, .string x7, .string x8, .bool x9, .string x10, .int .u64 (x11 : Int), .int .i64 (x12 : Int), .string x13, .string x14, .int .i64 (x15 : Int), .bool x16, .int .i64 (x17 : Int), .string x18, .int .i64 (x19 : Int), .int .i64 (x20 : Int)] := ⟨hf.2.1, hf.2.2.1, hf.2.2.2.1, hf.2.2.2.2.1, hf.2.2.2.2.2.1, hf.2.2.2.2.2.2.1, hf.2.2.2.2.2.2.2.1, hf.2.2.2.2.2.2.2.2.1, hf.2.2.2.2.2.2.2.2.2.1, hf.2.2.2.2.2.2.2.2.2.2.1, hf.2.2.2.2.2.2.2.2.2.2.2.1, hf.2.2.2.2.2.2.2.2.2.2.2.2.1, hf.2.2.2.2.2.2.2.2.2.2.2.2.2.1, hf.2.2.2.2.2.2.2.2.2.2.2.2.2.2.1, hf.2.2.2.2.2.2.2.2.2.2.2.2.2.2.2.1, hf.2.2.2.2.2.2.2.2.2.2.2.2.2.2.2.2.1, hf.2.2.2.2.2.2.2.2.2.2.2.2.2.2.2.2.2.1, hf.2.2.2.2.2.2.2.2.2.2.2.2.2.2.2.2.2.2.1, hf.2.2.2.2.2.2.2.2.2.2.2.2.2.2.2.2.2.2.2.1, hf.2.2.2.2.2.2.2.2.2.2.2.2.2.2.2.2.2.2.2.2.1, trivial⟩
  have F1 : Hid _ := f1
  obtain ⟨P0, eP0⟩ : ∃ x, x = Lib.uvarint x0 := ⟨_, rfl⟩
  have lP0 : P0.length ≤ 1000 := by rw [eP0]; have := Lib.uvarint_length64 (x := x0) (by omega); omega
  obtain ⟨P1, eP1⟩ : ∃ x, x = layKs cmdK [.int .i64 (x1 : Int), .int .i64 (x2 : Int), .int .u64 (x3 : Int), .int .u64 (x4 : Int), .int .i64 (x5 : Int), .string x6, .string x7, .string x8, .bool x9, .string x10, .int .u64 (x11 : Int), .int .i64 (x12 : Int), .string x13, .string x14, .int .i64 (x15 : Int), .bool x16, .int .i64 (x17 : Int), .string x18, .int .i64 (x19 : Int), .int .i64 (x20 : Int)] := ⟨_, rfl⟩
  have lP1 : P1.length ≤ 40000000 := by rw [eP1]; have := layKs_len f1; simp only [List.length_cons, List.length_nil] at this; omega
  obtain ⟨P2, eP2⟩ : ∃ x, x = Lib.uvarint (zig x21) := ⟨_, rfl⟩
  have lP2 : P2.length ≤ 1000 := by rw [eP2]; have := Lib.uvarint_length64 (x := zig x21) (by omega); omega
  obtain ⟨P3, eP3⟩ : ∃ x, x = Lib.uvarint (zig x22) := ⟨_, rfl⟩
  have lP3 : P3.length ≤ 1000 := by rw [eP3]; have := Lib.uvarint_length64 (x := zig x22) (by omega); omega
  have hL : layKs askK [.int .i64 (x0 : Int), .int .i64 (x1 : Int), .int .i64 (x2 : Int), .int .u64 (x3 : Int), .int .u64 (x4 : Int), .int .i64 (x5 : Int), .string x6, .string x7, .string x8, .bool x9, .string x10, .int .u64 (x11 : Int), .int .i64 (x12 : Int), .string x13, .string x14, .int .i64 (x15 : Int), .bool x16, .int .i64 (x17 : Int), .string x18, .int .i64 (x19 : Int), .int .i64 (x20 : Int), .int .i64 x21, .int .i64 x22] = (P0 ++ (P1 ++ (P2 ++ P3))) := by
    rw [eP0, eP1, eP2, eP3]
    simp [layKs, layK]
  have HL : Hid _ := hL
  have EP0 : Hid _ := eP0
  have LP0 : Hid _ := lP0
  have EP1 : Hid _ := eP1
  have LP1 : Hid _ := lP1
  have EP2 : Hid _ := eP2
  have LP2 : Hid _ := lP2
  have EP3 : Hid _ := eP3
  have LP3 : Hid _ := lP3
  have HW0 : Hid (IntKind.u64.wrap (x0 : Int) = (x0 : Int)) := by show _ = _; rw [IntKind.wrap_u64]; omega
  have H0 : Hid _ := h0
  have HW1 : Hid (IntKind.u64.wrap (x1 : Int) = (x1 : Int)) := by show _ = _; rw [IntKind.wrap_u64]; omega
  have H1 : Hid _ := h1
  have HW2 : Hid (IntKind.u64.wrap (x2 : Int) = (x2 : Int)) := by show _ = _; rw [IntKind.wrap_u64]; omega
  have H2 : Hid _ := h2
  have H3 : Hid _ := h3
  have H4 : Hid _ := h4
  have HW5 : Hid (IntKind.u64.wrap (x5 : Int) = (x5 : Int)) := by show _ = _; rw [IntKind.wrap_u64]; omega
  have H5 : Hid _ := h5
  have H6 : Hid _ := h6
  have H7 : Hid _ := h7
  have H8 : Hid _ := h8
  have H10 : Hid _ := h10
  have H11 : Hid _ := h11
  have HW12 : Hid (IntKind.u64.wrap (x12 : Int) = (x12 : Int)) := by show _ = _; rw [IntKind.wrap_u64]; omega
  have H12 : Hid _ := h12
  have H13 : Hid _ := h13
  have H14 : Hid _ := h14
  have HW15 : Hid (IntKind.u64.wrap (x15 : Int) = (x15 : Int)) := by show _ = _; rw [IntKind.wrap_u64]; omega
  have H15 : Hid _ := h15
  have HW17 : Hid (IntKind.u64.wrap (x17 : Int) = (x17 : Int)) := by show _ = _; rw [IntKind.wrap_u64]; omega
  have H17 : Hid _ := h17
  have H18 : Hid _ := h18
  have HW19 : Hid (IntKind.u64.wrap (x19 : Int) = (x19 : Int)) := by show _ = _; rw [IntKind.wrap_u64]; omega
  have H19 : Hid _ := h19
  have HW20 : Hid (IntKind.u64.wrap (x20 : Int) = (x20 : Int)) := by show _ = _; rw [IntKind.wrap_u64]; omega
  have H20 : Hid _ := h20
  have H21 : Hid _ := h21
  have H22 : Hid _ := h22
  clear hf hL eP0 lP0 eP1 lP1 eP2 lP2 eP3 lP3 f1
  rw [show litsV [.int .i64 (x0 : Int), .int .i64 (x1 : Int), .int .i64 (x2 : Int), .int .u64 (x3 : Int), .int .u64 (x4 : Int), .int .i64 (x5 : Int), .string x6, .string x7, .string x8, .bool x9, .string x10, .int .u64 (x11 : Int), .int .i64 (x12 : Int), .string x13, .string x14, .int .i64 (x15 : Int), .bool x16, .int .i64 (x17 : Int), .string x18, .int .i64 (x19 : Int), .int .i64 (x20 : Int), .int .i64 x21, .int .i64 x22] = .agg #[.int .i64 (x0 : Int), .int .i64 (x1 : Int), .int .i64 (x2 : Int), .int .u64 (x3 : Int), .int .u64 (x4 : Int), .int .i64 (x5 : Int), .string (bstr x6), .string (bstr x7), .string (bstr x8), .bool x9, .string (bstr x10), .int .u64 (x11 : Int), .int .i64 (x12 : Int), .string (bstr x13), .string (bstr x14), .int .i64 (x15 : Int), .bool x16, .int .i64 (x17 : Int), .string (bstr x18), .int .i64 (x19 : Int), .int .i64 (x20 : Int), .int .i64 x21, .int .i64 x22] from rfl]
  go_enter Tryz.func92, Tryz.ntmps92
  go_upto_region 1 with fail
  obtain ⟨w1, hw1⟩ : ∃ w1, w1 = w.alloc (.cells #[.int .i64 (x0 : Int), .int .i64 (x1 : Int), .int .i64 (x2 : Int), .int .u64 (x3 : Int), .int .u64 (x4 : Int), .int .i64 (x5 : Int), .string (bstr x6), .string (bstr x7), .string (bstr x8), .bool x9, .string (bstr x10), .int .u64 (x11 : Int), .int .i64 (x12 : Int), .string (bstr x13), .string (bstr x14), .int .i64 (x15 : Int), .bool x16, .int .i64 (x17 : Int), .string (bstr x18), .int .i64 (x19 : Int), .int .i64 (x20 : Int), .int .i64 x21, .int .i64 x22] 57) := ⟨_, rfl⟩
  have hb1 : Below w.heap.size w w1 := by rw [hw1]; exact (Below.refl _ _).alloc (Nat.le_refl _) _
  have hc := (mcells (show w1.heap[w.heap.size]? = some (.cells #[.int .i64 (x0 : Int), .int .i64 (x1 : Int), .int .i64 (x2 : Int), .int .u64 (x3 : Int), .int .u64 (x4 : Int), .int .i64 (x5 : Int), .string (bstr x6), .string (bstr x7), .string (bstr x8), .bool x9, .string (bstr x10), .int .u64 (x11 : Int), .int .i64 (x12 : Int), .string (bstr x13), .string (bstr x14), .int .i64 (x15 : Int), .bool x16, .int .i64 (x17 : Int), .string (bstr x18), .int .i64 (x19 : Int), .int .i64 (x20 : Int), .int .i64 x21, .int .i64 x22] 57 (0, 0)) by rw [hw1]; exact heap_alloc_new w _)).1
  have G1 : Hid (w1.rangeAt w.heap.size 1 [.int .i64 (x1 : Int), .int .i64 (x2 : Int), .int .u64 (x3 : Int), .int .u64 (x4 : Int), .int .i64 (x5 : Int), .string (bstr x6), .string (bstr x7), .string (bstr x8), .bool x9, .string (bstr x10), .int .u64 (x11 : Int), .int .i64 (x12 : Int), .string (bstr x13), .string (bstr x14), .int .i64 (x15 : Int), .bool x16, .int .i64 (x17 : Int), .string (bstr x18), .int .i64 (x19 : Int), .int .i64 (x20 : Int)]) := range_of_block (show w1.heap[w.heap.size]? = some (.cells #[.int .i64 (x0 : Int), .int .i64 (x1 : Int), .int .i64 (x2 : Int), .int .u64 (x3 : Int), .int .u64 (x4 : Int), .int .i64 (x5 : Int), .string (bstr x6), .string (bstr x7), .string (bstr x8), .bool x9, .string (bstr x10), .int .u64 (x11 : Int), .int .i64 (x12 : Int), .string (bstr x13), .string (bstr x14), .int .i64 (x15 : Int), .bool x16, .int .i64 (x17 : Int), .string (bstr x18), .int .i64 (x19 : Int), .int .i64 (x20 : Int), .int .i64 x21, .int .i64 x22] 57 (0, 0)) by rw [hw1]; exact heap_alloc_new w _) [.int .i64 (x0 : Int)] [.int .i64 (x1 : Int), .int .i64 (x2 : Int), .int .u64 (x3 : Int), .int .u64 (x4 : Int), .int .i64 (x5 : Int), .string (bstr x6), .string (bstr x7), .string (bstr x8), .bool x9, .string (bstr x10), .int .u64 (x11 : Int), .int .i64 (x12 : Int), .string (bstr x13), .string (bstr x14), .int .i64 (x15 : Int), .bool x16, .int .i64 (x17 : Int), .string (bstr x18), .int .i64 (x19 : Int), .int .i64 (x20 : Int)] [.int .i64 x21, .int .i64 x22] rfl
  have C0 : Hid (w1.cell? ⟨w.heap.size, 0, none⟩ = some (.int .i64 (x0 : Int))) := hc 0
  have C1 : Hid (w1.cell? ⟨w.heap.size, 1, none⟩ = some (.int .i64 (x1 : Int))) := hc 1
  have C2 : Hid (w1.cell? ⟨w.heap.size, 2, none⟩ = some (.int .i64 (x2 : Int))) := hc 2
  have C3 : Hid (w1.cell? ⟨w.heap.size, 3, none⟩ = some (.int .u64 (x3 : Int))) := hc 3
  have C4 : Hid (w1.cell? ⟨w.heap.size, 4, none⟩ = some (.int .u64 (x4 : Int))) := hc 4
  have C5 : Hid (w1.cell? ⟨w.heap.size, 5, none⟩ = some (.int .i64 (x5 : Int))) := hc 5
  have C6 : Hid (w1.cell? ⟨w.heap.size, 6, none⟩ = some (.string (bstr x6))) := hc 6
  have C7 : Hid (w1.cell? ⟨w.heap.size, 7, none⟩ = some (.string (bstr x7))) := hc 7
  have C8 : Hid (w1.cell? ⟨w.heap.size, 8, none⟩ = some (.string (bstr x8))) := hc 8
  have C9 : Hid (w1.cell? ⟨w.heap.size, 9, none⟩ = some (.bool x9)) := hc 9
  have C10 : Hid (w1.cell? ⟨w.heap.size, 10, none⟩ = some (.string (bstr x10))) := hc 10
  have C11 : Hid (w1.cell? ⟨w.heap.size, 11, none⟩ = some (.int .u64 (x11 : Int))) := hc 11
  have C12 : Hid (w1.cell? ⟨w.heap.size, 12, none⟩ = some (.int .i64 (x12 : Int))) := hc 12
  have C13 : Hid (w1.cell? ⟨w.heap.size, 13, none⟩ = some (.string (bstr x13))) := hc 13
  have C14 : Hid (w1.cell? ⟨w.heap.size, 14, none⟩ = some (.string (bstr x14))) := hc 14
  have C15 : Hid (w1.cell? ⟨w.heap.size, 15, none⟩ = some (.int .i64 (x15 : Int))) := hc 15
  have C16 : Hid (w1.cell? ⟨w.heap.size, 16, none⟩ = some (.bool x16)) := hc 16
  have C17 : Hid (w1.cell? ⟨w.heap.size, 17, none⟩ = some (.int .i64 (x17 : Int))) := hc 17
  have C18 : Hid (w1.cell? ⟨w.heap.size, 18, none⟩ = some (.string (bstr x18))) := hc 18
  have C19 : Hid (w1.cell? ⟨w.heap.size, 19, none⟩ = some (.int .i64 (x19 : Int))) := hc 19
  have C20 : Hid (w1.cell? ⟨w.heap.size, 20, none⟩ = some (.int .i64 (x20 : Int))) := hc 20
  have C21 : Hid (w1.cell? ⟨w.heap.size, 21, none⟩ = some (.int .i64 x21)) := hc 21
  have C22 : Hid (w1.cell? ⟨w.heap.size, 22, none⟩ = some (.int .i64 x22)) := hc 22
  rw [← hw1]
  clear hc hw1
  refine wp_grow (R := RS [eqV (.pointer (some ⟨w.heap.size, 0, none⟩)),
    eqV (.int .i64 (x0 : Int)),
    eqV (.string (bstr P0)),
    eqV (.pointer (some ⟨w.heap.size, 1, none⟩)),
    eqV (.agg #[.int .i64 (x1 : Int), .int .i64 (x2 : Int), .int .u64 (x3 : Int), .int .u64 (x4 : Int), .int .i64 (x5 : Int), .string (bstr x6), .string (bstr x7), .string (bstr x8), .bool x9, .string (bstr x10), .int .u64 (x11 : Int), .int .i64 (x12 : Int), .string (bstr x13), .string (bstr x14), .int .i64 (x15 : Int), .bool x16, .int .i64 (x17 : Int), .string (bstr x18), .int .i64 (x19 : Int), .int .i64 (x20 : Int)]),
    eqV (.string (bstr P1)),
    eqV (.string (bstr (P0 ++ P1))),
    eqV (.pointer (some ⟨w.heap.size, 21, none⟩)),
    eqV (.int .i64 x21),
    eqV (.string (bstr P2)),
    eqV (.string (bstr (P0 ++ (P1 ++ P2)))),
    eqV (.pointer (some ⟨w.heap.size, 22, none⟩)),
    eqV (.int .i64 x22),
    eqV (.string (bstr P3)),
    eqV (.string (bstr (P0 ++ (P1 ++ (P2 ++ P3))))),
    eqV (.string (bstr (P0 ++ (P1 ++ (P2 ++ P3)))))])
    (by kernel_rfl) (by kernel_rfl) (RS.below ?_) ?_ ?_
  · simp [lst_eqV]
  · refine ⟨?_, ?_, ?_, ?_, ?_, ?_, ?_, ?_, ?_, ?_, ?_, ?_, ?_, ?_, ?_, ?_, trivial⟩
    · intro a W K hb hold hd hK
      have t1 : a.tmps.getD 1 undef = .pointer (some ⟨w.heap.size, 0, none⟩) := hold 1 (by kernel_rfl)
      go_simp
      exact hK _ _ (Below.refl _ _) rfl
    · intro a W K hb hold hd hK
      have t1 : a.tmps.getD 3 undef = .pointer (some ⟨w.heap.size, 0, none⟩) := hd ⟨0, .data⟩ (by simp) rfl _ _ rfl rfl
      have c := cell_below hb C0.out
      go_simp
      exact hK _ _ (Below.refl _ _) rfl
    · intro a W K hb hold hd hK
      have t1 : a.tmps.getD 4 undef = .int .i64 (x0 : Int) := hd ⟨1, .data⟩ (by simp) rfl _ _ rfl rfl
      go_simp
      refine (oInt_any x0 W (by have := H0.out; omega)).mono ?_
      rintro e wf ⟨rfl, hbf⟩
      exact hK _ _ hbf (congrArg (fun x => Value.string (bstr x)) EP0.out.symm)
    · intro a W K hb hold hd hK
      have t1 : a.tmps.getD 1 undef = .pointer (some ⟨w.heap.size, 0, none⟩) := hold 1 (by kernel_rfl)
      go_simp
      exact hK _ _ (Below.refl _ _) rfl
    · intro a W K hb hold hd hK
      have t1 : a.tmps.getD 6 undef = .pointer (some ⟨w.heap.size, 1, none⟩) := hd ⟨3, .data⟩ (by simp) rfl _ _ rfl rfl
      exact wp_load_mid 28 _ rfl w.heap.size 1 t1 [.int .i64 (x1 : Int), .int .i64 (x2 : Int), .int .u64 (x3 : Int), .int .u64 (x4 : Int), .int .i64 (x5 : Int), .string (bstr x6), .string (bstr x7), .string (bstr x8), .bool x9, .string (bstr x10), .int .u64 (x11 : Int), .int .i64 (x12 : Int), .string (bstr x13), .string (bstr x14), .int .i64 (x15 : Int), .bool x16, .int .i64 (x17 : Int), .string (bstr x18), .int .i64 (x19 : Int), .int .i64 (x20 : Int)] _ (range_below hb G1.out) Tryz.underlying28 rfl (by kernel_rfl) (hK _ _ (Below.refl _ _) rfl)
    · intro a W K hb hold hd hK
      have t1 : a.tmps.getD 7 undef = .agg #[.int .i64 (x1 : Int), .int .i64 (x2 : Int), .int .u64 (x3 : Int), .int .u64 (x4 : Int), .int .i64 (x5 : Int), .string (bstr x6), .string (bstr x7), .string (bstr x8), .bool x9, .string (bstr x10), .int .u64 (x11 : Int), .int .i64 (x12 : Int), .string (bstr x13), .string (bstr x14), .int .i64 (x15 : Int), .bool x16, .int .i64 (x17 : Int), .string (bstr x18), .int .i64 (x19 : Int), .int .i64 (x20 : Int)] := hd ⟨4, .data⟩ (by simp) rfl _ _ rfl rfl
      go_simp
      refine (oLayCmd_any [.int .i64 (x1 : Int), .int .i64 (x2 : Int), .int .u64 (x3 : Int), .int .u64 (x4 : Int), .int .i64 (x5 : Int), .string x6, .string x7, .string x8, .bool x9, .string x10, .int .u64 (x11 : Int), .int .i64 (x12 : Int), .string x13, .string x14, .int .i64 (x15 : Int), .bool x16, .int .i64 (x17 : Int), .string x18, .int .i64 (x19 : Int), .int .i64 (x20 : Int)] W F1.out).mono ?_
      rintro e wf ⟨rfl, hbf⟩
      exact hK _ _ hbf (congrArg (fun x => Value.string (bstr x)) EP1.out.symm)
    · intro a W K hb hold hd hK
      have t1 : a.tmps.getD 5 undef = .string (bstr P0) := hd ⟨2, .data⟩ (by simp) rfl _ _ rfl rfl
      have t2 : a.tmps.getD 8 undef = .string (bstr P1) := hd ⟨5, .data⟩ (by simp) rfl _ _ rfl rfl
      have lP0 := LP0.out
      have lP1 := LP1.out
      go_simp
      rw [if_neg (by omega)]
      go_simp
      exact hK _ _ (Below.refl _ _) rfl
    · intro a W K hb hold hd hK
      have t1 : a.tmps.getD 1 undef = .pointer (some ⟨w.heap.size, 0, none⟩) := hold 1 (by kernel_rfl)
      go_simp
      exact hK _ _ (Below.refl _ _) rfl
    · intro a W K hb hold hd hK
      have t1 : a.tmps.getD 10 undef = .pointer (some ⟨w.heap.size, 21, none⟩) := hd ⟨7, .data⟩ (by simp) rfl _ _ rfl rfl
      have c := cell_below hb C21.out
      go_simp
      exact hK _ _ (Below.refl _ _) rfl
    · intro a W K hb hold hd hK
      have t1 : a.tmps.getD 11 undef = .int .i64 x21 := hd ⟨8, .data⟩ (by simp) rfl _ _ rfl rfl
      go_simp
      refine (oSigned_any x21 W H21.out).mono ?_
      rintro e wf ⟨rfl, hbf⟩
      exact hK _ _ hbf (congrArg (fun x => Value.string (bstr x)) EP2.out.symm)
    · intro a W K hb hold hd hK
      have t1 : a.tmps.getD 9 undef = .string (bstr (P0 ++ P1)) := hd ⟨6, .data⟩ (by simp) rfl _ _ rfl rfl
      have t2 : a.tmps.getD 12 undef = .string (bstr P2) := hd ⟨9, .data⟩ (by simp) rfl _ _ rfl rfl
      have lP0 := LP0.out
      have lP1 := LP1.out
      have lP2 := LP2.out
      go_simp
      rw [if_neg (by omega)]
      go_simp
      exact hK _ _ (Below.refl _ _) rfl
    · intro a W K hb hold hd hK
      have t1 : a.tmps.getD 1 undef = .pointer (some ⟨w.heap.size, 0, none⟩) := hold 1 (by kernel_rfl)
      go_simp
      exact hK _ _ (Below.refl _ _) rfl
    · intro a W K hb hold hd hK
      have t1 : a.tmps.getD 14 undef = .pointer (some ⟨w.heap.size, 22, none⟩) := hd ⟨11, .data⟩ (by simp) rfl _ _ rfl rfl
      have c := cell_below hb C22.out
      go_simp
      exact hK _ _ (Below.refl _ _) rfl
    · intro a W K hb hold hd hK
      have t1 : a.tmps.getD 15 undef = .int .i64 x22 := hd ⟨12, .data⟩ (by simp) rfl _ _ rfl rfl
      go_simp
      refine (oSigned_any x22 W H22.out).mono ?_
      rintro e wf ⟨rfl, hbf⟩
      exact hK _ _ hbf (congrArg (fun x => Value.string (bstr x)) EP3.out.symm)
    · intro a W K hb hold hd hK
      have t1 : a.tmps.getD 13 undef = .string (bstr (P0 ++ (P1 ++ P2))) := hd ⟨10, .data⟩ (by simp) rfl _ _ rfl rfl
      have t2 : a.tmps.getD 16 undef = .string (bstr P3) := hd ⟨13, .data⟩ (by simp) rfl _ _ rfl rfl
      have lP0 := LP0.out
      have lP1 := LP1.out
      have lP2 := LP2.out
      have lP3 := LP3.out
      go_simp
      rw [if_neg (by omega)]
      go_simp
      exact hK _ _ (Below.refl _ _) rfl
    · intro a W K hb hold hd hK
      have t1 : a.tmps.getD 17 undef = .string (bstr (P0 ++ (P1 ++ (P2 ++ P3)))) := hd ⟨14, .data⟩ (by simp) rfl _ _ rfl rfl
      go_simp
      exact hK _ _ (Below.refl _ _) rfl
  · intro a' w' hb hdf hts hold hnew
    have t2 : a'.tmps.getD 2 undef = .string (bstr (layKs askK [.int .i64 (x0 : Int), .int .i64 (x1 : Int), .int .i64 (x2 : Int), .int .u64 (x3 : Int), .int .u64 (x4 : Int), .int .i64 (x5 : Int), .string x6, .string x7, .string x8, .bool x9, .string x10, .int .u64 (x11 : Int), .int .i64 (x12 : Int), .string x13, .string x14, .int .i64 (x15 : Int), .bool x16, .int .i64 (x17 : Int), .string x18, .int .i64 (x19 : Int), .int .i64 (x20 : Int), .int .i64 x21, .int .i64 x22])) := (hnew 15 _ 2 rfl rfl).trans (by rw [HL.out])
    obtain ⟨t, d⟩ := a'
    obtain rfl : d = [] := hdf
    simp only at t2
    clear hold hnew hts
    go_wp2
    go_ret
    exact ⟨congrArg Ending.returned t2, bel_call hb (bel_drew hb1)⟩

end Go.Proofs.YtbdbefgfejdbjaaGreat
