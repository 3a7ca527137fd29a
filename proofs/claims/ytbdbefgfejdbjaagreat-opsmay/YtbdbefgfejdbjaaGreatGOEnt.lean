/-
  Entry laid: written by mkolay.py.
  Entries in memory; entries laid as texts, how many first.
-/
import Derived.Test.YtbdbefgfejdbjaaGreatGOLayCmd
import Derived.Test.YtbdbefgfejdbjaaGreatGOLst
namespace Go.Proofs.YtbdbefgfejdbjaaGreat
open Go.RowKit Go.BigFrame
attribute [local go_sem] size_bstr toList_bstr append_bstr

set_option maxHeartbeats 8000000 in
set_option maxRecDepth 100000 in
theorem oLayEntry_any (vs0 : List Lit) (x23 : Value) (B23 : List UInt8) (w : World) (hf0 : fitKs entK vs0) (lB23 : B23.length ≤ 400000000) (hB23 : ∀ W : World, Below w.heap.size w W → Calls Tryz.prog 77 #[x23, .func (.func 78) #[] #[]] W fun e W' => e = .returned (.string (bstr B23)) ∧ Below W.heap.size W W') :
    Calls Tryz.prog 49 #[.agg (vs0.map Lit.toCell ++ ([x23])).toArray] w fun x w' => x = .returned (.string (bstr (layKs entK vs0 ++ (B23)))) ∧ Below w.heap.size w w' := by
  have g0 := hf0
  obtain ⟨v0, vs0, rfl, h0, g0⟩ := fit_cons g0
  obtain ⟨v1, vs0, rfl, h1, g0⟩ := fit_cons g0
  obtain ⟨v2, vs0, rfl, h2, g0⟩ := fit_cons g0
  obtain ⟨v3, vs0, rfl, h3, g0⟩ := fit_cons g0
  obtain ⟨v4, vs0, rfl, h4, g0⟩ := fit_cons g0
  obtain ⟨v5, vs0, rfl, h5, g0⟩ := fit_cons g0
  obtain ⟨v6, vs0, rfl, h6, g0⟩ := fit_cons g0
  obtain ⟨v7, vs0, rfl, h7, g0⟩ := fit_cons g0
  obtain ⟨v8, vs0, rfl, h8, g0⟩ := fit_cons g0
  obtain ⟨v9, vs0, rfl, h9, g0⟩ := fit_cons g0
  obtain ⟨v10, vs0, rfl, h10, g0⟩ := fit_cons g0
  obtain ⟨v11, vs0, rfl, h11, g0⟩ := fit_cons g0
  obtain ⟨v12, vs0, rfl, h12, g0⟩ := fit_cons g0
  obtain ⟨v13, vs0, rfl, h13, g0⟩ := fit_cons g0
  obtain ⟨v14, vs0, rfl, h14, g0⟩ := fit_cons g0
  obtain ⟨v15, vs0, rfl, h15, g0⟩ := fit_cons g0
  obtain ⟨v16, vs0, rfl, h16, g0⟩ := fit_cons g0
  obtain ⟨v17, vs0, rfl, h17, g0⟩ := fit_cons g0
  obtain ⟨v18, vs0, rfl, h18, g0⟩ := fit_cons g0
  obtain ⟨v19, vs0, rfl, h19, g0⟩ := fit_cons g0
  obtain ⟨v20, vs0, rfl, h20, g0⟩ := fit_cons g0
  obtain ⟨v21, vs0, rfl, h21, g0⟩ := fit_cons g0
  obtain ⟨v22, vs0, rfl, h22, g0⟩ := fit_cons g0
  obtain rfl := fit_nil g0
  clear g0
  obtain ⟨x0, rfl, h0⟩ := fitU h0
  obtain ⟨x1, rfl, h1⟩ := fitU h1
  obtain ⟨x2, rfl, h2⟩ := fitI h2
  obtain ⟨x3, rfl, h3⟩ := fitI h3
  obtain ⟨x4, rfl, h4⟩ := fitI h4
  obtain ⟨x5, rfl, h5⟩ := fitU h5
  obtain ⟨x6, rfl, h6⟩ := fitU h6
  obtain ⟨x7, rfl, h7⟩ := fitI h7
  obtain ⟨x8, rfl, h8⟩ := fitS h8
  obtain ⟨x9, rfl, h9⟩ := fitS h9
  obtain ⟨x10, rfl, h10⟩ := fitS h10
  obtain ⟨x11, rfl⟩ := fitB h11
  obtain ⟨x12, rfl, h12⟩ := fitS h12
  obtain ⟨x13, rfl, h13⟩ := fitU h13
  obtain ⟨x14, rfl, h14⟩ := fitI h14
  obtain ⟨x15, rfl, h15⟩ := fitS h15
  obtain ⟨x16, rfl, h16⟩ := fitS h16
  obtain ⟨x17, rfl, h17⟩ := fitI h17
  obtain ⟨x18, rfl⟩ := fitB h18
  obtain ⟨x19, rfl, h19⟩ := fitI h19
  obtain ⟨x20, rfl, h20⟩ := fitS h20
  obtain ⟨x21, rfl, h21⟩ := fitI h21
  obtain ⟨x22, rfl, h22⟩ := fitI h22
  have LB23 : Hid _ := lB23
  have HB23 : Hid _ := hB23
  have f3 : fitKs cmdK [.int .i64 (x3 : Int), .int .i64 (x4 : Int), .int .u64 (x5 : Int), .int .u64 (x6 : Int), .int .i64 (x7 : Int), .string x8, .string x9, .string x10, .bool x11, .string x12, .int .u64 (x13 : Int), .int .i64 (x14 : Int), .string x15, .string x16, .int .i64 (x17 : Int), .bool x18, .int .i64 (x19 : Int), .string x20, .int .i64 (x21 : Int), .int .i64 (x22 : Int)] := ⟨hf0.2.2.2.1, hf0.2.2.2.2.1, hf0.2.2.2.2.2.1, hf0.2.2.2.2.2.2.1, hf0.2.2.2.2.2.2.2.1, hf0.2.2.2.2.2.2.2.2.1, hf0.2.2.2.2.2.2.2.2.2.1, hf0.2.2.2.2.2.2.2.2.2.2.1, hf0.2.2.2.2.2.2.2.2.2.2.2.1, hf0.2.2.2.2.2.2.2.2.2.2.2.2.1, hf0.2.2.2.2.2.2.2.2.2.2.2.2.2.1, hf0.2.2.2.2.2.2.2.2.2.2.2.2.2.2.1, hf0.2.2.2.2.2.2.2.2.2.2.2.2.2.2.2.1, hf0.2.2.2.2.2.2.2.2.2.2.2.2.2.2.2.2.1, hf0.2.2.2.2.2.2.2.2.2.2.2.2.2.2.2.2.2.1, hf0.2.2.2.2.2.2.2.2.2.2.2.2.2.2.2.2.2.2.1, hf0.2.2.2.2.2.2.2.2.2.2.2.2.2.2.2.2.2.2.2.1, hf0.2.2.2.2.2.2.2.2.2.2.2.2.2.2.2.2.2.2.2.2.1, hf0.2.2.2.2.2.2.2.2.2.2.2.2.2.2.2.2.2.2.2.2.2.1, hf0.2.2.2.2.2.2.2.2.2.2.2.2.2.2.2.2.2.2.2.2.2.2.1, trivial⟩
  have F3 : Hid _ := f3
  obtain ⟨P0, eP0⟩ : ∃ x, x = nums [x0, x1, x2] := ⟨_, rfl⟩
  have lP0 : P0.length ≤ 1000 := by rw [eP0]; have := nums_len [x0, x1, x2] (by simp; omega); simp only [List.length_cons, List.length_nil] at this; omega
  obtain ⟨P1, eP1⟩ : ∃ x, x = layKs cmdK [.int .i64 (x3 : Int), .int .i64 (x4 : Int), .int .u64 (x5 : Int), .int .u64 (x6 : Int), .int .i64 (x7 : Int), .string x8, .string x9, .string x10, .bool x11, .string x12, .int .u64 (x13 : Int), .int .i64 (x14 : Int), .string x15, .string x16, .int .i64 (x17 : Int), .bool x18, .int .i64 (x19 : Int), .string x20, .int .i64 (x21 : Int), .int .i64 (x22 : Int)] := ⟨_, rfl⟩
  have lP1 : P1.length ≤ 40000000 := by rw [eP1]; have := layKs_len f3; simp only [List.length_cons, List.length_nil] at this; omega
  obtain ⟨P2, eP2⟩ : ∃ x, x = B23 := ⟨_, rfl⟩
  have lP2 : P2.length ≤ 400000000 := by rw [eP2]; exact lB23
  have hL : layKs entK [.int .u64 (x0 : Int), .int .u64 (x1 : Int), .int .i64 (x2 : Int), .int .i64 (x3 : Int), .int .i64 (x4 : Int), .int .u64 (x5 : Int), .int .u64 (x6 : Int), .int .i64 (x7 : Int), .string x8, .string x9, .string x10, .bool x11, .string x12, .int .u64 (x13 : Int), .int .i64 (x14 : Int), .string x15, .string x16, .int .i64 (x17 : Int), .bool x18, .int .i64 (x19 : Int), .string x20, .int .i64 (x21 : Int), .int .i64 (x22 : Int)] ++ (B23) = (P0 ++ (P1 ++ P2)) := by
    rw [eP0, eP1, eP2]
    simp [layKs, layK, nums]
  have HL : Hid _ := hL
  have EP0 : Hid _ := eP0
  have LP0 : Hid _ := lP0
  have EP1 : Hid _ := eP1
  have LP1 : Hid _ := lP1
  have EP2 : Hid _ := eP2
  have LP2 : Hid _ := lP2
  have H0 : Hid _ := h0
  have H1 : Hid _ := h1
  have HW2 : Hid (IntKind.u64.wrap (x2 : Int) = (x2 : Int)) := by show _ = _; rw [IntKind.wrap_u64]; omega
  have H2 : Hid _ := h2
  have HW3 : Hid (IntKind.u64.wrap (x3 : Int) = (x3 : Int)) := by show _ = _; rw [IntKind.wrap_u64]; omega
  have H3 : Hid _ := h3
  have HW4 : Hid (IntKind.u64.wrap (x4 : Int) = (x4 : Int)) := by show _ = _; rw [IntKind.wrap_u64]; omega
  have H4 : Hid _ := h4
  have H5 : Hid _ := h5
  have H6 : Hid _ := h6
  have HW7 : Hid (IntKind.u64.wrap (x7 : Int) = (x7 : Int)) := by show _ = _; rw [IntKind.wrap_u64]; omega
  have H7 : Hid _ := h7
  have H8 : Hid _ := h8
  have H9 : Hid _ := h9
  have H10 : Hid _ := h10
  have H12 : Hid _ := h12
  have H13 : Hid _ := h13
  have HW14 : Hid (IntKind.u64.wrap (x14 : Int) = (x14 : Int)) := by show _ = _; rw [IntKind.wrap_u64]; omega
  have H14 : Hid _ := h14
  have H15 : Hid _ := h15
  have H16 : Hid _ := h16
  have HW17 : Hid (IntKind.u64.wrap (x17 : Int) = (x17 : Int)) := by show _ = _; rw [IntKind.wrap_u64]; omega
  have H17 : Hid _ := h17
  have HW19 : Hid (IntKind.u64.wrap (x19 : Int) = (x19 : Int)) := by show _ = _; rw [IntKind.wrap_u64]; omega
  have H19 : Hid _ := h19
  have H20 : Hid _ := h20
  have HW21 : Hid (IntKind.u64.wrap (x21 : Int) = (x21 : Int)) := by show _ = _; rw [IntKind.wrap_u64]; omega
  have H21 : Hid _ := h21
  have HW22 : Hid (IntKind.u64.wrap (x22 : Int) = (x22 : Int)) := by show _ = _; rw [IntKind.wrap_u64]; omega
  have H22 : Hid _ := h22
  clear hf0 lB23 hB23 hL eP0 lP0 eP1 lP1 eP2 lP2 f3
  rw [show Value.agg (([.int .u64 (x0 : Int), .int .u64 (x1 : Int), .int .i64 (x2 : Int), .int .i64 (x3 : Int), .int .i64 (x4 : Int), .int .u64 (x5 : Int), .int .u64 (x6 : Int), .int .i64 (x7 : Int), .string x8, .string x9, .string x10, .bool x11, .string x12, .int .u64 (x13 : Int), .int .i64 (x14 : Int), .string x15, .string x16, .int .i64 (x17 : Int), .bool x18, .int .i64 (x19 : Int), .string x20, .int .i64 (x21 : Int), .int .i64 (x22 : Int)] : List Lit).map Lit.toCell ++ ([x23])).toArray = .agg #[.int .u64 (x0 : Int), .int .u64 (x1 : Int), .int .i64 (x2 : Int), .int .i64 (x3 : Int), .int .i64 (x4 : Int), .int .u64 (x5 : Int), .int .u64 (x6 : Int), .int .i64 (x7 : Int), .string (bstr x8), .string (bstr x9), .string (bstr x10), .bool x11, .string (bstr x12), .int .u64 (x13 : Int), .int .i64 (x14 : Int), .string (bstr x15), .string (bstr x16), .int .i64 (x17 : Int), .bool x18, .int .i64 (x19 : Int), .string (bstr x20), .int .i64 (x21 : Int), .int .i64 (x22 : Int), x23] from rfl]
  go_enter Tryz.func49, Tryz.ntmps49
  go_upto_region 1 with fail
  obtain ⟨w1, hw1⟩ : ∃ w1, w1 = w.alloc (.cells #[.int .u64 (x0 : Int), .int .u64 (x1 : Int), .int .i64 (x2 : Int), .int .i64 (x3 : Int), .int .i64 (x4 : Int), .int .u64 (x5 : Int), .int .u64 (x6 : Int), .int .i64 (x7 : Int), .string (bstr x8), .string (bstr x9), .string (bstr x10), .bool x11, .string (bstr x12), .int .u64 (x13 : Int), .int .i64 (x14 : Int), .string (bstr x15), .string (bstr x16), .int .i64 (x17 : Int), .bool x18, .int .i64 (x19 : Int), .string (bstr x20), .int .i64 (x21 : Int), .int .i64 (x22 : Int), x23] 38) := ⟨_, rfl⟩
  have hb1 : Below w.heap.size w w1 := by rw [hw1]; exact (Below.refl _ _).alloc (Nat.le_refl _) _
  have hc := (mcells (show w1.heap[w.heap.size]? = some (.cells #[.int .u64 (x0 : Int), .int .u64 (x1 : Int), .int .i64 (x2 : Int), .int .i64 (x3 : Int), .int .i64 (x4 : Int), .int .u64 (x5 : Int), .int .u64 (x6 : Int), .int .i64 (x7 : Int), .string (bstr x8), .string (bstr x9), .string (bstr x10), .bool x11, .string (bstr x12), .int .u64 (x13 : Int), .int .i64 (x14 : Int), .string (bstr x15), .string (bstr x16), .int .i64 (x17 : Int), .bool x18, .int .i64 (x19 : Int), .string (bstr x20), .int .i64 (x21 : Int), .int .i64 (x22 : Int), x23] 38 (0, 0)) by rw [hw1]; exact heap_alloc_new w _)).1
  have G3 : Hid (w1.rangeAt w.heap.size 3 [.int .i64 (x3 : Int), .int .i64 (x4 : Int), .int .u64 (x5 : Int), .int .u64 (x6 : Int), .int .i64 (x7 : Int), .string (bstr x8), .string (bstr x9), .string (bstr x10), .bool x11, .string (bstr x12), .int .u64 (x13 : Int), .int .i64 (x14 : Int), .string (bstr x15), .string (bstr x16), .int .i64 (x17 : Int), .bool x18, .int .i64 (x19 : Int), .string (bstr x20), .int .i64 (x21 : Int), .int .i64 (x22 : Int)]) := range_of_block (show w1.heap[w.heap.size]? = some (.cells #[.int .u64 (x0 : Int), .int .u64 (x1 : Int), .int .i64 (x2 : Int), .int .i64 (x3 : Int), .int .i64 (x4 : Int), .int .u64 (x5 : Int), .int .u64 (x6 : Int), .int .i64 (x7 : Int), .string (bstr x8), .string (bstr x9), .string (bstr x10), .bool x11, .string (bstr x12), .int .u64 (x13 : Int), .int .i64 (x14 : Int), .string (bstr x15), .string (bstr x16), .int .i64 (x17 : Int), .bool x18, .int .i64 (x19 : Int), .string (bstr x20), .int .i64 (x21 : Int), .int .i64 (x22 : Int), x23] 38 (0, 0)) by rw [hw1]; exact heap_alloc_new w _) [.int .u64 (x0 : Int), .int .u64 (x1 : Int), .int .i64 (x2 : Int)] [.int .i64 (x3 : Int), .int .i64 (x4 : Int), .int .u64 (x5 : Int), .int .u64 (x6 : Int), .int .i64 (x7 : Int), .string (bstr x8), .string (bstr x9), .string (bstr x10), .bool x11, .string (bstr x12), .int .u64 (x13 : Int), .int .i64 (x14 : Int), .string (bstr x15), .string (bstr x16), .int .i64 (x17 : Int), .bool x18, .int .i64 (x19 : Int), .string (bstr x20), .int .i64 (x21 : Int), .int .i64 (x22 : Int)] [x23] rfl
  have C0 : Hid (w1.cell? ⟨w.heap.size, 0, none⟩ = some (.int .u64 (x0 : Int))) := hc 0
  have C1 : Hid (w1.cell? ⟨w.heap.size, 1, none⟩ = some (.int .u64 (x1 : Int))) := hc 1
  have C2 : Hid (w1.cell? ⟨w.heap.size, 2, none⟩ = some (.int .i64 (x2 : Int))) := hc 2
  have C3 : Hid (w1.cell? ⟨w.heap.size, 3, none⟩ = some (.int .i64 (x3 : Int))) := hc 3
  have C4 : Hid (w1.cell? ⟨w.heap.size, 4, none⟩ = some (.int .i64 (x4 : Int))) := hc 4
  have C5 : Hid (w1.cell? ⟨w.heap.size, 5, none⟩ = some (.int .u64 (x5 : Int))) := hc 5
  have C6 : Hid (w1.cell? ⟨w.heap.size, 6, none⟩ = some (.int .u64 (x6 : Int))) := hc 6
  have C7 : Hid (w1.cell? ⟨w.heap.size, 7, none⟩ = some (.int .i64 (x7 : Int))) := hc 7
  have C8 : Hid (w1.cell? ⟨w.heap.size, 8, none⟩ = some (.string (bstr x8))) := hc 8
  have C9 : Hid (w1.cell? ⟨w.heap.size, 9, none⟩ = some (.string (bstr x9))) := hc 9
  have C10 : Hid (w1.cell? ⟨w.heap.size, 10, none⟩ = some (.string (bstr x10))) := hc 10
  have C11 : Hid (w1.cell? ⟨w.heap.size, 11, none⟩ = some (.bool x11)) := hc 11
  have C12 : Hid (w1.cell? ⟨w.heap.size, 12, none⟩ = some (.string (bstr x12))) := hc 12
  have C13 : Hid (w1.cell? ⟨w.heap.size, 13, none⟩ = some (.int .u64 (x13 : Int))) := hc 13
  have C14 : Hid (w1.cell? ⟨w.heap.size, 14, none⟩ = some (.int .i64 (x14 : Int))) := hc 14
  have C15 : Hid (w1.cell? ⟨w.heap.size, 15, none⟩ = some (.string (bstr x15))) := hc 15
  have C16 : Hid (w1.cell? ⟨w.heap.size, 16, none⟩ = some (.string (bstr x16))) := hc 16
  have C17 : Hid (w1.cell? ⟨w.heap.size, 17, none⟩ = some (.int .i64 (x17 : Int))) := hc 17
  have C18 : Hid (w1.cell? ⟨w.heap.size, 18, none⟩ = some (.bool x18)) := hc 18
  have C19 : Hid (w1.cell? ⟨w.heap.size, 19, none⟩ = some (.int .i64 (x19 : Int))) := hc 19
  have C20 : Hid (w1.cell? ⟨w.heap.size, 20, none⟩ = some (.string (bstr x20))) := hc 20
  have C21 : Hid (w1.cell? ⟨w.heap.size, 21, none⟩ = some (.int .i64 (x21 : Int))) := hc 21
  have C22 : Hid (w1.cell? ⟨w.heap.size, 22, none⟩ = some (.int .i64 (x22 : Int))) := hc 22
  have C23 : Hid (w1.cell? ⟨w.heap.size, 23, none⟩ = some (x23)) := hc 23
  rw [← hw1]
  clear hc hw1
  refine wp_grow (R := RS [eqV (.pointer (some ⟨w.heap.size, 0, none⟩)),
    eqV (.int .u64 (x0 : Int)),
    eqV (.pointer (some ⟨w.heap.size, 1, none⟩)),
    eqV (.int .u64 (x1 : Int)),
    eqV (.pointer (some ⟨w.heap.size, 2, none⟩)),
    eqV (.int .i64 (x2 : Int)),
    eqV (.int .u64 (x2 : Int)),
    slV [.int .u64 (x0 : Int), .int .u64 (x1 : Int), .int .u64 (x2 : Int)],
    eqV (.string (bstr P0)),
    eqV (.pointer (some ⟨w.heap.size, 3, none⟩)),
    eqV (.agg #[.int .i64 (x3 : Int), .int .i64 (x4 : Int), .int .u64 (x5 : Int), .int .u64 (x6 : Int), .int .i64 (x7 : Int), .string (bstr x8), .string (bstr x9), .string (bstr x10), .bool x11, .string (bstr x12), .int .u64 (x13 : Int), .int .i64 (x14 : Int), .string (bstr x15), .string (bstr x16), .int .i64 (x17 : Int), .bool x18, .int .i64 (x19 : Int), .string (bstr x20), .int .i64 (x21 : Int), .int .i64 (x22 : Int)]),
    eqV (.string (bstr P1)),
    eqV (.string (bstr (P0 ++ P1))),
    eqV (.pointer (some ⟨w.heap.size, 23, none⟩)),
    eqV (x23),
    eqV (.string (bstr P2)),
    eqV (.string (bstr (P0 ++ (P1 ++ P2)))),
    eqV (.string (bstr (P0 ++ (P1 ++ P2))))])
    (by kernel_rfl) (by kernel_rfl) (RS.below ?_) ?_ ?_
  · simp [lst_eqV, lst_slV]
  · refine ⟨?_, ?_, ?_, ?_, ?_, ?_, ?_, ?_, ?_, ?_, ?_, ?_, ?_, ?_, ?_, ?_, ?_, ?_, trivial⟩
    · intro a W K hb hold hd hK
      have t1 : a.tmps.getD 1 undef = .pointer (some ⟨w.heap.size, 0, none⟩) := hold 1 (by kernel_rfl)
      go_simp
      exact hK _ _ (Below.refl _ _) rfl
    · intro a W K hb hold hd hK
      have t1 : a.tmps.getD 3 undef = .pointer (some ⟨w.heap.size, 0, none⟩) := hd ⟨0, .data⟩ (by simp) rfl _ _ rfl rfl
      have c := cell_below hb C0.out
      go_simp
      exact hK _ _ (Below.refl _ _) rfl
    · intro a W K hb hold hd hK
      have t1 : a.tmps.getD 1 undef = .pointer (some ⟨w.heap.size, 0, none⟩) := hold 1 (by kernel_rfl)
      go_simp
      exact hK _ _ (Below.refl _ _) rfl
    · intro a W K hb hold hd hK
      have t1 : a.tmps.getD 5 undef = .pointer (some ⟨w.heap.size, 1, none⟩) := hd ⟨2, .data⟩ (by simp) rfl _ _ rfl rfl
      have c := cell_below hb C1.out
      go_simp
      exact hK _ _ (Below.refl _ _) rfl
    · intro a W K hb hold hd hK
      have t1 : a.tmps.getD 1 undef = .pointer (some ⟨w.heap.size, 0, none⟩) := hold 1 (by kernel_rfl)
      go_simp
      exact hK _ _ (Below.refl _ _) rfl
    · intro a W K hb hold hd hK
      have t1 : a.tmps.getD 7 undef = .pointer (some ⟨w.heap.size, 2, none⟩) := hd ⟨4, .data⟩ (by simp) rfl _ _ rfl rfl
      have c := cell_below hb C2.out
      go_simp
      exact hK _ _ (Below.refl _ _) rfl
    · intro a W K hb hold hd hK
      have t1 : a.tmps.getD 8 undef = .int .i64 (x2 : Int) := hd ⟨5, .data⟩ (by simp) rfl _ _ rfl rfl
      have hw := HW2.out
      go_simp
      exact hK _ _ (Below.refl _ _) rfl
    · intro a W K hb hold hd hK
      have t0 : a.tmps.getD 4 undef = .int .u64 (x0 : Int) := hd ⟨1, .data⟩ (by simp) rfl _ _ rfl rfl
      have t1 : a.tmps.getD 6 undef = .int .u64 (x1 : Int) := hd ⟨3, .data⟩ (by simp) rfl _ _ rfl rfl
      have t2 : a.tmps.getD 9 undef = .int .u64 (x2 : Int) := hd ⟨6, .data⟩ (by simp) rfl _ _ rfl rfl
      rw [Array.getD_eq_getD_getElem?] at t0 t1 t2
      go_simp
      exact hK _ _ ((Below.refl _ _).alloc (Nat.le_refl _) _) (sl_newL _ [.int .u64 (x0 : Int), .int .u64 (x1 : Int), .int .u64 (x2 : Int)] _)
    · intro a W K hb hold hd hK
      obtain ⟨b, t1, hbb, hc⟩ : slV [.int .u64 (x0 : Int), .int .u64 (x1 : Int), .int .u64 (x2 : Int)] (a.tmps.getD 10 undef) W := hd ⟨7, .data⟩ (by simp) rfl _ _ rfl rfl
      go_simp
      refine (jNumsV [x0, x1, x2] _ W ⟨b, rfl, hbb, hc⟩ (by simp) (by simp; omega)).mono ?_
      rintro e wf ⟨rfl, hbf⟩
      exact hK _ _ hbf (congrArg (fun x => Value.string (bstr x)) EP0.out.symm)
    · intro a W K hb hold hd hK
      have t1 : a.tmps.getD 1 undef = .pointer (some ⟨w.heap.size, 0, none⟩) := hold 1 (by kernel_rfl)
      go_simp
      exact hK _ _ (Below.refl _ _) rfl
    · intro a W K hb hold hd hK
      have t1 : a.tmps.getD 12 undef = .pointer (some ⟨w.heap.size, 3, none⟩) := hd ⟨9, .data⟩ (by simp) rfl _ _ rfl rfl
      exact wp_load_mid 28 _ rfl w.heap.size 3 t1 [.int .i64 (x3 : Int), .int .i64 (x4 : Int), .int .u64 (x5 : Int), .int .u64 (x6 : Int), .int .i64 (x7 : Int), .string (bstr x8), .string (bstr x9), .string (bstr x10), .bool x11, .string (bstr x12), .int .u64 (x13 : Int), .int .i64 (x14 : Int), .string (bstr x15), .string (bstr x16), .int .i64 (x17 : Int), .bool x18, .int .i64 (x19 : Int), .string (bstr x20), .int .i64 (x21 : Int), .int .i64 (x22 : Int)] _ (range_below hb G3.out) Tryz.underlying28 rfl (by kernel_rfl) (hK _ _ (Below.refl _ _) rfl)
    · intro a W K hb hold hd hK
      have t1 : a.tmps.getD 13 undef = .agg #[.int .i64 (x3 : Int), .int .i64 (x4 : Int), .int .u64 (x5 : Int), .int .u64 (x6 : Int), .int .i64 (x7 : Int), .string (bstr x8), .string (bstr x9), .string (bstr x10), .bool x11, .string (bstr x12), .int .u64 (x13 : Int), .int .i64 (x14 : Int), .string (bstr x15), .string (bstr x16), .int .i64 (x17 : Int), .bool x18, .int .i64 (x19 : Int), .string (bstr x20), .int .i64 (x21 : Int), .int .i64 (x22 : Int)] := hd ⟨10, .data⟩ (by simp) rfl _ _ rfl rfl
      go_simp
      refine (oLayCmd_any [.int .i64 (x3 : Int), .int .i64 (x4 : Int), .int .u64 (x5 : Int), .int .u64 (x6 : Int), .int .i64 (x7 : Int), .string x8, .string x9, .string x10, .bool x11, .string x12, .int .u64 (x13 : Int), .int .i64 (x14 : Int), .string x15, .string x16, .int .i64 (x17 : Int), .bool x18, .int .i64 (x19 : Int), .string x20, .int .i64 (x21 : Int), .int .i64 (x22 : Int)] W F3.out).mono ?_
      rintro e wf ⟨rfl, hbf⟩
      exact hK _ _ hbf (congrArg (fun x => Value.string (bstr x)) EP1.out.symm)
    · intro a W K hb hold hd hK
      have t1 : a.tmps.getD 11 undef = .string (bstr P0) := hd ⟨8, .data⟩ (by simp) rfl _ _ rfl rfl
      have t2 : a.tmps.getD 14 undef = .string (bstr P1) := hd ⟨11, .data⟩ (by simp) rfl _ _ rfl rfl
      have lP0 := LP0.out
      have lP1 := LP1.out
      go_simp
      rw [if_neg (by omega)]
      go_simp
      exact hK _ _ (Below.refl _ _) rfl
    · intro a W K hb hold hd hK
      have t1 : a.tmps.getD 1 undef = .pointer (some ⟨w.heap.size, 0, none⟩) := hold 1 (by kernel_rfl)
      go_simp
      exact hK _ _ (Below.refl _ _) rfl
    · intro a W K hb hold hd hK
      have t1 : a.tmps.getD 16 undef = .pointer (some ⟨w.heap.size, 23, none⟩) := hd ⟨13, .data⟩ (by simp) rfl _ _ rfl rfl
      have c := cell_below hb C23.out
      go_simp
      exact hK _ _ (Below.refl _ _) rfl
    · intro a W K hb hold hd hK
      have t1 : a.tmps.getD 17 undef = x23 := hd ⟨14, .data⟩ (by simp) rfl _ _ rfl rfl
      go_simp
      refine (HB23.out W (bel_call hb (bel_drew hb1))).mono ?_
      rintro e wf ⟨rfl, hbf⟩
      exact hK _ _ hbf (congrArg (fun x => Value.string (bstr x)) EP2.out.symm)
    · intro a W K hb hold hd hK
      have t1 : a.tmps.getD 15 undef = .string (bstr (P0 ++ P1)) := hd ⟨12, .data⟩ (by simp) rfl _ _ rfl rfl
      have t2 : a.tmps.getD 18 undef = .string (bstr P2) := hd ⟨15, .data⟩ (by simp) rfl _ _ rfl rfl
      have lP0 := LP0.out
      have lP1 := LP1.out
      have lP2 := LP2.out
      go_simp
      rw [if_neg (by omega)]
      go_simp
      exact hK _ _ (Below.refl _ _) rfl
    · intro a W K hb hold hd hK
      have t1 : a.tmps.getD 19 undef = .string (bstr (P0 ++ (P1 ++ P2))) := hd ⟨16, .data⟩ (by simp) rfl _ _ rfl rfl
      go_simp
      exact hK _ _ (Below.refl _ _) rfl
  · intro a' w' hb hdf hts hold hnew
    have t2 : a'.tmps.getD 2 undef = .string (bstr (layKs entK [.int .u64 (x0 : Int), .int .u64 (x1 : Int), .int .i64 (x2 : Int), .int .i64 (x3 : Int), .int .i64 (x4 : Int), .int .u64 (x5 : Int), .int .u64 (x6 : Int), .int .i64 (x7 : Int), .string x8, .string x9, .string x10, .bool x11, .string x12, .int .u64 (x13 : Int), .int .i64 (x14 : Int), .string x15, .string x16, .int .i64 (x17 : Int), .bool x18, .int .i64 (x19 : Int), .string x20, .int .i64 (x21 : Int), .int .i64 (x22 : Int)] ++ (B23))) := (hnew 17 _ 2 rfl rfl).trans (by rw [HL.out])
    obtain ⟨t, d⟩ := a'
    obtain rfl : d = [] := hdf
    simp only at t2
    clear hold hnew hts
    go_wp2
    go_ret
    exact ⟨congrArg Ending.returned t2, bel_call hb (bel_drew hb1)⟩

end Go.Proofs.YtbdbefgfejdbjaaGreat

namespace Go.Proofs.YtbdbefgfejdbjaaGreat
open Go.RowKit Go.BigFrame
attribute [local go_sem] size_bstr toList_bstr append_bstr

/-- An entry: its fields but for the members, these; where its members lie. -/
structure En where
  hd : List Lit
  mem : List Int
  q : Option Addr
  cap : Nat
def enC (e : En) : List Value := e.hd.map Lit.toCell ++ [.slice e.q e.mem.length e.cap]
abbrev enV (e : En) : Value := .agg (enC e).toArray
def layE (hd : List Lit) (mem : List Int) : List UInt8 := layKs entK hd ++ layMem mem
def fitM (l : List Int) : Prop := l.length ≤ 5 ∧ ∀ x ∈ l, 0 ≤ x ∧ x ≤ 2147483647
def fitE (e : En) : Prop := fitKs entK e.hd ∧ fitM e.mem ∧ (layE e.hd e.mem).length ≤ 1048576
theorem fitKs_length : ∀ {ks : List Fk} {vs : List Lit}, fitKs ks vs → vs.length = ks.length
  | [], [], _ => rfl
  | _ :: ks, _ :: vs, h => by
    have := fitKs_length h.2
    simp only [List.length_cons, this]
  | [], _ :: _, h => h.elim
  | _ :: _, [], h => h.elim
theorem enC_len {e : En} (h : e.hd.length = 23) : (enC e).length = 24 := by
  unfold enC
  simp [h]
theorem layMem_len {l : List Int} (h : fitM l) : (layMem l).length ≤ 60 := by
  rw [layMem_eq, List.length_append]
  have := lm_len l h.2
  have := Lib.uvarint_length64 (x := l.length) (by have := h.1; omega)
  have := h.1
  omega
theorem enC_one (e : En) : (enC e).toArray.all (·.oneCell') = true := all_oneCell_toArray fun v hv => by
  unfold enC at hv
  rw [List.mem_append, List.mem_map, List.mem_singleton] at hv
  rcases hv with ⟨x, _, rfl⟩ | rfl
  · cases x <;> rfl
  · rfl
/-- Entries that lie in a block; as a slice. -/
def EArg (w : World) (q : Option Addr) (l : List En) : Prop := 0 < l.length → ∃ b off, q = some ⟨b, off, none⟩ ∧ ∀ i (h : i < l.length), w.rangeAt b (off + i * 24) (enC l[i]) ∧ IArg w l[i].q l[i].mem
theorem EArg.below {w w' : World} {q : Option Addr} {l : List En} (h : EArg w q l) (hb : Below w.heap.size w w') : EArg w' q l := fun h0 => by
  obtain ⟨b, off, hq, hr⟩ := h h0
  exact ⟨b, off, hq, fun i hi => ⟨range_below hb (hr i hi).1, (hr i hi).2.below hb⟩⟩

set_option maxHeartbeats 4000000 in
set_option maxRecDepth 100000 in
theorem oEnt1_any (e : En) (w : World) (hf : fitE e) (hm : IArg w e.q e.mem) :
    Calls Tryz.prog 87 #[enV e] w fun x w' => x = .returned (.string (bstr (txt (layE e.hd e.mem)))) ∧ Below w.heap.size w w' := by
  have hlen := enC_len (fitKs_length hf.1)
  have hi : (Tryz.prog.info? 38).map (·.size) = some (enC e).length := by rw [hlen]; kernel_rfl
  obtain ⟨w1, hw1⟩ : ∃ w1, w1 = w.alloc (.cells (enC e).toArray 38) := ⟨_, rfl⟩
  have hb1 : Below w.heap.size w w1 := by rw [hw1]; exact (Below.refl _ _).alloc (Nat.le_refl _) _
  have hr : w1.rangeAt w.heap.size 0 (enC e) := range_of_block (show w1.heap[w.heap.size]? = some (.cells (enC e).toArray 38 (0, 0)) by rw [hw1]; exact heap_alloc_new w _) [] (enC e) [] (by simp)
  have hm1 := hm.below hb1
  have HF : Hid _ := hf
  obtain ⟨L, hL⟩ : ∃ L, L = layE e.hd e.mem := ⟨_, rfl⟩
  have HL : Hid _ := hL
  have lL : L.length ≤ 1048576 := by rw [hL]; exact hf.2.2
  have LL : Hid _ := lL
  rw [← hL]
  clear hL hf lL
  go_enter Tryz.func87, Tryz.ntmps87
  go_upto_region 1 with fail
  rw [← hw1]
  clear hw1
  go_wp2_with (first | refine wpList_load_mid rfl 38 _ rfl w.heap.size 0 rfl (enC e) _ hr Tryz.underlying38 rfl hi ?_ | fail)
  refine (oLayEntry_any e.hd (.slice e.q e.mem.length e.cap) (layMem e.mem) w1 HF.out.1 (by have := layMem_len HF.out.2.1; omega) (fun W hb => oLayMem_any e.q e.cap e.mem W (hm1.below hb) (by have := HF.out.2.1.1; omega) HF.out.2.1.2)).mono ?_
  rintro x w2 ⟨rfl, hb2⟩
  rw [show layKs entK e.hd ++ layMem e.mem = L from HL.out.symm]
  have hs := slV_new1 w2 (.string (bstr L)) 9
  have hB2 := bel_call hb2 hb1
  clear hb1 hb2 hr hm1 hm HF HL
  go_wp2_with fail
  refine (jTxtsV [L] _ _ hs (by simp) (by have := LL.out; simp; omega)).mono ?_
  rintro x w3 ⟨rfl, hb3⟩
  go_wp2
  go_ret
  exact ⟨by simp [txts], bel_call hb3 (bel_alloc hB2)⟩

end Go.Proofs.YtbdbefgfejdbjaaGreat
