/-
  Told laid: written by mkolay.py.
  Msg laid: written by mkolay.py.
-/
import Derived.Test.YtbdbefgfejdbjaaGreatOLay0
import Derived.Test.YtbdbefgfejdbjaaGreatOLayBase
import Derived.Test.YtbdbefgfejdbjaaGreatOLayReq
import Derived.Test.YtbdbefgfejdbjaaGreatGOLayRep
import Derived.Test.YtbdbefgfejdbjaaGreatOLayAsk
namespace Go.Proofs.YtbdbefgfejdbjaaGreat
open Go.RowKit Go.BigFrame
attribute [local go_sem] size_bstr toList_bstr append_bstr

set_option maxHeartbeats 8000000 in
set_option maxRecDepth 100000 in
theorem oLayTold_any (vs : List Lit) (w : World) (h : fitKs toldK vs) :
    Calls Tryz.prog 93 #[litsV vs] w fun x w' => x = .returned (.string (bstr (layKs toldK vs))) ∧ Below w.heap.size w w' := by
  have hf := h
  obtain ⟨v0, vs, rfl, h0, h⟩ := fit_cons h
  obtain ⟨v1, vs, rfl, h1, h⟩ := fit_cons h
  obtain ⟨v2, vs, rfl, h2, h⟩ := fit_cons h
  obtain ⟨v3, vs, rfl, h3, h⟩ := fit_cons h
  obtain ⟨v4, vs, rfl, h4, h⟩ := fit_cons h
  obtain rfl := fit_nil h
  obtain ⟨x0, rfl, h0⟩ := fitI h0
  obtain ⟨x1, rfl, h1⟩ := fitU h1
  obtain ⟨x2, rfl, h2⟩ := fitI h2
  obtain ⟨x3, rfl, h3⟩ := fitI h3
  obtain ⟨x4, rfl, h4⟩ := fitG h4
  clear h
  obtain ⟨P0, eP0⟩ : ∃ x, x = nums [x0, x1, x2, x3] := ⟨_, rfl⟩
  have lP0 : P0.length ≤ 1000 := by rw [eP0]; have := nums_len [x0, x1, x2, x3] (by simp; omega); simp only [List.length_cons, List.length_nil] at this; omega
  obtain ⟨P1, eP1⟩ : ∃ x, x = Lib.uvarint (zig x4) := ⟨_, rfl⟩
  have lP1 : P1.length ≤ 1000 := by rw [eP1]; have := Lib.uvarint_length64 (x := zig x4) (by omega); omega
  have hL : layKs toldK [.int .i64 (x0 : Int), .int .u64 (x1 : Int), .int .i64 (x2 : Int), .int .i64 (x3 : Int), .int .i64 x4] = (P0 ++ P1) := by
    rw [eP0, eP1]
    simp [layKs, layK, nums]
  have HL : Hid _ := hL
  have EP0 : Hid _ := eP0
  have LP0 : Hid _ := lP0
  have EP1 : Hid _ := eP1
  have LP1 : Hid _ := lP1
  have HW0 : Hid (IntKind.u64.wrap (x0 : Int) = (x0 : Int)) := by show _ = _; rw [IntKind.wrap_u64]; omega
  have H0 : Hid _ := h0
  have H1 : Hid _ := h1
  have HW2 : Hid (IntKind.u64.wrap (x2 : Int) = (x2 : Int)) := by show _ = _; rw [IntKind.wrap_u64]; omega
  have H2 : Hid _ := h2
  have HW3 : Hid (IntKind.u64.wrap (x3 : Int) = (x3 : Int)) := by show _ = _; rw [IntKind.wrap_u64]; omega
  have H3 : Hid _ := h3
  have H4 : Hid _ := h4
  clear hf hL eP0 lP0 eP1 lP1 
  rw [show litsV [.int .i64 (x0 : Int), .int .u64 (x1 : Int), .int .i64 (x2 : Int), .int .i64 (x3 : Int), .int .i64 x4] = .agg #[.int .i64 (x0 : Int), .int .u64 (x1 : Int), .int .i64 (x2 : Int), .int .i64 (x3 : Int), .int .i64 x4] from rfl]
  go_enter Tryz.func93, Tryz.ntmps93
  go_upto_region 1 with fail
  obtain ⟨w1, hw1⟩ : ∃ w1, w1 = w.alloc (.cells #[.int .i64 (x0 : Int), .int .u64 (x1 : Int), .int .i64 (x2 : Int), .int .i64 (x3 : Int), .int .i64 x4] 59) := ⟨_, rfl⟩
  have hb1 : Below w.heap.size w w1 := by rw [hw1]; exact (Below.refl _ _).alloc (Nat.le_refl _) _
  have hc := (mcells (show w1.heap[w.heap.size]? = some (.cells #[.int .i64 (x0 : Int), .int .u64 (x1 : Int), .int .i64 (x2 : Int), .int .i64 (x3 : Int), .int .i64 x4] 59 (0, 0)) by rw [hw1]; exact heap_alloc_new w _)).1
  have C0 : Hid (w1.cell? ⟨w.heap.size, 0, none⟩ = some (.int .i64 (x0 : Int))) := hc 0
  have C1 : Hid (w1.cell? ⟨w.heap.size, 1, none⟩ = some (.int .u64 (x1 : Int))) := hc 1
  have C2 : Hid (w1.cell? ⟨w.heap.size, 2, none⟩ = some (.int .i64 (x2 : Int))) := hc 2
  have C3 : Hid (w1.cell? ⟨w.heap.size, 3, none⟩ = some (.int .i64 (x3 : Int))) := hc 3
  have C4 : Hid (w1.cell? ⟨w.heap.size, 4, none⟩ = some (.int .i64 x4)) := hc 4
  rw [← hw1]
  clear hc hw1
  refine wp_grow (R := RS [eqV (.pointer (some ⟨w.heap.size, 0, none⟩)),
    eqV (.int .i64 (x0 : Int)),
    eqV (.int .u64 (x0 : Int)),
    eqV (.pointer (some ⟨w.heap.size, 1, none⟩)),
    eqV (.int .u64 (x1 : Int)),
    eqV (.pointer (some ⟨w.heap.size, 2, none⟩)),
    eqV (.int .i64 (x2 : Int)),
    eqV (.int .u64 (x2 : Int)),
    eqV (.pointer (some ⟨w.heap.size, 3, none⟩)),
    eqV (.int .i64 (x3 : Int)),
    eqV (.int .u64 (x3 : Int)),
    slV [.int .u64 (x0 : Int), .int .u64 (x1 : Int), .int .u64 (x2 : Int), .int .u64 (x3 : Int)],
    eqV (.string (bstr P0)),
    eqV (.pointer (some ⟨w.heap.size, 4, none⟩)),
    eqV (.int .i64 x4),
    eqV (.string (bstr P1)),
    eqV (.string (bstr (P0 ++ P1))),
    eqV (.string (bstr (P0 ++ P1)))])
    (by kernel_rfl) (by kernel_rfl) (RS.below ?_) ?_ ?_
  · simp [lst_eqV, lst_slV]
  · refine ⟨?_, ?_, ?_, ?_, ?_, ?_, ?_, ?_, ?_, ?_, ?_, ?_, ?_, ?_, ?_, ?_, ?_, ?_, trivial⟩
    · intro a W K hb hold hd hK
      have t1 : a.tmps.getD 1 undef = .pointer (some ⟨w.heap.size, 0, none⟩) := hold 1 (by kernel_rfl)
      go_simp
      exact hK _ _ (Below.refl _ _) rfl
    · intro a W K hb hold hd hK
      have t1 : a.tmps.getD 3 undef = .pointer (some ⟨w.heap.size, 0, none⟩) := hd ⟨0, .data⟩ (by simp) rfl _ _ rfl rfl
      have c := cell_below hb C0.out
      go_simp
      exact hK _ _ (Below.refl _ _) rfl
    · intro a W K hb hold hd hK
      have t1 : a.tmps.getD 4 undef = .int .i64 (x0 : Int) := hd ⟨1, .data⟩ (by simp) rfl _ _ rfl rfl
      have hw := HW0.out
      go_simp
      exact hK _ _ (Below.refl _ _) rfl
    · intro a W K hb hold hd hK
      have t1 : a.tmps.getD 1 undef = .pointer (some ⟨w.heap.size, 0, none⟩) := hold 1 (by kernel_rfl)
      go_simp
      exact hK _ _ (Below.refl _ _) rfl
    · intro a W K hb hold hd hK
      have t1 : a.tmps.getD 6 undef = .pointer (some ⟨w.heap.size, 1, none⟩) := hd ⟨3, .data⟩ (by simp) rfl _ _ rfl rfl
      have c := cell_below hb C1.out
      go_simp
      exact hK _ _ (Below.refl _ _) rfl
    · intro a W K hb hold hd hK
      have t1 : a.tmps.getD 1 undef = .pointer (some ⟨w.heap.size, 0, none⟩) := hold 1 (by kernel_rfl)
      go_simp
      exact hK _ _ (Below.refl _ _) rfl
    · intro a W K hb hold hd hK
      have t1 : a.tmps.getD 8 undef = .pointer (some ⟨w.heap.size, 2, none⟩) := hd ⟨5, .data⟩ (by simp) rfl _ _ rfl rfl
      have c := cell_below hb C2.out
      go_simp
      exact hK _ _ (Below.refl _ _) rfl
    · intro a W K hb hold hd hK
      have t1 : a.tmps.getD 9 undef = .int .i64 (x2 : Int) := hd ⟨6, .data⟩ (by simp) rfl _ _ rfl rfl
      have hw := HW2.out
      go_simp
      exact hK _ _ (Below.refl _ _) rfl
    · intro a W K hb hold hd hK
      have t1 : a.tmps.getD 1 undef = .pointer (some ⟨w.heap.size, 0, none⟩) := hold 1 (by kernel_rfl)
      go_simp
      exact hK _ _ (Below.refl _ _) rfl
    · intro a W K hb hold hd hK
      have t1 : a.tmps.getD 11 undef = .pointer (some ⟨w.heap.size, 3, none⟩) := hd ⟨8, .data⟩ (by simp) rfl _ _ rfl rfl
      have c := cell_below hb C3.out
      go_simp
      exact hK _ _ (Below.refl _ _) rfl
    · intro a W K hb hold hd hK
      have t1 : a.tmps.getD 12 undef = .int .i64 (x3 : Int) := hd ⟨9, .data⟩ (by simp) rfl _ _ rfl rfl
      have hw := HW3.out
      go_simp
      exact hK _ _ (Below.refl _ _) rfl
    · intro a W K hb hold hd hK
      have t0 : a.tmps.getD 5 undef = .int .u64 (x0 : Int) := hd ⟨2, .data⟩ (by simp) rfl _ _ rfl rfl
      have t1 : a.tmps.getD 7 undef = .int .u64 (x1 : Int) := hd ⟨4, .data⟩ (by simp) rfl _ _ rfl rfl
      have t2 : a.tmps.getD 10 undef = .int .u64 (x2 : Int) := hd ⟨7, .data⟩ (by simp) rfl _ _ rfl rfl
      have t3 : a.tmps.getD 13 undef = .int .u64 (x3 : Int) := hd ⟨10, .data⟩ (by simp) rfl _ _ rfl rfl
      rw [Array.getD_eq_getD_getElem?] at t0 t1 t2 t3
      go_simp
      exact hK _ _ ((Below.refl _ _).alloc (Nat.le_refl _) _) (sl_newL _ [.int .u64 (x0 : Int), .int .u64 (x1 : Int), .int .u64 (x2 : Int), .int .u64 (x3 : Int)] _)
    · intro a W K hb hold hd hK
      obtain ⟨b, t1, hbb, hc⟩ : slV [.int .u64 (x0 : Int), .int .u64 (x1 : Int), .int .u64 (x2 : Int), .int .u64 (x3 : Int)] (a.tmps.getD 14 undef) W := hd ⟨11, .data⟩ (by simp) rfl _ _ rfl rfl
      go_simp
      refine (jNumsV [x0, x1, x2, x3] _ W ⟨b, rfl, hbb, hc⟩ (by simp) (by simp; omega)).mono ?_
      rintro e wf ⟨rfl, hbf⟩
      exact hK _ _ hbf (congrArg (fun x => Value.string (bstr x)) EP0.out.symm)
    · intro a W K hb hold hd hK
      have t1 : a.tmps.getD 1 undef = .pointer (some ⟨w.heap.size, 0, none⟩) := hold 1 (by kernel_rfl)
      go_simp
      exact hK _ _ (Below.refl _ _) rfl
    · intro a W K hb hold hd hK
      have t1 : a.tmps.getD 16 undef = .pointer (some ⟨w.heap.size, 4, none⟩) := hd ⟨13, .data⟩ (by simp) rfl _ _ rfl rfl
      have c := cell_below hb C4.out
      go_simp
      exact hK _ _ (Below.refl _ _) rfl
    · intro a W K hb hold hd hK
      have t1 : a.tmps.getD 17 undef = .int .i64 x4 := hd ⟨14, .data⟩ (by simp) rfl _ _ rfl rfl
      go_simp
      refine (oSigned_any x4 W H4.out).mono ?_
      rintro e wf ⟨rfl, hbf⟩
      exact hK _ _ hbf (congrArg (fun x => Value.string (bstr x)) EP1.out.symm)
    · intro a W K hb hold hd hK
      have t1 : a.tmps.getD 15 undef = .string (bstr P0) := hd ⟨12, .data⟩ (by simp) rfl _ _ rfl rfl
      have t2 : a.tmps.getD 18 undef = .string (bstr P1) := hd ⟨15, .data⟩ (by simp) rfl _ _ rfl rfl
      have lP0 := LP0.out
      have lP1 := LP1.out
      go_simp
      rw [if_neg (by omega)]
      go_simp
      exact hK _ _ (Below.refl _ _) rfl
    · intro a W K hb hold hd hK
      have t1 : a.tmps.getD 19 undef = .string (bstr (P0 ++ P1)) := hd ⟨16, .data⟩ (by simp) rfl _ _ rfl rfl
      go_simp
      exact hK _ _ (Below.refl _ _) rfl
  · intro a' w' hb hdf hts hold hnew
    have t2 : a'.tmps.getD 2 undef = .string (bstr (layKs toldK [.int .i64 (x0 : Int), .int .u64 (x1 : Int), .int .i64 (x2 : Int), .int .i64 (x3 : Int), .int .i64 x4])) := (hnew 17 _ 2 rfl rfl).trans (by rw [HL.out])
    obtain ⟨t, d⟩ := a'
    obtain rfl : d = [] := hdf
    simp only at t2
    clear hold hnew hts
    go_wp2
    go_ret
    exact ⟨congrArg Ending.returned t2, bel_call hb (bel_drew hb1)⟩

end Go.Proofs.YtbdbefgfejdbjaaGreat

namespace Go.Proofs.YtbdbefgfejdbjaaGreat
open Go.RowKit Go.BigFrame
attribute [local go_sem] size_bstr toList_bstr append_bstr

set_option maxHeartbeats 8000000 in
set_option maxRecDepth 100000 in
theorem oLayMsg_any (vs0 : List Lit) (vs1 : List Lit) (vs2 : List Lit) (x7 : Value) (B7 : List UInt8) (x10 : Value) (B10 : List UInt8) (w : World) (hf0 : fitKs msgK vs0) (hf1 : fitKs baseK vs1) (hf2 : fitKs tailK vs2) (lB7 : B7.length ≤ 400000000) (hB7 : ∀ W : World, Below w.heap.size w W → Calls Tryz.prog 88 #[x7, .func (.func 87) #[] #[]] W fun e W' => e = .returned (.string (bstr B7)) ∧ Below W.heap.size W W') (lB10 : B10.length ≤ 400000000) (hB10 : ∀ W : World, Below w.heap.size w W → Calls Tryz.prog 77 #[x10, .func (.func 78) #[] #[]] W fun e W' => e = .returned (.string (bstr B10)) ∧ Below W.heap.size W W') :
    Calls Tryz.prog 58 #[.agg (vs0.map Lit.toCell ++ ([x7] ++ (vs1.map Lit.toCell ++ ([x10] ++ (vs2.map Lit.toCell))))).toArray] w fun x w' => x = .returned (.string (bstr (layKs msgK vs0 ++ (B7 ++ (layKs baseK vs1 ++ (B10 ++ (layKs tailK vs2))))))) ∧ Below w.heap.size w w' := by
  have g0 := hf0
  obtain ⟨v0, vs0, rfl, h0, g0⟩ := fit_cons g0
  obtain ⟨v1, vs0, rfl, h1, g0⟩ := fit_cons g0
  obtain ⟨v2, vs0, rfl, h2, g0⟩ := fit_cons g0
  obtain ⟨v3, vs0, rfl, h3, g0⟩ := fit_cons g0
  obtain ⟨v4, vs0, rfl, h4, g0⟩ := fit_cons g0
  obtain ⟨v5, vs0, rfl, h5, g0⟩ := fit_cons g0
  obtain ⟨v6, vs0, rfl, h6, g0⟩ := fit_cons g0
  obtain rfl := fit_nil g0
  clear g0
  obtain ⟨x0, rfl, h0⟩ := fitI h0
  obtain ⟨x1, rfl, h1⟩ := fitI h1
  obtain ⟨x2, rfl, h2⟩ := fitU h2
  obtain ⟨x3, rfl, h3⟩ := fitU h3
  obtain ⟨x4, rfl, h4⟩ := fitU h4
  obtain ⟨x5, rfl, h5⟩ := fitU h5
  obtain ⟨x6, rfl⟩ := fitB h6
  have g1 := hf1
  obtain ⟨v8, vs1, rfl, h8, g1⟩ := fit_cons g1
  obtain ⟨v9, vs1, rfl, h9, g1⟩ := fit_cons g1
  obtain rfl := fit_nil g1
  clear g1
  obtain ⟨x8, rfl, h8⟩ := fitU h8
  obtain ⟨x9, rfl, h9⟩ := fitU h9
  have g2 := hf2
  obtain ⟨v11, vs2, rfl, h11, g2⟩ := fit_cons g2
  obtain ⟨v12, vs2, rfl, h12, g2⟩ := fit_cons g2
  obtain ⟨v13, vs2, rfl, h13, g2⟩ := fit_cons g2
  obtain ⟨v14, vs2, rfl, h14, g2⟩ := fit_cons g2
  obtain ⟨v15, vs2, rfl, h15, g2⟩ := fit_cons g2
  obtain ⟨v16, vs2, rfl, h16, g2⟩ := fit_cons g2
  obtain ⟨v17, vs2, rfl, h17, g2⟩ := fit_cons g2
  obtain ⟨v18, vs2, rfl, h18, g2⟩ := fit_cons g2
  obtain ⟨v19, vs2, rfl, h19, g2⟩ := fit_cons g2
  obtain ⟨v20, vs2, rfl, h20, g2⟩ := fit_cons g2
  obtain ⟨v21, vs2, rfl, h21, g2⟩ := fit_cons g2
  obtain ⟨v22, vs2, rfl, h22, g2⟩ := fit_cons g2
  obtain ⟨v23, vs2, rfl, h23, g2⟩ := fit_cons g2
  obtain ⟨v24, vs2, rfl, h24, g2⟩ := fit_cons g2
  obtain ⟨v25, vs2, rfl, h25, g2⟩ := fit_cons g2
  obtain ⟨v26, vs2, rfl, h26, g2⟩ := fit_cons g2
  obtain ⟨v27, vs2, rfl, h27, g2⟩ := fit_cons g2
  obtain ⟨v28, vs2, rfl, h28, g2⟩ := fit_cons g2
  obtain ⟨v29, vs2, rfl, h29, g2⟩ := fit_cons g2
  obtain ⟨v30, vs2, rfl, h30, g2⟩ := fit_cons g2
  obtain ⟨v31, vs2, rfl, h31, g2⟩ := fit_cons g2
  obtain ⟨v32, vs2, rfl, h32, g2⟩ := fit_cons g2
  obtain ⟨v33, vs2, rfl, h33, g2⟩ := fit_cons g2
  obtain ⟨v34, vs2, rfl, h34, g2⟩ := fit_cons g2
  obtain ⟨v35, vs2, rfl, h35, g2⟩ := fit_cons g2
  obtain ⟨v36, vs2, rfl, h36, g2⟩ := fit_cons g2
  obtain ⟨v37, vs2, rfl, h37, g2⟩ := fit_cons g2
  obtain ⟨v38, vs2, rfl, h38, g2⟩ := fit_cons g2
  obtain ⟨v39, vs2, rfl, h39, g2⟩ := fit_cons g2
  obtain ⟨v40, vs2, rfl, h40, g2⟩ := fit_cons g2
  obtain ⟨v41, vs2, rfl, h41, g2⟩ := fit_cons g2
  obtain ⟨v42, vs2, rfl, h42, g2⟩ := fit_cons g2
  obtain ⟨v43, vs2, rfl, h43, g2⟩ := fit_cons g2
  obtain ⟨v44, vs2, rfl, h44, g2⟩ := fit_cons g2
  obtain ⟨v45, vs2, rfl, h45, g2⟩ := fit_cons g2
  obtain ⟨v46, vs2, rfl, h46, g2⟩ := fit_cons g2
  obtain ⟨v47, vs2, rfl, h47, g2⟩ := fit_cons g2
  obtain ⟨v48, vs2, rfl, h48, g2⟩ := fit_cons g2
  obtain ⟨v49, vs2, rfl, h49, g2⟩ := fit_cons g2
  obtain ⟨v50, vs2, rfl, h50, g2⟩ := fit_cons g2
  obtain ⟨v51, vs2, rfl, h51, g2⟩ := fit_cons g2
  obtain ⟨v52, vs2, rfl, h52, g2⟩ := fit_cons g2
  obtain ⟨v53, vs2, rfl, h53, g2⟩ := fit_cons g2
  obtain ⟨v54, vs2, rfl, h54, g2⟩ := fit_cons g2
  obtain ⟨v55, vs2, rfl, h55, g2⟩ := fit_cons g2
  obtain ⟨v56, vs2, rfl, h56, g2⟩ := fit_cons g2
  obtain ⟨v57, vs2, rfl, h57, g2⟩ := fit_cons g2
  obtain rfl := fit_nil g2
  clear g2
  obtain ⟨x11, rfl, h11⟩ := fitS h11
  obtain ⟨x12, rfl, h12⟩ := fitI h12
  obtain ⟨x13, rfl, h13⟩ := fitU h13
  obtain ⟨x14, rfl, h14⟩ := fitI h14
  obtain ⟨x15, rfl, h15⟩ := fitU h15
  obtain ⟨x16, rfl, h16⟩ := fitI h16
  obtain ⟨x17, rfl, h17⟩ := fitS h17
  obtain ⟨x18, rfl, h18⟩ := fitS h18
  obtain ⟨x19, rfl, h19⟩ := fitS h19
  obtain ⟨x20, rfl⟩ := fitB h20
  obtain ⟨x21, rfl, h21⟩ := fitS h21
  obtain ⟨x22, rfl, h22⟩ := fitI h22
  obtain ⟨x23, rfl, h23⟩ := fitU h23
  obtain ⟨x24, rfl, h24⟩ := fitI h24
  obtain ⟨x25, rfl⟩ := fitB h25
  obtain ⟨x26, rfl, h26⟩ := fitS h26
  obtain ⟨x27, rfl, h27⟩ := fitS h27
  obtain ⟨x28, rfl, h28⟩ := fitU h28
  obtain ⟨x29, rfl, h29⟩ := fitG h29
  obtain ⟨x30, rfl, h30⟩ := fitI h30
  obtain ⟨x31, rfl, h31⟩ := fitI h31
  obtain ⟨x32, rfl, h32⟩ := fitI h32
  obtain ⟨x33, rfl, h33⟩ := fitU h33
  obtain ⟨x34, rfl, h34⟩ := fitU h34
  obtain ⟨x35, rfl, h35⟩ := fitI h35
  obtain ⟨x36, rfl, h36⟩ := fitS h36
  obtain ⟨x37, rfl, h37⟩ := fitS h37
  obtain ⟨x38, rfl, h38⟩ := fitS h38
  obtain ⟨x39, rfl⟩ := fitB h39
  obtain ⟨x40, rfl, h40⟩ := fitS h40
  obtain ⟨x41, rfl, h41⟩ := fitU h41
  obtain ⟨x42, rfl, h42⟩ := fitI h42
  obtain ⟨x43, rfl, h43⟩ := fitS h43
  obtain ⟨x44, rfl, h44⟩ := fitS h44
  obtain ⟨x45, rfl, h45⟩ := fitI h45
  obtain ⟨x46, rfl⟩ := fitB h46
  obtain ⟨x47, rfl, h47⟩ := fitI h47
  obtain ⟨x48, rfl, h48⟩ := fitS h48
  obtain ⟨x49, rfl, h49⟩ := fitI h49
  obtain ⟨x50, rfl, h50⟩ := fitI h50
  obtain ⟨x51, rfl, h51⟩ := fitG h51
  obtain ⟨x52, rfl, h52⟩ := fitG h52
  obtain ⟨x53, rfl, h53⟩ := fitI h53
  obtain ⟨x54, rfl, h54⟩ := fitU h54
  obtain ⟨x55, rfl, h55⟩ := fitI h55
  obtain ⟨x56, rfl, h56⟩ := fitI h56
  obtain ⟨x57, rfl, h57⟩ := fitG h57
  have LB7 : Hid _ := lB7
  have HB7 : Hid _ := hB7
  have LB10 : Hid _ := lB10
  have HB10 : Hid _ := hB10
  have f8 : fitKs baseK [.int .u64 (x8 : Int), .int .u64 (x9 : Int)] := hf1
  have F8 : Hid _ := f8
  have f12 : fitKs reqK [.int .i64 (x12 : Int), .int .u64 (x13 : Int), .int .i64 (x14 : Int), .int .u64 (x15 : Int), .int .i64 (x16 : Int), .string x17, .string x18, .string x19, .bool x20, .string x21] := ⟨hf2.2.1, hf2.2.2.1, hf2.2.2.2.1, hf2.2.2.2.2.1, hf2.2.2.2.2.2.1, hf2.2.2.2.2.2.2.1, hf2.2.2.2.2.2.2.2.1, hf2.2.2.2.2.2.2.2.2.1, hf2.2.2.2.2.2.2.2.2.2.1, hf2.2.2.2.2.2.2.2.2.2.2.1, trivial⟩
  have F12 : Hid _ := f12
  have f22 : fitKs repK [.int .i64 (x22 : Int), .int .u64 (x23 : Int), .int .i64 (x24 : Int), .bool x25, .string x26, .string x27, .int .u64 (x28 : Int), .int .i64 x29] := ⟨hf2.2.2.2.2.2.2.2.2.2.2.2.1, hf2.2.2.2.2.2.2.2.2.2.2.2.2.1, hf2.2.2.2.2.2.2.2.2.2.2.2.2.2.1, hf2.2.2.2.2.2.2.2.2.2.2.2.2.2.2.1, hf2.2.2.2.2.2.2.2.2.2.2.2.2.2.2.2.1, hf2.2.2.2.2.2.2.2.2.2.2.2.2.2.2.2.2.1, hf2.2.2.2.2.2.2.2.2.2.2.2.2.2.2.2.2.2.1, hf2.2.2.2.2.2.2.2.2.2.2.2.2.2.2.2.2.2.2.1, trivial⟩
  have F22 : Hid _ := f22
  have f30 : fitKs askK [.int .i64 (x30 : Int), .int .i64 (x31 : Int), .int .i64 (x32 : Int), .int .u64 (x33 : Int), .int .u64 (x34 : Int), .int .i64 (x35 : Int), .string x36, .string x37, .string x38, .bool x39, .string x40, .int .u64 (x41 : Int), .int .i64 (x42 : Int), .string x43, .string x44, .int .i64 (x45 : Int), .bool x46, .int .i64 (x47 : Int), .string x48, .int .i64 (x49 : Int), .int .i64 (x50 : Int), .int .i64 x51, .int .i64 x52] := ⟨hf2.2.2.2.2.2.2.2.2.2.2.2.2.2.2.2.2.2.2.2.1, hf2.2.2.2.2.2.2.2.2.2.2.2.2.2.2.2.2.2.2.2.2.1, hf2.2.2.2.2.2.2.2.2.2.2.2.2.2.2.2.2.2.2.2.2.2.1, hf2.2.2.2.2.2.2.2.2.2.2.2.2.2.2.2.2.2.2.2.2.2.2.1, hf2.2.2.2.2.2.2.2.2.2.2.2.2.2.2.2.2.2.2.2.2.2.2.2.1, hf2.2.2.2.2.2.2.2.2.2.2.2.2.2.2.2.2.2.2.2.2.2.2.2.2.1, hf2.2.2.2.2.2.2.2.2.2.2.2.2.2.2.2.2.2.2.2.2.2.2.2.2.2.1, hf2.2.2.2.2.2.2.2.2.2.2.2.2.2.2.2.2.2.2.2.2.2.2.2.2.2.2.1, hf2.2.2.2.2.2.2.2.2.2.2.2.2.2.2.2.2.2.2.2.2.2.2.2.2.2.2.2.1, hf2.2.2.2.2.2.2.2.2.2.2.2.2.2.2.2.2.2.2.2.2.2.2.2.2.2.2.2.2.1, hf2.2.2.2.2.2.2.2.2.2.2.2.2.2.2.2.2.2.2.2.2.2.2.2.2.2.2.2.2.2.1, hf2.2.2.2.2.2.2.2.2.2.2.2.2.2.2.2.2.2.2.2.2.2.2.2.2.2.2.2.2.2.2.1, hf2.2.2.2.2.2.2.2.2.2.2.2.2.2.2.2.2.2.2.2.2.2.2.2.2.2.2.2.2.2.2.2.1, hf2.2.2.2.2.2.2.2.2.2.2.2.2.2.2.2.2.2.2.2.2.2.2.2.2.2.2.2.2.2.2.2.2.1, hf2.2.2.2.2.2.2.2.2.2.2.2.2.2.2.2.2.2.2.2.2.2.2.2.2.2.2.2.2.2.2.2.2.2.1, hf2.2.2.2.2.2.2.2.2.2.2.2.2.2.2.2.2.2.2.2.2.2.2.2.2.2.2.2.2.2.2.2.2.2.2.1, hf2.2.2.2.2.2.2.2.2.2.2.2.2.2.2.2.2.2.2.2.2.2.2.2.2.2.2.2.2.2.2.2.2.2.2.2.1, hf2.2.2.2.2.2.2.2.2.2.2.2.2.2.2.2.2.2.2.2.2.2.2.2.2.2.2.2.2.2.2.2.2.2.2.2.2.1, hf2.2.2.2.2.2.2.2.2.2.2.2.2.2.2.2.2.2.2.2.2.2.2.2.2.2.2.2.2.2.2.2.2.2.2.2.2.2.1, hf2.2.2.2.2.2.2.2.2.2.2.2.2.2.2.2.2.2.2.2.2.2.2.2.2.2.2.2.2.2.2.2.2.2.2.2.2.2.2.1, hf2.2.2.2.2.2.2.2.2.2.2.2.2.2.2.2.2.2.2.2.2.2.2.2.2.2.2.2.2.2.2.2.2.2.2.2.2.2.2.2.1, hf2.2.2.2.2.2.2.2.2.2.2.2.2.2.2.2.2.2.2.2.2.2.2.2.2.2.2.2.2.2.2.2.2.2.2.2.2.2.2.2.2.1, hf2.2.2.2.2.2.2.2.2.2.2.2.2.2.2.2.2.2.2.2.2.2.2.2.2.2.2.2.2.2.2.2.2.2.2.2.2.2.2.2.2.2.1, trivial⟩
  have F30 : Hid _ := f30
  have f53 : fitKs toldK [.int .i64 (x53 : Int), .int .u64 (x54 : Int), .int .i64 (x55 : Int), .int .i64 (x56 : Int), .int .i64 x57] := ⟨hf2.2.2.2.2.2.2.2.2.2.2.2.2.2.2.2.2.2.2.2.2.2.2.2.2.2.2.2.2.2.2.2.2.2.2.2.2.2.2.2.2.2.2.1, hf2.2.2.2.2.2.2.2.2.2.2.2.2.2.2.2.2.2.2.2.2.2.2.2.2.2.2.2.2.2.2.2.2.2.2.2.2.2.2.2.2.2.2.2.1, hf2.2.2.2.2.2.2.2.2.2.2.2.2.2.2.2.2.2.2.2.2.2.2.2.2.2.2.2.2.2.2.2.2.2.2.2.2.2.2.2.2.2.2.2.2.1, hf2.2.2.2.2.2.2.2.2.2.2.2.2.2.2.2.2.2.2.2.2.2.2.2.2.2.2.2.2.2.2.2.2.2.2.2.2.2.2.2.2.2.2.2.2.2.1, hf2.2.2.2.2.2.2.2.2.2.2.2.2.2.2.2.2.2.2.2.2.2.2.2.2.2.2.2.2.2.2.2.2.2.2.2.2.2.2.2.2.2.2.2.2.2.2.1, trivial⟩
  have F53 : Hid _ := f53
  obtain ⟨P0, eP0⟩ : ∃ x, x = nums [x0, x1, x2, x3, x4, x5] := ⟨_, rfl⟩
  have lP0 : P0.length ≤ 1000 := by rw [eP0]; have := nums_len [x0, x1, x2, x3, x4, x5] (by simp; omega); simp only [List.length_cons, List.length_nil] at this; omega
  obtain ⟨P1, eP1⟩ : ∃ x, x = bol x6 := ⟨_, rfl⟩
  have lP1 : P1.length ≤ 1000 := by rw [eP1]; cases x6 <;> decide
  obtain ⟨P2, eP2⟩ : ∃ x, x = B7 := ⟨_, rfl⟩
  have lP2 : P2.length ≤ 400000000 := by rw [eP2]; exact lB7
  obtain ⟨P3, eP3⟩ : ∃ x, x = layKs baseK [.int .u64 (x8 : Int), .int .u64 (x9 : Int)] ++ B10 := ⟨_, rfl⟩
  have lP3 : P3.length ≤ 500000000 := by rw [eP3, List.length_append]; have := layKs_len f8; simp only [List.length_cons, List.length_nil] at this; omega
  obtain ⟨P4, eP4⟩ : ∃ x, x = txts [x11] := ⟨_, rfl⟩
  have lP4 : P4.length ≤ 30000000 := by rw [eP4]; have := txts_len [x11] 1048576 (by omega) (by simp; omega); simp only [List.length_cons, List.length_nil] at this; omega
  obtain ⟨P5, eP5⟩ : ∃ x, x = layKs reqK [.int .i64 (x12 : Int), .int .u64 (x13 : Int), .int .i64 (x14 : Int), .int .u64 (x15 : Int), .int .i64 (x16 : Int), .string x17, .string x18, .string x19, .bool x20, .string x21] := ⟨_, rfl⟩
  have lP5 : P5.length ≤ 40000000 := by rw [eP5]; have := layKs_len f12; simp only [List.length_cons, List.length_nil] at this; omega
  obtain ⟨P6, eP6⟩ : ∃ x, x = layKs repK [.int .i64 (x22 : Int), .int .u64 (x23 : Int), .int .i64 (x24 : Int), .bool x25, .string x26, .string x27, .int .u64 (x28 : Int), .int .i64 x29] := ⟨_, rfl⟩
  have lP6 : P6.length ≤ 40000000 := by rw [eP6]; have := layKs_len f22; simp only [List.length_cons, List.length_nil] at this; omega
  obtain ⟨P7, eP7⟩ : ∃ x, x = layKs askK [.int .i64 (x30 : Int), .int .i64 (x31 : Int), .int .i64 (x32 : Int), .int .u64 (x33 : Int), .int .u64 (x34 : Int), .int .i64 (x35 : Int), .string x36, .string x37, .string x38, .bool x39, .string x40, .int .u64 (x41 : Int), .int .i64 (x42 : Int), .string x43, .string x44, .int .i64 (x45 : Int), .bool x46, .int .i64 (x47 : Int), .string x48, .int .i64 (x49 : Int), .int .i64 (x50 : Int), .int .i64 x51, .int .i64 x52] := ⟨_, rfl⟩
  have lP7 : P7.length ≤ 40000000 := by rw [eP7]; have := layKs_len f30; simp only [List.length_cons, List.length_nil] at this; omega
  obtain ⟨P8, eP8⟩ : ∃ x, x = layKs toldK [.int .i64 (x53 : Int), .int .u64 (x54 : Int), .int .i64 (x55 : Int), .int .i64 (x56 : Int), .int .i64 x57] := ⟨_, rfl⟩
  have lP8 : P8.length ≤ 40000000 := by rw [eP8]; have := layKs_len f53; simp only [List.length_cons, List.length_nil] at this; omega
  have hL : layKs msgK [.int .i64 (x0 : Int), .int .i64 (x1 : Int), .int .u64 (x2 : Int), .int .u64 (x3 : Int), .int .u64 (x4 : Int), .int .u64 (x5 : Int), .bool x6] ++ (B7 ++ (layKs baseK [.int .u64 (x8 : Int), .int .u64 (x9 : Int)] ++ (B10 ++ (layKs tailK [.string x11, .int .i64 (x12 : Int), .int .u64 (x13 : Int), .int .i64 (x14 : Int), .int .u64 (x15 : Int), .int .i64 (x16 : Int), .string x17, .string x18, .string x19, .bool x20, .string x21, .int .i64 (x22 : Int), .int .u64 (x23 : Int), .int .i64 (x24 : Int), .bool x25, .string x26, .string x27, .int .u64 (x28 : Int), .int .i64 x29, .int .i64 (x30 : Int), .int .i64 (x31 : Int), .int .i64 (x32 : Int), .int .u64 (x33 : Int), .int .u64 (x34 : Int), .int .i64 (x35 : Int), .string x36, .string x37, .string x38, .bool x39, .string x40, .int .u64 (x41 : Int), .int .i64 (x42 : Int), .string x43, .string x44, .int .i64 (x45 : Int), .bool x46, .int .i64 (x47 : Int), .string x48, .int .i64 (x49 : Int), .int .i64 (x50 : Int), .int .i64 x51, .int .i64 x52, .int .i64 (x53 : Int), .int .u64 (x54 : Int), .int .i64 (x55 : Int), .int .i64 (x56 : Int), .int .i64 x57])))) = (P0 ++ (P1 ++ (P2 ++ (P3 ++ (P4 ++ (P5 ++ (P6 ++ (P7 ++ P8)))))))) := by
    rw [eP0, eP1, eP2, eP3, eP4, eP5, eP6, eP7, eP8]
    simp [layKs, layK, nums, txts]
  have HL : Hid _ := hL
  have EP0 : Hid _ := eP0
  have LP0 : Hid _ := lP0
  have EP1 : Hid _ := eP1
  have LP1 : Hid _ := lP1
  have EP2 : Hid _ := eP2
  have LP2 : Hid _ := lP2
  have EP3 : Hid _ := eP3
  have LP3 : Hid _ := lP3
  have EP4 : Hid _ := eP4
  have LP4 : Hid _ := lP4
  have EP5 : Hid _ := eP5
  have LP5 : Hid _ := lP5
  have EP6 : Hid _ := eP6
  have LP6 : Hid _ := lP6
  have EP7 : Hid _ := eP7
  have LP7 : Hid _ := lP7
  have EP8 : Hid _ := eP8
  have LP8 : Hid _ := lP8
  have HW0 : Hid (IntKind.u64.wrap (x0 : Int) = (x0 : Int)) := by show _ = _; rw [IntKind.wrap_u64]; omega
  have H0 : Hid _ := h0
  have HW1 : Hid (IntKind.u64.wrap (x1 : Int) = (x1 : Int)) := by show _ = _; rw [IntKind.wrap_u64]; omega
  have H1 : Hid _ := h1
  have H2 : Hid _ := h2
  have H3 : Hid _ := h3
  have H4 : Hid _ := h4
  have H5 : Hid _ := h5
  have H8 : Hid _ := h8
  have H9 : Hid _ := h9
  have H11 : Hid _ := h11
  have HW12 : Hid (IntKind.u64.wrap (x12 : Int) = (x12 : Int)) := by show _ = _; rw [IntKind.wrap_u64]; omega
  have H12 : Hid _ := h12
  have H13 : Hid _ := h13
  have HW14 : Hid (IntKind.u64.wrap (x14 : Int) = (x14 : Int)) := by show _ = _; rw [IntKind.wrap_u64]; omega
  have H14 : Hid _ := h14
  have H15 : Hid _ := h15
  have HW16 : Hid (IntKind.u64.wrap (x16 : Int) = (x16 : Int)) := by show _ = _; rw [IntKind.wrap_u64]; omega
  have H16 : Hid _ := h16
  have H17 : Hid _ := h17
  have H18 : Hid _ := h18
  have H19 : Hid _ := h19
  have H21 : Hid _ := h21
  have HW22 : Hid (IntKind.u64.wrap (x22 : Int) = (x22 : Int)) := by show _ = _; rw [IntKind.wrap_u64]; omega
  have H22 : Hid _ := h22
  have H23 : Hid _ := h23
  have HW24 : Hid (IntKind.u64.wrap (x24 : Int) = (x24 : Int)) := by show _ = _; rw [IntKind.wrap_u64]; omega
  have H24 : Hid _ := h24
  have H26 : Hid _ := h26
  have H27 : Hid _ := h27
  have H28 : Hid _ := h28
  have H29 : Hid _ := h29
  have HW30 : Hid (IntKind.u64.wrap (x30 : Int) = (x30 : Int)) := by show _ = _; rw [IntKind.wrap_u64]; omega
  have H30 : Hid _ := h30
  have HW31 : Hid (IntKind.u64.wrap (x31 : Int) = (x31 : Int)) := by show _ = _; rw [IntKind.wrap_u64]; omega
  have H31 : Hid _ := h31
  have HW32 : Hid (IntKind.u64.wrap (x32 : Int) = (x32 : Int)) := by show _ = _; rw [IntKind.wrap_u64]; omega
  have H32 : Hid _ := h32
  have H33 : Hid _ := h33
  have H34 : Hid _ := h34
  have HW35 : Hid (IntKind.u64.wrap (x35 : Int) = (x35 : Int)) := by show _ = _; rw [IntKind.wrap_u64]; omega
  have H35 : Hid _ := h35
  have H36 : Hid _ := h36
  have H37 : Hid _ := h37
  have H38 : Hid _ := h38
  have H40 : Hid _ := h40
  have H41 : Hid _ := h41
  have HW42 : Hid (IntKind.u64.wrap (x42 : Int) = (x42 : Int)) := by show _ = _; rw [IntKind.wrap_u64]; omega
  have H42 : Hid _ := h42
  have H43 : Hid _ := h43
  have H44 : Hid _ := h44
  have HW45 : Hid (IntKind.u64.wrap (x45 : Int) = (x45 : Int)) := by show _ = _; rw [IntKind.wrap_u64]; omega
  have H45 : Hid _ := h45
  have HW47 : Hid (IntKind.u64.wrap (x47 : Int) = (x47 : Int)) := by show _ = _; rw [IntKind.wrap_u64]; omega
  have H47 : Hid _ := h47
  have H48 : Hid _ := h48
  have HW49 : Hid (IntKind.u64.wrap (x49 : Int) = (x49 : Int)) := by show _ = _; rw [IntKind.wrap_u64]; omega
  have H49 : Hid _ := h49
  have HW50 : Hid (IntKind.u64.wrap (x50 : Int) = (x50 : Int)) := by show _ = _; rw [IntKind.wrap_u64]; omega
  have H50 : Hid _ := h50
  have H51 : Hid _ := h51
  have H52 : Hid _ := h52
  have HW53 : Hid (IntKind.u64.wrap (x53 : Int) = (x53 : Int)) := by show _ = _; rw [IntKind.wrap_u64]; omega
  have H53 : Hid _ := h53
  have H54 : Hid _ := h54
  have HW55 : Hid (IntKind.u64.wrap (x55 : Int) = (x55 : Int)) := by show _ = _; rw [IntKind.wrap_u64]; omega
  have H55 : Hid _ := h55
  have HW56 : Hid (IntKind.u64.wrap (x56 : Int) = (x56 : Int)) := by show _ = _; rw [IntKind.wrap_u64]; omega
  have H56 : Hid _ := h56
  have H57 : Hid _ := h57
  clear hf0 hf1 hf2 lB7 hB7 lB10 hB10 hL eP0 lP0 eP1 lP1 eP2 lP2 eP3 lP3 eP4 lP4 eP5 lP5 eP6 lP6 eP7 lP7 eP8 lP8 f8 f12 f22 f30 f53
  rw [show Value.agg (([.int .i64 (x0 : Int), .int .i64 (x1 : Int), .int .u64 (x2 : Int), .int .u64 (x3 : Int), .int .u64 (x4 : Int), .int .u64 (x5 : Int), .bool x6] : List Lit).map Lit.toCell ++ ([x7] ++ (([.int .u64 (x8 : Int), .int .u64 (x9 : Int)] : List Lit).map Lit.toCell ++ ([x10] ++ (([.string x11, .int .i64 (x12 : Int), .int .u64 (x13 : Int), .int .i64 (x14 : Int), .int .u64 (x15 : Int), .int .i64 (x16 : Int), .string x17, .string x18, .string x19, .bool x20, .string x21, .int .i64 (x22 : Int), .int .u64 (x23 : Int), .int .i64 (x24 : Int), .bool x25, .string x26, .string x27, .int .u64 (x28 : Int), .int .i64 x29, .int .i64 (x30 : Int), .int .i64 (x31 : Int), .int .i64 (x32 : Int), .int .u64 (x33 : Int), .int .u64 (x34 : Int), .int .i64 (x35 : Int), .string x36, .string x37, .string x38, .bool x39, .string x40, .int .u64 (x41 : Int), .int .i64 (x42 : Int), .string x43, .string x44, .int .i64 (x45 : Int), .bool x46, .int .i64 (x47 : Int), .string x48, .int .i64 (x49 : Int), .int .i64 (x50 : Int), .int .i64 x51, .int .i64 x52, .int .i64 (x53 : Int), .int .u64 (x54 : Int), .int .i64 (x55 : Int), .int .i64 (x56 : Int), .int .i64 x57] : List Lit).map Lit.toCell))))).toArray = .agg #[.int .i64 (x0 : Int), .int .i64 (x1 : Int), .int .u64 (x2 : Int), .int .u64 (x3 : Int), .int .u64 (x4 : Int), .int .u64 (x5 : Int), .bool x6, x7, .int .u64 (x8 : Int), .int .u64 (x9 : Int), x10, .string (bstr x11), .int .i64 (x12 : Int), .int .u64 (x13 : Int), .int .i64 (x14 : Int), .int .u64 (x15 : Int), .int .i64 (x16 : Int), .string (bstr x17), .string (bstr x18), .string (bstr x19), .bool x20, .string (bstr x21), .int .i64 (x22 : Int), .int .u64 (x23 : Int), .int .i64 (x24 : Int), .bool x25, .string (bstr x26), .string (bstr x27), .int .u64 (x28 : Int), .int .i64 x29, .int .i64 (x30 : Int), .int .i64 (x31 : Int), .int .i64 (x32 : Int), .int .u64 (x33 : Int), .int .u64 (x34 : Int), .int .i64 (x35 : Int), .string (bstr x36), .string (bstr x37), .string (bstr x38), .bool x39, .string (bstr x40), .int .u64 (x41 : Int), .int .i64 (x42 : Int), .string (bstr x43), .string (bstr x44), .int .i64 (x45 : Int), .bool x46, .int .i64 (x47 : Int), .string (bstr x48), .int .i64 (x49 : Int), .int .i64 (x50 : Int), .int .i64 x51, .int .i64 x52, .int .i64 (x53 : Int), .int .u64 (x54 : Int), .int .i64 (x55 : Int), .int .i64 (x56 : Int), .int .i64 x57] from rfl]
  go_enter Tryz.func58, Tryz.ntmps58
  go_upto_region 2 with fail
  obtain ⟨w1, hw1⟩ : ∃ w1, w1 = w.alloc (.cells #[.int .i64 (x0 : Int), .int .i64 (x1 : Int), .int .u64 (x2 : Int), .int .u64 (x3 : Int), .int .u64 (x4 : Int), .int .u64 (x5 : Int), .bool x6, x7, .int .u64 (x8 : Int), .int .u64 (x9 : Int), x10, .string (bstr x11), .int .i64 (x12 : Int), .int .u64 (x13 : Int), .int .i64 (x14 : Int), .int .u64 (x15 : Int), .int .i64 (x16 : Int), .string (bstr x17), .string (bstr x18), .string (bstr x19), .bool x20, .string (bstr x21), .int .i64 (x22 : Int), .int .u64 (x23 : Int), .int .i64 (x24 : Int), .bool x25, .string (bstr x26), .string (bstr x27), .int .u64 (x28 : Int), .int .i64 x29, .int .i64 (x30 : Int), .int .i64 (x31 : Int), .int .i64 (x32 : Int), .int .u64 (x33 : Int), .int .u64 (x34 : Int), .int .i64 (x35 : Int), .string (bstr x36), .string (bstr x37), .string (bstr x38), .bool x39, .string (bstr x40), .int .u64 (x41 : Int), .int .i64 (x42 : Int), .string (bstr x43), .string (bstr x44), .int .i64 (x45 : Int), .bool x46, .int .i64 (x47 : Int), .string (bstr x48), .int .i64 (x49 : Int), .int .i64 (x50 : Int), .int .i64 x51, .int .i64 x52, .int .i64 (x53 : Int), .int .u64 (x54 : Int), .int .i64 (x55 : Int), .int .i64 (x56 : Int), .int .i64 x57] 61) := ⟨_, rfl⟩
  have hb1 : Below w.heap.size w w1 := by rw [hw1]; exact (Below.refl _ _).alloc (Nat.le_refl _) _
  have hc := (mcells (show w1.heap[w.heap.size]? = some (.cells #[.int .i64 (x0 : Int), .int .i64 (x1 : Int), .int .u64 (x2 : Int), .int .u64 (x3 : Int), .int .u64 (x4 : Int), .int .u64 (x5 : Int), .bool x6, x7, .int .u64 (x8 : Int), .int .u64 (x9 : Int), x10, .string (bstr x11), .int .i64 (x12 : Int), .int .u64 (x13 : Int), .int .i64 (x14 : Int), .int .u64 (x15 : Int), .int .i64 (x16 : Int), .string (bstr x17), .string (bstr x18), .string (bstr x19), .bool x20, .string (bstr x21), .int .i64 (x22 : Int), .int .u64 (x23 : Int), .int .i64 (x24 : Int), .bool x25, .string (bstr x26), .string (bstr x27), .int .u64 (x28 : Int), .int .i64 x29, .int .i64 (x30 : Int), .int .i64 (x31 : Int), .int .i64 (x32 : Int), .int .u64 (x33 : Int), .int .u64 (x34 : Int), .int .i64 (x35 : Int), .string (bstr x36), .string (bstr x37), .string (bstr x38), .bool x39, .string (bstr x40), .int .u64 (x41 : Int), .int .i64 (x42 : Int), .string (bstr x43), .string (bstr x44), .int .i64 (x45 : Int), .bool x46, .int .i64 (x47 : Int), .string (bstr x48), .int .i64 (x49 : Int), .int .i64 (x50 : Int), .int .i64 x51, .int .i64 x52, .int .i64 (x53 : Int), .int .u64 (x54 : Int), .int .i64 (x55 : Int), .int .i64 (x56 : Int), .int .i64 x57] 61 (0, 0)) by rw [hw1]; exact heap_alloc_new w _)).1
  have G8 : Hid (w1.rangeAt w.heap.size 8 [.int .u64 (x8 : Int), .int .u64 (x9 : Int), x10]) := range_of_block (show w1.heap[w.heap.size]? = some (.cells #[.int .i64 (x0 : Int), .int .i64 (x1 : Int), .int .u64 (x2 : Int), .int .u64 (x3 : Int), .int .u64 (x4 : Int), .int .u64 (x5 : Int), .bool x6, x7, .int .u64 (x8 : Int), .int .u64 (x9 : Int), x10, .string (bstr x11), .int .i64 (x12 : Int), .int .u64 (x13 : Int), .int .i64 (x14 : Int), .int .u64 (x15 : Int), .int .i64 (x16 : Int), .string (bstr x17), .string (bstr x18), .string (bstr x19), .bool x20, .string (bstr x21), .int .i64 (x22 : Int), .int .u64 (x23 : Int), .int .i64 (x24 : Int), .bool x25, .string (bstr x26), .string (bstr x27), .int .u64 (x28 : Int), .int .i64 x29, .int .i64 (x30 : Int), .int .i64 (x31 : Int), .int .i64 (x32 : Int), .int .u64 (x33 : Int), .int .u64 (x34 : Int), .int .i64 (x35 : Int), .string (bstr x36), .string (bstr x37), .string (bstr x38), .bool x39, .string (bstr x40), .int .u64 (x41 : Int), .int .i64 (x42 : Int), .string (bstr x43), .string (bstr x44), .int .i64 (x45 : Int), .bool x46, .int .i64 (x47 : Int), .string (bstr x48), .int .i64 (x49 : Int), .int .i64 (x50 : Int), .int .i64 x51, .int .i64 x52, .int .i64 (x53 : Int), .int .u64 (x54 : Int), .int .i64 (x55 : Int), .int .i64 (x56 : Int), .int .i64 x57] 61 (0, 0)) by rw [hw1]; exact heap_alloc_new w _) [.int .i64 (x0 : Int), .int .i64 (x1 : Int), .int .u64 (x2 : Int), .int .u64 (x3 : Int), .int .u64 (x4 : Int), .int .u64 (x5 : Int), .bool x6, x7] [.int .u64 (x8 : Int), .int .u64 (x9 : Int), x10] [.string (bstr x11), .int .i64 (x12 : Int), .int .u64 (x13 : Int), .int .i64 (x14 : Int), .int .u64 (x15 : Int), .int .i64 (x16 : Int), .string (bstr x17), .string (bstr x18), .string (bstr x19), .bool x20, .string (bstr x21), .int .i64 (x22 : Int), .int .u64 (x23 : Int), .int .i64 (x24 : Int), .bool x25, .string (bstr x26), .string (bstr x27), .int .u64 (x28 : Int), .int .i64 x29, .int .i64 (x30 : Int), .int .i64 (x31 : Int), .int .i64 (x32 : Int), .int .u64 (x33 : Int), .int .u64 (x34 : Int), .int .i64 (x35 : Int), .string (bstr x36), .string (bstr x37), .string (bstr x38), .bool x39, .string (bstr x40), .int .u64 (x41 : Int), .int .i64 (x42 : Int), .string (bstr x43), .string (bstr x44), .int .i64 (x45 : Int), .bool x46, .int .i64 (x47 : Int), .string (bstr x48), .int .i64 (x49 : Int), .int .i64 (x50 : Int), .int .i64 x51, .int .i64 x52, .int .i64 (x53 : Int), .int .u64 (x54 : Int), .int .i64 (x55 : Int), .int .i64 (x56 : Int), .int .i64 x57] rfl
  have G12 : Hid (w1.rangeAt w.heap.size 12 [.int .i64 (x12 : Int), .int .u64 (x13 : Int), .int .i64 (x14 : Int), .int .u64 (x15 : Int), .int .i64 (x16 : Int), .string (bstr x17), .string (bstr x18), .string (bstr x19), .bool x20, .string (bstr x21)]) := range_of_block (show w1.heap[w.heap.size]? = some (.cells #[.int .i64 (x0 : Int), .int .i64 (x1 : Int), .int .u64 (x2 : Int), .int .u64 (x3 : Int), .int .u64 (x4 : Int), .int .u64 (x5 : Int), .bool x6, x7, .int .u64 (x8 : Int), .int .u64 (x9 : Int), x10, .string (bstr x11), .int .i64 (x12 : Int), .int .u64 (x13 : Int), .int .i64 (x14 : Int), .int .u64 (x15 : Int), .int .i64 (x16 : Int), .string (bstr x17), .string (bstr x18), .string (bstr x19), .bool x20, .string (bstr x21), .int .i64 (x22 : Int), .int .u64 (x23 : Int), .int .i64 (x24 : Int), .bool x25, .string (bstr x26), .string (bstr x27), .int .u64 (x28 : Int), .int .i64 x29, .int .i64 (x30 : Int), .int .i64 (x31 : Int), .int .i64 (x32 : Int), .int .u64 (x33 : Int), .int .u64 (x34 : Int), .int .i64 (x35 : Int), .string (bstr x36), .string (bstr x37), .string (bstr x38), .bool x39, .string (bstr x40), .int .u64 (x41 : Int), .int .i64 (x42 : Int), .string (bstr x43), .string (bstr x44), .int .i64 (x45 : Int), .bool x46, .int .i64 (x47 : Int), .string (bstr x48), .int .i64 (x49 : Int), .int .i64 (x50 : Int), .int .i64 x51, .int .i64 x52, .int .i64 (x53 : Int), .int .u64 (x54 : Int), .int .i64 (x55 : Int), .int .i64 (x56 : Int), .int .i64 x57] 61 (0, 0)) by rw [hw1]; exact heap_alloc_new w _) [.int .i64 (x0 : Int), .int .i64 (x1 : Int), .int .u64 (x2 : Int), .int .u64 (x3 : Int), .int .u64 (x4 : Int), .int .u64 (x5 : Int), .bool x6, x7, .int .u64 (x8 : Int), .int .u64 (x9 : Int), x10, .string (bstr x11)] [.int .i64 (x12 : Int), .int .u64 (x13 : Int), .int .i64 (x14 : Int), .int .u64 (x15 : Int), .int .i64 (x16 : Int), .string (bstr x17), .string (bstr x18), .string (bstr x19), .bool x20, .string (bstr x21)] [.int .i64 (x22 : Int), .int .u64 (x23 : Int), .int .i64 (x24 : Int), .bool x25, .string (bstr x26), .string (bstr x27), .int .u64 (x28 : Int), .int .i64 x29, .int .i64 (x30 : Int), .int .i64 (x31 : Int), .int .i64 (x32 : Int), .int .u64 (x33 : Int), .int .u64 (x34 : Int), .int .i64 (x35 : Int), .string (bstr x36), .string (bstr x37), .string (bstr x38), .bool x39, .string (bstr x40), .int .u64 (x41 : Int), .int .i64 (x42 : Int), .string (bstr x43), .string (bstr x44), .int .i64 (x45 : Int), .bool x46, .int .i64 (x47 : Int), .string (bstr x48), .int .i64 (x49 : Int), .int .i64 (x50 : Int), .int .i64 x51, .int .i64 x52, .int .i64 (x53 : Int), .int .u64 (x54 : Int), .int .i64 (x55 : Int), .int .i64 (x56 : Int), .int .i64 x57] rfl
  have G22 : Hid (w1.rangeAt w.heap.size 22 [.int .i64 (x22 : Int), .int .u64 (x23 : Int), .int .i64 (x24 : Int), .bool x25, .string (bstr x26), .string (bstr x27), .int .u64 (x28 : Int), .int .i64 x29]) := range_of_block (show w1.heap[w.heap.size]? = some (.cells #[.int .i64 (x0 : Int), .int .i64 (x1 : Int), .int .u64 (x2 : Int), .int .u64 (x3 : Int), .int .u64 (x4 : Int), .int .u64 (x5 : Int), .bool x6, x7, .int .u64 (x8 : Int), .int .u64 (x9 : Int), x10, .string (bstr x11), .int .i64 (x12 : Int), .int .u64 (x13 : Int), .int .i64 (x14 : Int), .int .u64 (x15 : Int), .int .i64 (x16 : Int), .string (bstr x17), .string (bstr x18), .string (bstr x19), .bool x20, .string (bstr x21), .int .i64 (x22 : Int), .int .u64 (x23 : Int), .int .i64 (x24 : Int), .bool x25, .string (bstr x26), .string (bstr x27), .int .u64 (x28 : Int), .int .i64 x29, .int .i64 (x30 : Int), .int .i64 (x31 : Int), .int .i64 (x32 : Int), .int .u64 (x33 : Int), .int .u64 (x34 : Int), .int .i64 (x35 : Int), .string (bstr x36), .string (bstr x37), .string (bstr x38), .bool x39, .string (bstr x40), .int .u64 (x41 : Int), .int .i64 (x42 : Int), .string (bstr x43), .string (bstr x44), .int .i64 (x45 : Int), .bool x46, .int .i64 (x47 : Int), .string (bstr x48), .int .i64 (x49 : Int), .int .i64 (x50 : Int), .int .i64 x51, .int .i64 x52, .int .i64 (x53 : Int), .int .u64 (x54 : Int), .int .i64 (x55 : Int), .int .i64 (x56 : Int), .int .i64 x57] 61 (0, 0)) by rw [hw1]; exact heap_alloc_new w _) [.int .i64 (x0 : Int), .int .i64 (x1 : Int), .int .u64 (x2 : Int), .int .u64 (x3 : Int), .int .u64 (x4 : Int), .int .u64 (x5 : Int), .bool x6, x7, .int .u64 (x8 : Int), .int .u64 (x9 : Int), x10, .string (bstr x11), .int .i64 (x12 : Int), .int .u64 (x13 : Int), .int .i64 (x14 : Int), .int .u64 (x15 : Int), .int .i64 (x16 : Int), .string (bstr x17), .string (bstr x18), .string (bstr x19), .bool x20, .string (bstr x21)] [.int .i64 (x22 : Int), .int .u64 (x23 : Int), .int .i64 (x24 : Int), .bool x25, .string (bstr x26), .string (bstr x27), .int .u64 (x28 : Int), .int .i64 x29] [.int .i64 (x30 : Int), .int .i64 (x31 : Int), .int .i64 (x32 : Int), .int .u64 (x33 : Int), .int .u64 (x34 : Int), .int .i64 (x35 : Int), .string (bstr x36), .string (bstr x37), .string (bstr x38), .bool x39, .string (bstr x40), .int .u64 (x41 : Int), .int .i64 (x42 : Int), .string (bstr x43), .string (bstr x44), .int .i64 (x45 : Int), .bool x46, .int .i64 (x47 : Int), .string (bstr x48), .int .i64 (x49 : Int), .int .i64 (x50 : Int), .int .i64 x51, .int .i64 x52, .int .i64 (x53 : Int), .int .u64 (x54 : Int), .int .i64 (x55 : Int), .int .i64 (x56 : Int), .int .i64 x57] rfl
  have G30 : Hid (w1.rangeAt w.heap.size 30 [.int .i64 (x30 : Int), .int .i64 (x31 : Int), .int .i64 (x32 : Int), .int .u64 (x33 : Int), .int .u64 (x34 : Int), .int .i64 (x35 : Int), .string (bstr x36), .string (bstr x37), .string (bstr x38), .bool x39, .string (bstr x40), .int .u64 (x41 : Int), .int .i64 (x42 : Int), .string (bstr x43), .string (bstr x44), .int .i64 (x45 : Int), .bool x46, .int .i64 (x47 : Int), .string (bstr x48), .int .i64 (x49 : Int), .int .i64 (x50 : Int), .int .i64 x51, .int .i64 x52]) := range_of_block (show w1.heap[w.heap.size]? = some (.cells #[.int .i64 (x0 : Int), .int .i64 (x1 : Int), .int .u64 (x2 : Int), .int .u64 (x3 : Int), .int .u64 (x4 : Int), .int .u64 (x5 : Int), .bool x6, x7, .int .u64 (x8 : Int), .int .u64 (x9 : Int), x10, .string (bstr x11), .int .i64 (x12 : Int), .int .u64 (x13 : Int), .int .i64 (x14 : Int), .int .u64 (x15 : Int), .int .i64 (x16 : Int), .string (bstr x17), .string (bstr x18), .string (bstr x19), .bool x20, .string (bstr x21), .int .i64 (x22 : Int), .int .u64 (x23 : Int), .int .i64 (x24 : Int), .bool x25, .string (bstr x26), .string (bstr x27), .int .u64 (x28 : Int), .int .i64 x29, .int .i64 (x30 : Int), .int .i64 (x31 : Int), .int .i64 (x32 : Int), .int .u64 (x33 : Int), .int .u64 (x34 : Int), .int .i64 (x35 : Int), .string (bstr x36), .string (bstr x37), .string (bstr x38), .bool x39, .string (bstr x40), .int .u64 (x41 : Int), .int .i64 (x42 : Int), .string (bstr x43), .string (bstr x44), .int .i64 (x45 : Int), .bool x46, .int .i64 (x47 : Int), .string (bstr x48), .int .i64 (x49 : Int), .int .i64 (x50 : Int), .int .i64 x51, .int .i64 x52, .int .i64 (x53 : Int), .int .u64 (x54 : Int), .int .i64 (x55 : Int), .int .i64 (x56 : Int), .int .i64 x57] 61 (0, 0)) by rw [hw1]; exact heap_alloc_new w _) [.int .i64 (x0 : Int), .int .i64 (x1 : Int), .int .u64 (x2 : Int), .int .u64 (x3 : Int), .int .u64 (x4 : Int), .int .u64 (x5 : Int), .bool x6, x7, .int .u64 (x8 : Int), .int .u64 (x9 : Int), x10, .string (bstr x11), .int .i64 (x12 : Int), .int .u64 (x13 : Int), .int .i64 (x14 : Int), .int .u64 (x15 : Int), .int .i64 (x16 : Int), .string (bstr x17), .string (bstr x18), .string (bstr x19), .bool x20, .string (bstr x21), .int .i64 (x22 : Int), .int .u64 (x23 : Int), .int .i64 (x24 : Int), .bool x25, .string (bstr x26), .string (bstr x27), .int .u64 (x28 : Int), .int .i64 x29] [.int .i64 (x30 : Int), .int .i64 (x31 : Int), .int .i64 (x32 : Int), .int .u64 (x33 : Int), .int .u64 (x34 : Int), .int .i64 (x35 : Int), .string (bstr x36), .string (bstr x37), .string (bstr x38), .bool x39, .string (bstr x40), .int .u64 (x41 : Int), .int .i64 (x42 : Int), .string (bstr x43), .string (bstr x44), .int .i64 (x45 : Int), .bool x46, .int .i64 (x47 : Int), .string (bstr x48), .int .i64 (x49 : Int), .int .i64 (x50 : Int), .int .i64 x51, .int .i64 x52] [.int .i64 (x53 : Int), .int .u64 (x54 : Int), .int .i64 (x55 : Int), .int .i64 (x56 : Int), .int .i64 x57] rfl
  have G53 : Hid (w1.rangeAt w.heap.size 53 [.int .i64 (x53 : Int), .int .u64 (x54 : Int), .int .i64 (x55 : Int), .int .i64 (x56 : Int), .int .i64 x57]) := range_of_block (show w1.heap[w.heap.size]? = some (.cells #[.int .i64 (x0 : Int), .int .i64 (x1 : Int), .int .u64 (x2 : Int), .int .u64 (x3 : Int), .int .u64 (x4 : Int), .int .u64 (x5 : Int), .bool x6, x7, .int .u64 (x8 : Int), .int .u64 (x9 : Int), x10, .string (bstr x11), .int .i64 (x12 : Int), .int .u64 (x13 : Int), .int .i64 (x14 : Int), .int .u64 (x15 : Int), .int .i64 (x16 : Int), .string (bstr x17), .string (bstr x18), .string (bstr x19), .bool x20, .string (bstr x21), .int .i64 (x22 : Int), .int .u64 (x23 : Int), .int .i64 (x24 : Int), .bool x25, .string (bstr x26), .string (bstr x27), .int .u64 (x28 : Int), .int .i64 x29, .int .i64 (x30 : Int), .int .i64 (x31 : Int), .int .i64 (x32 : Int), .int .u64 (x33 : Int), .int .u64 (x34 : Int), .int .i64 (x35 : Int), .string (bstr x36), .string (bstr x37), .string (bstr x38), .bool x39, .string (bstr x40), .int .u64 (x41 : Int), .int .i64 (x42 : Int), .string (bstr x43), .string (bstr x44), .int .i64 (x45 : Int), .bool x46, .int .i64 (x47 : Int), .string (bstr x48), .int .i64 (x49 : Int), .int .i64 (x50 : Int), .int .i64 x51, .int .i64 x52, .int .i64 (x53 : Int), .int .u64 (x54 : Int), .int .i64 (x55 : Int), .int .i64 (x56 : Int), .int .i64 x57] 61 (0, 0)) by rw [hw1]; exact heap_alloc_new w _) [.int .i64 (x0 : Int), .int .i64 (x1 : Int), .int .u64 (x2 : Int), .int .u64 (x3 : Int), .int .u64 (x4 : Int), .int .u64 (x5 : Int), .bool x6, x7, .int .u64 (x8 : Int), .int .u64 (x9 : Int), x10, .string (bstr x11), .int .i64 (x12 : Int), .int .u64 (x13 : Int), .int .i64 (x14 : Int), .int .u64 (x15 : Int), .int .i64 (x16 : Int), .string (bstr x17), .string (bstr x18), .string (bstr x19), .bool x20, .string (bstr x21), .int .i64 (x22 : Int), .int .u64 (x23 : Int), .int .i64 (x24 : Int), .bool x25, .string (bstr x26), .string (bstr x27), .int .u64 (x28 : Int), .int .i64 x29, .int .i64 (x30 : Int), .int .i64 (x31 : Int), .int .i64 (x32 : Int), .int .u64 (x33 : Int), .int .u64 (x34 : Int), .int .i64 (x35 : Int), .string (bstr x36), .string (bstr x37), .string (bstr x38), .bool x39, .string (bstr x40), .int .u64 (x41 : Int), .int .i64 (x42 : Int), .string (bstr x43), .string (bstr x44), .int .i64 (x45 : Int), .bool x46, .int .i64 (x47 : Int), .string (bstr x48), .int .i64 (x49 : Int), .int .i64 (x50 : Int), .int .i64 x51, .int .i64 x52] [.int .i64 (x53 : Int), .int .u64 (x54 : Int), .int .i64 (x55 : Int), .int .i64 (x56 : Int), .int .i64 x57] [] rfl
  have C0 : Hid (w1.cell? ⟨w.heap.size, 0, none⟩ = some (.int .i64 (x0 : Int))) := hc 0
  have C1 : Hid (w1.cell? ⟨w.heap.size, 1, none⟩ = some (.int .i64 (x1 : Int))) := hc 1
  have C2 : Hid (w1.cell? ⟨w.heap.size, 2, none⟩ = some (.int .u64 (x2 : Int))) := hc 2
  have C3 : Hid (w1.cell? ⟨w.heap.size, 3, none⟩ = some (.int .u64 (x3 : Int))) := hc 3
  have C4 : Hid (w1.cell? ⟨w.heap.size, 4, none⟩ = some (.int .u64 (x4 : Int))) := hc 4
  have C5 : Hid (w1.cell? ⟨w.heap.size, 5, none⟩ = some (.int .u64 (x5 : Int))) := hc 5
  have C6 : Hid (w1.cell? ⟨w.heap.size, 6, none⟩ = some (.bool x6)) := hc 6
  have C7 : Hid (w1.cell? ⟨w.heap.size, 7, none⟩ = some (x7)) := hc 7
  have C8 : Hid (w1.cell? ⟨w.heap.size, 8, none⟩ = some (.int .u64 (x8 : Int))) := hc 8
  have C9 : Hid (w1.cell? ⟨w.heap.size, 9, none⟩ = some (.int .u64 (x9 : Int))) := hc 9
  have C10 : Hid (w1.cell? ⟨w.heap.size, 10, none⟩ = some (x10)) := hc 10
  have C11 : Hid (w1.cell? ⟨w.heap.size, 11, none⟩ = some (.string (bstr x11))) := hc 11
  have C12 : Hid (w1.cell? ⟨w.heap.size, 12, none⟩ = some (.int .i64 (x12 : Int))) := hc 12
  have C13 : Hid (w1.cell? ⟨w.heap.size, 13, none⟩ = some (.int .u64 (x13 : Int))) := hc 13
  have C14 : Hid (w1.cell? ⟨w.heap.size, 14, none⟩ = some (.int .i64 (x14 : Int))) := hc 14
  have C15 : Hid (w1.cell? ⟨w.heap.size, 15, none⟩ = some (.int .u64 (x15 : Int))) := hc 15
  have C16 : Hid (w1.cell? ⟨w.heap.size, 16, none⟩ = some (.int .i64 (x16 : Int))) := hc 16
  have C17 : Hid (w1.cell? ⟨w.heap.size, 17, none⟩ = some (.string (bstr x17))) := hc 17
  have C18 : Hid (w1.cell? ⟨w.heap.size, 18, none⟩ = some (.string (bstr x18))) := hc 18
  have C19 : Hid (w1.cell? ⟨w.heap.size, 19, none⟩ = some (.string (bstr x19))) := hc 19
  have C20 : Hid (w1.cell? ⟨w.heap.size, 20, none⟩ = some (.bool x20)) := hc 20
  have C21 : Hid (w1.cell? ⟨w.heap.size, 21, none⟩ = some (.string (bstr x21))) := hc 21
  have C22 : Hid (w1.cell? ⟨w.heap.size, 22, none⟩ = some (.int .i64 (x22 : Int))) := hc 22
  have C23 : Hid (w1.cell? ⟨w.heap.size, 23, none⟩ = some (.int .u64 (x23 : Int))) := hc 23
  have C24 : Hid (w1.cell? ⟨w.heap.size, 24, none⟩ = some (.int .i64 (x24 : Int))) := hc 24
  have C25 : Hid (w1.cell? ⟨w.heap.size, 25, none⟩ = some (.bool x25)) := hc 25
  have C26 : Hid (w1.cell? ⟨w.heap.size, 26, none⟩ = some (.string (bstr x26))) := hc 26
  have C27 : Hid (w1.cell? ⟨w.heap.size, 27, none⟩ = some (.string (bstr x27))) := hc 27
  have C28 : Hid (w1.cell? ⟨w.heap.size, 28, none⟩ = some (.int .u64 (x28 : Int))) := hc 28
  have C29 : Hid (w1.cell? ⟨w.heap.size, 29, none⟩ = some (.int .i64 x29)) := hc 29
  have C30 : Hid (w1.cell? ⟨w.heap.size, 30, none⟩ = some (.int .i64 (x30 : Int))) := hc 30
  have C31 : Hid (w1.cell? ⟨w.heap.size, 31, none⟩ = some (.int .i64 (x31 : Int))) := hc 31
  have C32 : Hid (w1.cell? ⟨w.heap.size, 32, none⟩ = some (.int .i64 (x32 : Int))) := hc 32
  have C33 : Hid (w1.cell? ⟨w.heap.size, 33, none⟩ = some (.int .u64 (x33 : Int))) := hc 33
  have C34 : Hid (w1.cell? ⟨w.heap.size, 34, none⟩ = some (.int .u64 (x34 : Int))) := hc 34
  have C35 : Hid (w1.cell? ⟨w.heap.size, 35, none⟩ = some (.int .i64 (x35 : Int))) := hc 35
  have C36 : Hid (w1.cell? ⟨w.heap.size, 36, none⟩ = some (.string (bstr x36))) := hc 36
  have C37 : Hid (w1.cell? ⟨w.heap.size, 37, none⟩ = some (.string (bstr x37))) := hc 37
  have C38 : Hid (w1.cell? ⟨w.heap.size, 38, none⟩ = some (.string (bstr x38))) := hc 38
  have C39 : Hid (w1.cell? ⟨w.heap.size, 39, none⟩ = some (.bool x39)) := hc 39
  have C40 : Hid (w1.cell? ⟨w.heap.size, 40, none⟩ = some (.string (bstr x40))) := hc 40
  have C41 : Hid (w1.cell? ⟨w.heap.size, 41, none⟩ = some (.int .u64 (x41 : Int))) := hc 41
  have C42 : Hid (w1.cell? ⟨w.heap.size, 42, none⟩ = some (.int .i64 (x42 : Int))) := hc 42
  have C43 : Hid (w1.cell? ⟨w.heap.size, 43, none⟩ = some (.string (bstr x43))) := hc 43
  have C44 : Hid (w1.cell? ⟨w.heap.size, 44, none⟩ = some (.string (bstr x44))) := hc 44
  have C45 : Hid (w1.cell? ⟨w.heap.size, 45, none⟩ = some (.int .i64 (x45 : Int))) := hc 45
  have C46 : Hid (w1.cell? ⟨w.heap.size, 46, none⟩ = some (.bool x46)) := hc 46
  have C47 : Hid (w1.cell? ⟨w.heap.size, 47, none⟩ = some (.int .i64 (x47 : Int))) := hc 47
  have C48 : Hid (w1.cell? ⟨w.heap.size, 48, none⟩ = some (.string (bstr x48))) := hc 48
  have C49 : Hid (w1.cell? ⟨w.heap.size, 49, none⟩ = some (.int .i64 (x49 : Int))) := hc 49
  have C50 : Hid (w1.cell? ⟨w.heap.size, 50, none⟩ = some (.int .i64 (x50 : Int))) := hc 50
  have C51 : Hid (w1.cell? ⟨w.heap.size, 51, none⟩ = some (.int .i64 x51)) := hc 51
  have C52 : Hid (w1.cell? ⟨w.heap.size, 52, none⟩ = some (.int .i64 x52)) := hc 52
  have C53 : Hid (w1.cell? ⟨w.heap.size, 53, none⟩ = some (.int .i64 (x53 : Int))) := hc 53
  have C54 : Hid (w1.cell? ⟨w.heap.size, 54, none⟩ = some (.int .u64 (x54 : Int))) := hc 54
  have C55 : Hid (w1.cell? ⟨w.heap.size, 55, none⟩ = some (.int .i64 (x55 : Int))) := hc 55
  have C56 : Hid (w1.cell? ⟨w.heap.size, 56, none⟩ = some (.int .i64 (x56 : Int))) := hc 56
  have C57 : Hid (w1.cell? ⟨w.heap.size, 57, none⟩ = some (.int .i64 x57)) := hc 57
  rw [← hw1]
  clear hc hw1
  refine wp_grow (R := RS [eqV (.pointer (some ⟨w.heap.size, 0, none⟩)),
    eqV (.int .i64 (x0 : Int)),
    eqV (.int .u64 (x0 : Int)),
    eqV (.pointer (some ⟨w.heap.size, 1, none⟩)),
    eqV (.int .i64 (x1 : Int)),
    eqV (.int .u64 (x1 : Int)),
    eqV (.pointer (some ⟨w.heap.size, 2, none⟩)),
    eqV (.int .u64 (x2 : Int)),
    eqV (.pointer (some ⟨w.heap.size, 3, none⟩)),
    eqV (.int .u64 (x3 : Int)),
    eqV (.pointer (some ⟨w.heap.size, 4, none⟩)),
    eqV (.int .u64 (x4 : Int)),
    eqV (.pointer (some ⟨w.heap.size, 5, none⟩)),
    eqV (.int .u64 (x5 : Int)),
    slV [.int .u64 (x0 : Int), .int .u64 (x1 : Int), .int .u64 (x2 : Int), .int .u64 (x3 : Int), .int .u64 (x4 : Int), .int .u64 (x5 : Int)],
    eqV (.string (bstr P0)),
    eqV (.pointer (some ⟨w.heap.size, 6, none⟩)),
    eqV (.bool x6),
    eqV (.string (bstr P1)),
    eqV (.string (bstr (P0 ++ P1))),
    eqV (.pointer (some ⟨w.heap.size, 7, none⟩)),
    eqV (x7),
    eqV (.func (.func 87) #[] #[]),
    eqV (.string (bstr P2)),
    eqV (.string (bstr (P0 ++ (P1 ++ P2)))),
    eqV (.pointer (some ⟨w.heap.size, 8, none⟩)),
    eqV (.agg #[.int .u64 (x8 : Int), .int .u64 (x9 : Int), x10]),
    eqV (.string (bstr P3)),
    eqV (.string (bstr (P0 ++ (P1 ++ (P2 ++ P3))))),
    eqV (.pointer (some ⟨w.heap.size, 11, none⟩)),
    eqV (.string (bstr x11)),
    slV [.string (bstr x11)],
    eqV (.string (bstr P4)),
    eqV (.string (bstr (P0 ++ (P1 ++ (P2 ++ (P3 ++ P4)))))),
    eqV (.pointer (some ⟨w.heap.size, 12, none⟩)),
    eqV (.agg #[.int .i64 (x12 : Int), .int .u64 (x13 : Int), .int .i64 (x14 : Int), .int .u64 (x15 : Int), .int .i64 (x16 : Int), .string (bstr x17), .string (bstr x18), .string (bstr x19), .bool x20, .string (bstr x21)]),
    eqV (.string (bstr P5)),
    eqV (.string (bstr (P0 ++ (P1 ++ (P2 ++ (P3 ++ (P4 ++ P5))))))),
    eqV (.pointer (some ⟨w.heap.size, 22, none⟩)),
    eqV (.agg #[.int .i64 (x22 : Int), .int .u64 (x23 : Int), .int .i64 (x24 : Int), .bool x25, .string (bstr x26), .string (bstr x27), .int .u64 (x28 : Int), .int .i64 x29]),
    eqV (.string (bstr P6)),
    eqV (.string (bstr (P0 ++ (P1 ++ (P2 ++ (P3 ++ (P4 ++ (P5 ++ P6)))))))),
    eqV (.pointer (some ⟨w.heap.size, 30, none⟩)),
    eqV (.agg #[.int .i64 (x30 : Int), .int .i64 (x31 : Int), .int .i64 (x32 : Int), .int .u64 (x33 : Int), .int .u64 (x34 : Int), .int .i64 (x35 : Int), .string (bstr x36), .string (bstr x37), .string (bstr x38), .bool x39, .string (bstr x40), .int .u64 (x41 : Int), .int .i64 (x42 : Int), .string (bstr x43), .string (bstr x44), .int .i64 (x45 : Int), .bool x46, .int .i64 (x47 : Int), .string (bstr x48), .int .i64 (x49 : Int), .int .i64 (x50 : Int), .int .i64 x51, .int .i64 x52]),
    eqV (.string (bstr P7)),
    eqV (.string (bstr (P0 ++ (P1 ++ (P2 ++ (P3 ++ (P4 ++ (P5 ++ (P6 ++ P7))))))))),
    eqV (.pointer (some ⟨w.heap.size, 53, none⟩)),
    eqV (.agg #[.int .i64 (x53 : Int), .int .u64 (x54 : Int), .int .i64 (x55 : Int), .int .i64 (x56 : Int), .int .i64 x57]),
    eqV (.string (bstr P8)),
    eqV (.string (bstr (P0 ++ (P1 ++ (P2 ++ (P3 ++ (P4 ++ (P5 ++ (P6 ++ (P7 ++ P8)))))))))),
    eqV (.string (bstr (P0 ++ (P1 ++ (P2 ++ (P3 ++ (P4 ++ (P5 ++ (P6 ++ (P7 ++ P8))))))))))])
    (by kernel_rfl) (by kernel_rfl) (RS.below ?_) ?_ ?_
  · simp [lst_eqV, lst_slV]
  · refine ⟨?_, ?_, ?_, ?_, ?_, ?_, ?_, ?_, ?_, ?_, ?_, ?_, ?_, ?_, ?_, ?_, ?_, ?_, ?_, ?_, ?_, ?_, ?_, ?_, ?_, ?_, ?_, ?_, ?_, ?_, ?_, ?_, ?_, ?_, ?_, ?_, ?_, ?_, ?_, ?_, ?_, ?_, ?_, ?_, ?_, ?_, ?_, ?_, ?_, ?_, ?_, trivial⟩
    · intro a W K hb hold hd hK
      have t1 : a.tmps.getD 1 undef = .pointer (some ⟨w.heap.size, 0, none⟩) := hold 1 (by kernel_rfl)
      go_simp
      exact hK _ _ (Below.refl _ _) rfl
    · intro a W K hb hold hd hK
      have t1 : a.tmps.getD 4 undef = .pointer (some ⟨w.heap.size, 0, none⟩) := hd ⟨0, .data⟩ (by simp) rfl _ _ rfl rfl
      have c := cell_below hb C0.out
      go_simp
      exact hK _ _ (Below.refl _ _) rfl
    · intro a W K hb hold hd hK
      have t1 : a.tmps.getD 5 undef = .int .i64 (x0 : Int) := hd ⟨1, .data⟩ (by simp) rfl _ _ rfl rfl
      have hw := HW0.out
      go_simp
      exact hK _ _ (Below.refl _ _) rfl
    · intro a W K hb hold hd hK
      have t1 : a.tmps.getD 1 undef = .pointer (some ⟨w.heap.size, 0, none⟩) := hold 1 (by kernel_rfl)
      go_simp
      exact hK _ _ (Below.refl _ _) rfl
    · intro a W K hb hold hd hK
      have t1 : a.tmps.getD 7 undef = .pointer (some ⟨w.heap.size, 1, none⟩) := hd ⟨3, .data⟩ (by simp) rfl _ _ rfl rfl
      have c := cell_below hb C1.out
      go_simp
      exact hK _ _ (Below.refl _ _) rfl
    · intro a W K hb hold hd hK
      have t1 : a.tmps.getD 8 undef = .int .i64 (x1 : Int) := hd ⟨4, .data⟩ (by simp) rfl _ _ rfl rfl
      have hw := HW1.out
      go_simp
      exact hK _ _ (Below.refl _ _) rfl
    · intro a W K hb hold hd hK
      have t1 : a.tmps.getD 1 undef = .pointer (some ⟨w.heap.size, 0, none⟩) := hold 1 (by kernel_rfl)
      go_simp
      exact hK _ _ (Below.refl _ _) rfl
    · intro a W K hb hold hd hK
      have t1 : a.tmps.getD 10 undef = .pointer (some ⟨w.heap.size, 2, none⟩) := hd ⟨6, .data⟩ (by simp) rfl _ _ rfl rfl
      have c := cell_below hb C2.out
      go_simp
      exact hK _ _ (Below.refl _ _) rfl
    · intro a W K hb hold hd hK
      have t1 : a.tmps.getD 1 undef = .pointer (some ⟨w.heap.size, 0, none⟩) := hold 1 (by kernel_rfl)
      go_simp
      exact hK _ _ (Below.refl _ _) rfl
    · intro a W K hb hold hd hK
      have t1 : a.tmps.getD 12 undef = .pointer (some ⟨w.heap.size, 3, none⟩) := hd ⟨8, .data⟩ (by simp) rfl _ _ rfl rfl
      have c := cell_below hb C3.out
      go_simp
      exact hK _ _ (Below.refl _ _) rfl
    · intro a W K hb hold hd hK
      have t1 : a.tmps.getD 1 undef = .pointer (some ⟨w.heap.size, 0, none⟩) := hold 1 (by kernel_rfl)
      go_simp
      exact hK _ _ (Below.refl _ _) rfl
    · intro a W K hb hold hd hK
      have t1 : a.tmps.getD 14 undef = .pointer (some ⟨w.heap.size, 4, none⟩) := hd ⟨10, .data⟩ (by simp) rfl _ _ rfl rfl
      have c := cell_below hb C4.out
      go_simp
      exact hK _ _ (Below.refl _ _) rfl
    · intro a W K hb hold hd hK
      have t1 : a.tmps.getD 1 undef = .pointer (some ⟨w.heap.size, 0, none⟩) := hold 1 (by kernel_rfl)
      go_simp
      exact hK _ _ (Below.refl _ _) rfl
    · intro a W K hb hold hd hK
      have t1 : a.tmps.getD 16 undef = .pointer (some ⟨w.heap.size, 5, none⟩) := hd ⟨12, .data⟩ (by simp) rfl _ _ rfl rfl
      have c := cell_below hb C5.out
      go_simp
      exact hK _ _ (Below.refl _ _) rfl
    · intro a W K hb hold hd hK
      have t0 : a.tmps.getD 6 undef = .int .u64 (x0 : Int) := hd ⟨2, .data⟩ (by simp) rfl _ _ rfl rfl
      have t1 : a.tmps.getD 9 undef = .int .u64 (x1 : Int) := hd ⟨5, .data⟩ (by simp) rfl _ _ rfl rfl
      have t2 : a.tmps.getD 11 undef = .int .u64 (x2 : Int) := hd ⟨7, .data⟩ (by simp) rfl _ _ rfl rfl
      have t3 : a.tmps.getD 13 undef = .int .u64 (x3 : Int) := hd ⟨9, .data⟩ (by simp) rfl _ _ rfl rfl
      have t4 : a.tmps.getD 15 undef = .int .u64 (x4 : Int) := hd ⟨11, .data⟩ (by simp) rfl _ _ rfl rfl
      have t5 : a.tmps.getD 17 undef = .int .u64 (x5 : Int) := hd ⟨13, .data⟩ (by simp) rfl _ _ rfl rfl
      rw [Array.getD_eq_getD_getElem?] at t0 t1 t2 t3 t4 t5
      go_simp
      exact hK _ _ ((Below.refl _ _).alloc (Nat.le_refl _) _) (sl_newL _ [.int .u64 (x0 : Int), .int .u64 (x1 : Int), .int .u64 (x2 : Int), .int .u64 (x3 : Int), .int .u64 (x4 : Int), .int .u64 (x5 : Int)] _)
    · intro a W K hb hold hd hK
      obtain ⟨b, t1, hbb, hc⟩ : slV [.int .u64 (x0 : Int), .int .u64 (x1 : Int), .int .u64 (x2 : Int), .int .u64 (x3 : Int), .int .u64 (x4 : Int), .int .u64 (x5 : Int)] (a.tmps.getD 18 undef) W := hd ⟨14, .data⟩ (by simp) rfl _ _ rfl rfl
      go_simp
      refine (jNumsV [x0, x1, x2, x3, x4, x5] _ W ⟨b, rfl, hbb, hc⟩ (by simp) (by simp; omega)).mono ?_
      rintro e wf ⟨rfl, hbf⟩
      exact hK _ _ hbf (congrArg (fun x => Value.string (bstr x)) EP0.out.symm)
    · intro a W K hb hold hd hK
      have t1 : a.tmps.getD 1 undef = .pointer (some ⟨w.heap.size, 0, none⟩) := hold 1 (by kernel_rfl)
      go_simp
      exact hK _ _ (Below.refl _ _) rfl
    · intro a W K hb hold hd hK
      have t1 : a.tmps.getD 20 undef = .pointer (some ⟨w.heap.size, 6, none⟩) := hd ⟨16, .data⟩ (by simp) rfl _ _ rfl rfl
      have c := cell_below hb C6.out
      go_simp
      exact hK _ _ (Below.refl _ _) rfl
    · intro a W K hb hold hd hK
      have t1 : a.tmps.getD 21 undef = .bool x6 := hd ⟨17, .data⟩ (by simp) rfl _ _ rfl rfl
      go_simp
      refine (jBool_any x6 W).mono ?_
      rintro e wf ⟨rfl, hbf⟩
      exact hK _ _ hbf (congrArg (fun x => Value.string (bstr x)) EP1.out.symm)
    · intro a W K hb hold hd hK
      have t1 : a.tmps.getD 19 undef = .string (bstr P0) := hd ⟨15, .data⟩ (by simp) rfl _ _ rfl rfl
      have t2 : a.tmps.getD 22 undef = .string (bstr P1) := hd ⟨18, .data⟩ (by simp) rfl _ _ rfl rfl
      have lP0 := LP0.out
      have lP1 := LP1.out
      go_simp
      rw [if_neg (by omega)]
      go_simp
      exact hK _ _ (Below.refl _ _) rfl
    · intro a W K hb hold hd hK
      have t1 : a.tmps.getD 1 undef = .pointer (some ⟨w.heap.size, 0, none⟩) := hold 1 (by kernel_rfl)
      go_simp
      exact hK _ _ (Below.refl _ _) rfl
    · intro a W K hb hold hd hK
      have t1 : a.tmps.getD 24 undef = .pointer (some ⟨w.heap.size, 7, none⟩) := hd ⟨20, .data⟩ (by simp) rfl _ _ rfl rfl
      have c := cell_below hb C7.out
      go_simp
      exact hK _ _ (Below.refl _ _) rfl
    · intro a W K hb hold hd hK
      have t1 : a.tmps.getD 3 undef = (.func (.func 87) #[] #[]) := hold 3 (by kernel_rfl)
      go_simp
      exact hK _ _ (Below.refl _ _) rfl
    · intro a W K hb hold hd hK
      have t1 : a.tmps.getD 25 undef = x7 := hd ⟨21, .data⟩ (by simp) rfl _ _ rfl rfl
      have t2 : a.tmps.getD 26 undef = (.func (.func 87) #[] #[]) := hd ⟨22, .data⟩ (by simp) rfl _ _ rfl rfl
      go_simp
      refine (HB7.out W (bel_call hb (bel_drew hb1))).mono ?_
      rintro e wf ⟨rfl, hbf⟩
      exact hK _ _ hbf (congrArg (fun x => Value.string (bstr x)) EP2.out.symm)
    · intro a W K hb hold hd hK
      have t1 : a.tmps.getD 23 undef = .string (bstr (P0 ++ P1)) := hd ⟨19, .data⟩ (by simp) rfl _ _ rfl rfl
      have t2 : a.tmps.getD 27 undef = .string (bstr P2) := hd ⟨23, .data⟩ (by simp) rfl _ _ rfl rfl
      have lP0 := LP0.out
      have lP1 := LP1.out
      have lP2 := LP2.out
      go_simp
      rw [if_neg (by omega)]
      go_simp
      exact hK _ _ (Below.refl _ _) rfl
    · intro a W K hb hold hd hK
      have t1 : a.tmps.getD 1 undef = .pointer (some ⟨w.heap.size, 0, none⟩) := hold 1 (by kernel_rfl)
      go_simp
      exact hK _ _ (Below.refl _ _) rfl
    · intro a W K hb hold hd hK
      have t1 : a.tmps.getD 29 undef = .pointer (some ⟨w.heap.size, 8, none⟩) := hd ⟨25, .data⟩ (by simp) rfl _ _ rfl rfl
      exact wp_load_mid 51 _ rfl w.heap.size 8 t1 [.int .u64 (x8 : Int), .int .u64 (x9 : Int), x10] _ (range_below hb G8.out) Tryz.underlying51 rfl (by kernel_rfl) (hK _ _ (Below.refl _ _) rfl)
    · intro a W K hb hold hd hK
      have t1 : a.tmps.getD 30 undef = .agg #[.int .u64 (x8 : Int), .int .u64 (x9 : Int), x10] := hd ⟨26, .data⟩ (by simp) rfl _ _ rfl rfl
      go_simp
      refine (oLayBase_any [.int .u64 (x8 : Int), .int .u64 (x9 : Int)] x10 B10 W F8.out LB10.out (fun W2 hb2 => HB10.out W2 (below2 (bel_call hb (bel_drew hb1)) hb2))).mono ?_
      rintro e wf ⟨rfl, hbf⟩
      exact hK _ _ hbf (congrArg (fun x => Value.string (bstr x)) EP3.out.symm)
    · intro a W K hb hold hd hK
      have t1 : a.tmps.getD 28 undef = .string (bstr (P0 ++ (P1 ++ P2))) := hd ⟨24, .data⟩ (by simp) rfl _ _ rfl rfl
      have t2 : a.tmps.getD 31 undef = .string (bstr P3) := hd ⟨27, .data⟩ (by simp) rfl _ _ rfl rfl
      have lP0 := LP0.out
      have lP1 := LP1.out
      have lP2 := LP2.out
      have lP3 := LP3.out
      go_simp
      rw [if_neg (by omega)]
      go_simp
      exact hK _ _ (Below.refl _ _) rfl
    · intro a W K hb hold hd hK
      have t1 : a.tmps.getD 1 undef = .pointer (some ⟨w.heap.size, 0, none⟩) := hold 1 (by kernel_rfl)
      go_simp
      exact hK _ _ (Below.refl _ _) rfl
    · intro a W K hb hold hd hK
      have t1 : a.tmps.getD 33 undef = .pointer (some ⟨w.heap.size, 11, none⟩) := hd ⟨29, .data⟩ (by simp) rfl _ _ rfl rfl
      have c := cell_below hb C11.out
      go_simp
      exact hK _ _ (Below.refl _ _) rfl
    · intro a W K hb hold hd hK
      have t0 : a.tmps.getD 34 undef = .string (bstr x11) := hd ⟨30, .data⟩ (by simp) rfl _ _ rfl rfl
      rw [Array.getD_eq_getD_getElem?] at t0
      go_simp
      exact hK _ _ ((Below.refl _ _).alloc (Nat.le_refl _) _) (sl_newL _ [.string (bstr x11)] _)
    · intro a W K hb hold hd hK
      obtain ⟨b, t1, hbb, hc⟩ : slV [.string (bstr x11)] (a.tmps.getD 35 undef) W := hd ⟨31, .data⟩ (by simp) rfl _ _ rfl rfl
      go_simp
      refine (jTxtsV [x11] _ W ⟨b, rfl, hbb, hc⟩ (by simp) (by simp; omega)).mono ?_
      rintro e wf ⟨rfl, hbf⟩
      exact hK _ _ hbf (congrArg (fun x => Value.string (bstr x)) EP4.out.symm)
    · intro a W K hb hold hd hK
      have t1 : a.tmps.getD 32 undef = .string (bstr (P0 ++ (P1 ++ (P2 ++ P3)))) := hd ⟨28, .data⟩ (by simp) rfl _ _ rfl rfl
      have t2 : a.tmps.getD 36 undef = .string (bstr P4) := hd ⟨32, .data⟩ (by simp) rfl _ _ rfl rfl
      have lP0 := LP0.out
      have lP1 := LP1.out
      have lP2 := LP2.out
      have lP3 := LP3.out
      have lP4 := LP4.out
      go_simp
      rw [if_neg (by omega)]
      go_simp
      exact hK _ _ (Below.refl _ _) rfl
    · intro a W K hb hold hd hK
      have t1 : a.tmps.getD 1 undef = .pointer (some ⟨w.heap.size, 0, none⟩) := hold 1 (by kernel_rfl)
      go_simp
      exact hK _ _ (Below.refl _ _) rfl
    · intro a W K hb hold hd hK
      have t1 : a.tmps.getD 38 undef = .pointer (some ⟨w.heap.size, 12, none⟩) := hd ⟨34, .data⟩ (by simp) rfl _ _ rfl rfl
      exact wp_load_mid 53 _ rfl w.heap.size 12 t1 [.int .i64 (x12 : Int), .int .u64 (x13 : Int), .int .i64 (x14 : Int), .int .u64 (x15 : Int), .int .i64 (x16 : Int), .string (bstr x17), .string (bstr x18), .string (bstr x19), .bool x20, .string (bstr x21)] _ (range_below hb G12.out) Tryz.underlying53 rfl (by kernel_rfl) (hK _ _ (Below.refl _ _) rfl)
    · intro a W K hb hold hd hK
      have t1 : a.tmps.getD 39 undef = .agg #[.int .i64 (x12 : Int), .int .u64 (x13 : Int), .int .i64 (x14 : Int), .int .u64 (x15 : Int), .int .i64 (x16 : Int), .string (bstr x17), .string (bstr x18), .string (bstr x19), .bool x20, .string (bstr x21)] := hd ⟨35, .data⟩ (by simp) rfl _ _ rfl rfl
      go_simp
      refine (oLayRequest_any [.int .i64 (x12 : Int), .int .u64 (x13 : Int), .int .i64 (x14 : Int), .int .u64 (x15 : Int), .int .i64 (x16 : Int), .string x17, .string x18, .string x19, .bool x20, .string x21] W F12.out).mono ?_
      rintro e wf ⟨rfl, hbf⟩
      exact hK _ _ hbf (congrArg (fun x => Value.string (bstr x)) EP5.out.symm)
    · intro a W K hb hold hd hK
      have t1 : a.tmps.getD 37 undef = .string (bstr (P0 ++ (P1 ++ (P2 ++ (P3 ++ P4))))) := hd ⟨33, .data⟩ (by simp) rfl _ _ rfl rfl
      have t2 : a.tmps.getD 40 undef = .string (bstr P5) := hd ⟨36, .data⟩ (by simp) rfl _ _ rfl rfl
      have lP0 := LP0.out
      have lP1 := LP1.out
      have lP2 := LP2.out
      have lP3 := LP3.out
      have lP4 := LP4.out
      have lP5 := LP5.out
      go_simp
      rw [if_neg (by omega)]
      go_simp
      exact hK _ _ (Below.refl _ _) rfl
    · intro a W K hb hold hd hK
      have t1 : a.tmps.getD 1 undef = .pointer (some ⟨w.heap.size, 0, none⟩) := hold 1 (by kernel_rfl)
      go_simp
      exact hK _ _ (Below.refl _ _) rfl
    · intro a W K hb hold hd hK
      have t1 : a.tmps.getD 42 undef = .pointer (some ⟨w.heap.size, 22, none⟩) := hd ⟨38, .data⟩ (by simp) rfl _ _ rfl rfl
      exact wp_load_mid 55 _ rfl w.heap.size 22 t1 [.int .i64 (x22 : Int), .int .u64 (x23 : Int), .int .i64 (x24 : Int), .bool x25, .string (bstr x26), .string (bstr x27), .int .u64 (x28 : Int), .int .i64 x29] _ (range_below hb G22.out) Tryz.underlying55 rfl (by kernel_rfl) (hK _ _ (Below.refl _ _) rfl)
    · intro a W K hb hold hd hK
      have t1 : a.tmps.getD 43 undef = .agg #[.int .i64 (x22 : Int), .int .u64 (x23 : Int), .int .i64 (x24 : Int), .bool x25, .string (bstr x26), .string (bstr x27), .int .u64 (x28 : Int), .int .i64 x29] := hd ⟨39, .data⟩ (by simp) rfl _ _ rfl rfl
      go_simp
      refine (oLayReply_any [.int .i64 (x22 : Int), .int .u64 (x23 : Int), .int .i64 (x24 : Int), .bool x25, .string x26, .string x27, .int .u64 (x28 : Int), .int .i64 x29] W F22.out).mono ?_
      rintro e wf ⟨rfl, hbf⟩
      exact hK _ _ hbf (congrArg (fun x => Value.string (bstr x)) EP6.out.symm)
    · intro a W K hb hold hd hK
      have t1 : a.tmps.getD 41 undef = .string (bstr (P0 ++ (P1 ++ (P2 ++ (P3 ++ (P4 ++ P5)))))) := hd ⟨37, .data⟩ (by simp) rfl _ _ rfl rfl
      have t2 : a.tmps.getD 44 undef = .string (bstr P6) := hd ⟨40, .data⟩ (by simp) rfl _ _ rfl rfl
      have lP0 := LP0.out
      have lP1 := LP1.out
      have lP2 := LP2.out
      have lP3 := LP3.out
      have lP4 := LP4.out
      have lP5 := LP5.out
      have lP6 := LP6.out
      go_simp
      rw [if_neg (by omega)]
      go_simp
      exact hK _ _ (Below.refl _ _) rfl
    · intro a W K hb hold hd hK
      have t1 : a.tmps.getD 1 undef = .pointer (some ⟨w.heap.size, 0, none⟩) := hold 1 (by kernel_rfl)
      go_simp
      exact hK _ _ (Below.refl _ _) rfl
    · intro a W K hb hold hd hK
      have t1 : a.tmps.getD 46 undef = .pointer (some ⟨w.heap.size, 30, none⟩) := hd ⟨42, .data⟩ (by simp) rfl _ _ rfl rfl
      exact wp_load_mid 57 _ rfl w.heap.size 30 t1 [.int .i64 (x30 : Int), .int .i64 (x31 : Int), .int .i64 (x32 : Int), .int .u64 (x33 : Int), .int .u64 (x34 : Int), .int .i64 (x35 : Int), .string (bstr x36), .string (bstr x37), .string (bstr x38), .bool x39, .string (bstr x40), .int .u64 (x41 : Int), .int .i64 (x42 : Int), .string (bstr x43), .string (bstr x44), .int .i64 (x45 : Int), .bool x46, .int .i64 (x47 : Int), .string (bstr x48), .int .i64 (x49 : Int), .int .i64 (x50 : Int), .int .i64 x51, .int .i64 x52] _ (range_below hb G30.out) Tryz.underlying57 rfl (by kernel_rfl) (hK _ _ (Below.refl _ _) rfl)
    · intro a W K hb hold hd hK
      have t1 : a.tmps.getD 47 undef = .agg #[.int .i64 (x30 : Int), .int .i64 (x31 : Int), .int .i64 (x32 : Int), .int .u64 (x33 : Int), .int .u64 (x34 : Int), .int .i64 (x35 : Int), .string (bstr x36), .string (bstr x37), .string (bstr x38), .bool x39, .string (bstr x40), .int .u64 (x41 : Int), .int .i64 (x42 : Int), .string (bstr x43), .string (bstr x44), .int .i64 (x45 : Int), .bool x46, .int .i64 (x47 : Int), .string (bstr x48), .int .i64 (x49 : Int), .int .i64 (x50 : Int), .int .i64 x51, .int .i64 x52] := hd ⟨43, .data⟩ (by simp) rfl _ _ rfl rfl
      go_simp
      refine (oLayAsk_any [.int .i64 (x30 : Int), .int .i64 (x31 : Int), .int .i64 (x32 : Int), .int .u64 (x33 : Int), .int .u64 (x34 : Int), .int .i64 (x35 : Int), .string x36, .string x37, .string x38, .bool x39, .string x40, .int .u64 (x41 : Int), .int .i64 (x42 : Int), .string x43, .string x44, .int .i64 (x45 : Int), .bool x46, .int .i64 (x47 : Int), .string x48, .int .i64 (x49 : Int), .int .i64 (x50 : Int), .int .i64 x51, .int .i64 x52] W F30.out).mono ?_
      rintro e wf ⟨rfl, hbf⟩
      exact hK _ _ hbf (congrArg (fun x => Value.string (bstr x)) EP7.out.symm)
    · intro a W K hb hold hd hK
      have t1 : a.tmps.getD 45 undef = .string (bstr (P0 ++ (P1 ++ (P2 ++ (P3 ++ (P4 ++ (P5 ++ P6))))))) := hd ⟨41, .data⟩ (by simp) rfl _ _ rfl rfl
      have t2 : a.tmps.getD 48 undef = .string (bstr P7) := hd ⟨44, .data⟩ (by simp) rfl _ _ rfl rfl
      have lP0 := LP0.out
      have lP1 := LP1.out
      have lP2 := LP2.out
      have lP3 := LP3.out
      have lP4 := LP4.out
      have lP5 := LP5.out
      have lP6 := LP6.out
      have lP7 := LP7.out
      go_simp
      rw [if_neg (by omega)]
      go_simp
      exact hK _ _ (Below.refl _ _) rfl
    · intro a W K hb hold hd hK
      have t1 : a.tmps.getD 1 undef = .pointer (some ⟨w.heap.size, 0, none⟩) := hold 1 (by kernel_rfl)
      go_simp
      exact hK _ _ (Below.refl _ _) rfl
    · intro a W K hb hold hd hK
      have t1 : a.tmps.getD 50 undef = .pointer (some ⟨w.heap.size, 53, none⟩) := hd ⟨46, .data⟩ (by simp) rfl _ _ rfl rfl
      exact wp_load_mid 59 _ rfl w.heap.size 53 t1 [.int .i64 (x53 : Int), .int .u64 (x54 : Int), .int .i64 (x55 : Int), .int .i64 (x56 : Int), .int .i64 x57] _ (range_below hb G53.out) Tryz.underlying59 rfl (by kernel_rfl) (hK _ _ (Below.refl _ _) rfl)
    · intro a W K hb hold hd hK
      have t1 : a.tmps.getD 51 undef = .agg #[.int .i64 (x53 : Int), .int .u64 (x54 : Int), .int .i64 (x55 : Int), .int .i64 (x56 : Int), .int .i64 x57] := hd ⟨47, .data⟩ (by simp) rfl _ _ rfl rfl
      go_simp
      refine (oLayTold_any [.int .i64 (x53 : Int), .int .u64 (x54 : Int), .int .i64 (x55 : Int), .int .i64 (x56 : Int), .int .i64 x57] W F53.out).mono ?_
      rintro e wf ⟨rfl, hbf⟩
      exact hK _ _ hbf (congrArg (fun x => Value.string (bstr x)) EP8.out.symm)
    · intro a W K hb hold hd hK
      have t1 : a.tmps.getD 49 undef = .string (bstr (P0 ++ (P1 ++ (P2 ++ (P3 ++ (P4 ++ (P5 ++ (P6 ++ P7)))))))) := hd ⟨45, .data⟩ (by simp) rfl _ _ rfl rfl
      have t2 : a.tmps.getD 52 undef = .string (bstr P8) := hd ⟨48, .data⟩ (by simp) rfl _ _ rfl rfl
      have lP0 := LP0.out
      have lP1 := LP1.out
      have lP2 := LP2.out
      have lP3 := LP3.out
      have lP4 := LP4.out
      have lP5 := LP5.out
      have lP6 := LP6.out
      have lP7 := LP7.out
      have lP8 := LP8.out
      go_simp
      rw [if_neg (by omega)]
      go_simp
      exact hK _ _ (Below.refl _ _) rfl
    · intro a W K hb hold hd hK
      have t1 : a.tmps.getD 53 undef = .string (bstr (P0 ++ (P1 ++ (P2 ++ (P3 ++ (P4 ++ (P5 ++ (P6 ++ (P7 ++ P8))))))))) := hd ⟨49, .data⟩ (by simp) rfl _ _ rfl rfl
      go_simp
      exact hK _ _ (Below.refl _ _) rfl
  · intro a' w' hb hdf hts hold hnew
    have t2 : a'.tmps.getD 2 undef = .string (bstr (layKs msgK [.int .i64 (x0 : Int), .int .i64 (x1 : Int), .int .u64 (x2 : Int), .int .u64 (x3 : Int), .int .u64 (x4 : Int), .int .u64 (x5 : Int), .bool x6] ++ (B7 ++ (layKs baseK [.int .u64 (x8 : Int), .int .u64 (x9 : Int)] ++ (B10 ++ (layKs tailK [.string x11, .int .i64 (x12 : Int), .int .u64 (x13 : Int), .int .i64 (x14 : Int), .int .u64 (x15 : Int), .int .i64 (x16 : Int), .string x17, .string x18, .string x19, .bool x20, .string x21, .int .i64 (x22 : Int), .int .u64 (x23 : Int), .int .i64 (x24 : Int), .bool x25, .string x26, .string x27, .int .u64 (x28 : Int), .int .i64 x29, .int .i64 (x30 : Int), .int .i64 (x31 : Int), .int .i64 (x32 : Int), .int .u64 (x33 : Int), .int .u64 (x34 : Int), .int .i64 (x35 : Int), .string x36, .string x37, .string x38, .bool x39, .string x40, .int .u64 (x41 : Int), .int .i64 (x42 : Int), .string x43, .string x44, .int .i64 (x45 : Int), .bool x46, .int .i64 (x47 : Int), .string x48, .int .i64 (x49 : Int), .int .i64 (x50 : Int), .int .i64 x51, .int .i64 x52, .int .i64 (x53 : Int), .int .u64 (x54 : Int), .int .i64 (x55 : Int), .int .i64 (x56 : Int), .int .i64 x57])))))) := (hnew 50 _ 2 rfl rfl).trans (by rw [HL.out])
    obtain ⟨t, d⟩ := a'
    obtain rfl : d = [] := hdf
    simp only at t2
    clear hold hnew hts
    go_wp2
    go_ret
    exact ⟨congrArg Ending.returned t2, bel_call hb (bel_drew hb1)⟩

end Go.Proofs.YtbdbefgfejdbjaaGreat
