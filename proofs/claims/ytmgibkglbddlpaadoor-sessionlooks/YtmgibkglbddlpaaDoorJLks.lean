/-
  The law SessionLooks, walked.
-/
import Derived.Test.YtmgibkglbddlpaaDoorJLk17
import Derived.Test.YtmgibkglbddlpaaDoorJCol
namespace Go.Proofs.YtmgibkglbddlpaaDoor
open Go.RowKit Go.BigFrame
attribute [local go_sem] size_bstr toList_bstr

set_option maxHeartbeats 8000000 in
set_option maxRecDepth 100000 in
theorem SLooks_any (c : List UInt8) (q : Nat) (n : Int) (w : World) :
    Calls Tryd.prog 3 #[.string (bstr c), .int .u64 (q : Int), .int .i64 n] w fun x w' => x = .returned (.bool true) ∧ Below w.heap.size w w' := by
  have hcv := fun w : World => run_cut (P := Tryd.prog) 9 c 3000 3000 rfl w Tryd.underlying9
  have hlen : (c.take 3000).length ≤ 65536 := Nat.le_trans (List.length_take_le _ _) (by decide)
  have h1 := fun W => jLook_any (c.take 3000) q W hlen
  have h2 := fun W => rLook_any (c.take 3000) q W hlen
  generalize lkR (c.take 3000) q = R at *
  generalize lkA (c.take 3000) q = A at *
  generalize lkE (c.take 3000) q = E at *
  generalize c.take 3000 = c' at *
  obtain ⟨de, df, dr, dv, dn⟩ := R
  have H1 : Hid _ := h1
  have H2 : Hid _ := h2
  clear h1 h2 hlen
  go_enter Tryd.func3, Tryd.ntmps3
  go_wp2_with fail
  refine (H1.out w).mono ?_
  rintro x w1 ⟨rfl, hb1⟩
  obtain ⟨X, hX⟩ : ∃ X, X = w1.heap.size := ⟨_, rfl⟩
  obtain ⟨w2, hw2⟩ : ∃ w2, w2 = w1.alloc (.cells #[.int .i64 de, .bool df, .string (bstr dr), .string (bstr dv), .int .u64 (dn : Int)] 25) := ⟨_, rfl⟩
  have hb2 : Below w1.heap.size w1 w2 := by rw [hw2]; exact bel_alloc (Below.refl _ _)
  have hx2 : RzB w2 X ⟨de, df, dr, dv, dn⟩ := by rw [hw2, hX]; exact heap_alloc_new w1 _
  have hB2 := bel_call hb2 hb1
  have HW : Hid _ := hw2
  have HN : Hid _ := hX
  clear hw2 hb1 hb2 hcv
  go_upto_region 3 with fail
  rw [← HN.out]
  have HW2 := HW.out
  rw [← HW2]
  clear HW2 HW HN hX
  go_wp2_with fail
  refine (H2.out w2).mono ?_
  rintro x w3 ⟨rfl, hb3⟩
  have hx3 := hx2.below hb3 hx2.lt
  have hB3 := bel_call hb3 hB2
  clear hx2 hB2 hb3
  obtain ⟨Y, hY⟩ : ∃ Y, Y = w3.heap.size := ⟨_, rfl⟩
  obtain ⟨w4, hw4⟩ : ∃ w4, w4 = w3.alloc (.cells #[.int .i64 de, .bool df, .string (bstr dr), .string (bstr dv), .int .u64 (dn : Int)] 25) := ⟨_, rfl⟩
  have hb4 : Below w3.heap.size w3 w4 := by rw [hw4]; exact bel_alloc (Below.refl _ _)
  have hy4 : RzB w4 Y ⟨de, df, dr, dv, dn⟩ := by rw [hw4, hY]; exact heap_alloc_new w3 _
  have hx4 := hx3.below hb4 hx3.lt
  have hB4 := bel_call hb4 hB3
  have HW : Hid _ := hw4
  have HN : Hid _ := hY
  clear hw4 hb4 hx3 hB3
  go_upto_region 4 with fail
  rw [← HN.out]
  have HW2 := HW.out
  rw [← HW2]
  clear HW2 HW HN hY
  obtain ⟨x0, x1, x2, x3, x4⟩ := hx4.facts
  obtain ⟨y0, y1, y2, y3, y4⟩ := hy4.facts
  simp only at x0 x1 x2 x3 x4 y0 y1 y2 y3 y4
  have hqe : ∀ W : World, (binOp .eql 25 (.agg #[.int .i64 de, .bool df, .string (bstr dr), .string (bstr dv), .int .u64 (dn : Int)]) (.agg #[.int .i64 de, .bool df, .string (bstr dr), .string (bstr dv), .int .u64 (dn : Int)])).run Tryd.prog W = .ok (.bool true) W := by
    intro W
    rw [rz_eql, eqR_iff.2 rfl]
  have hge := rz_guard
  have hc1 := jCol_any n
  have hc2 := rCol_any n
  generalize colL n = L at *
  have HC1 : Hid _ := hc1
  have HC2 : Hid _ := hc2
  clear hc1 hc2
  go_wp2_with fail
  refine (HC1.out w4).mono ?_
  rintro x w5 ⟨rfl, hb5⟩
  have hB5 := bel_call hb5 hB4
  clear hb5 hB4 x0 x1 x2 x3 x4 y0 y1 y2 y3 y4 hx4 hy4 hqe hge
  go_wp2_with fail
  refine (HC2.out w5).mono ?_
  rintro x w6 ⟨rfl, hb6⟩
  have hB6 := bel_call hb6 hB5
  clear hb6 hB5
  go_wp2_with fail
  refine (works17_any w6).mono ?_
  rintro x w7 ⟨rfl, hb7⟩
  have hB7 := bel_call hb7 hB6
  go_wp2
  go_ret
  exact ⟨rfl, hB7⟩

end Go.Proofs.YtmgibkglbddlpaaDoor
