/-
  Col of any client, on both sides.
-/
import Derived.Test.YtmgibkglbddlpaaDoorJIto
import Derived.Test.YtmgibkglbddlpaaDoorJRf
namespace Go.Proofs.YtmgibkglbddlpaaDoor
open Go.RowKit Go.BigFrame
attribute [local go_sem] size_bstr toList_bstr append_bstr

set_option maxHeartbeats 1000000 in
theorem small1 (w : World) : Calls Tryd.prog 64 #[.int .i64 1] w fun e w' => e = .returned (.string (bstr [49])) ∧ w' = w := by
  go_enter Tryd.func64, Tryd.ntmps64
  go_wp2
  go_ret
  exact ⟨rfl, rfl⟩
set_option maxHeartbeats 1000000 in
theorem itoa1 (w : World) : Calls Tryd.prog 15 #[.int .i64 1] w fun e w' => e = .returned (.string (bstr [49])) ∧ w' = w := by
  have h1 : Calls Tryd.prog 44 #[.int .i64 1, .int .i64 10] w fun e w' => e = .returned (.string (bstr [49])) ∧ w' = w := by
    go_enter Tryd.func44, Tryd.ntmps44
    go_wp2_with fail
    refine (small1 _).mono ?_
    rintro e w1 ⟨rfl, rfl⟩
    go_wp2
    go_ret
    exact ⟨rfl, rfl⟩
  have h2 : Calls Tryd.prog 26 #[.int .i64 1] w fun e w' => e = .returned (.string (bstr [49])) ∧ w' = w := by
    go_enter Tryd.func26, Tryd.ntmps26
    go_wp2_with fail
    refine h1.mono ?_
    rintro e w1 ⟨rfl, rfl⟩
    go_wp2
    go_ret
    exact ⟨rfl, rfl⟩
  go_enter Tryd.func15, Tryd.ntmps15
  go_wp2_with fail
  refine h2.mono ?_
  rintro e w1 ⟨rfl, rfl⟩
  go_wp2
  go_ret
  exact ⟨rfl, rfl⟩
set_option maxHeartbeats 1000000 in
theorem col1 (w : World) : Calls Tryd.prog 7 #[.int .i64 1] w fun e w' => e = .returned (.string (bstr [115, 49])) ∧ Below w.heap.size w w' := by
  go_enter Tryd.func7, Tryd.ntmps7
  go_wp2_with fail
  refine (itoa1 _).mono ?_
  rintro e w1 ⟨rfl, rfl⟩
  go_wp2
  go_ret
  exact ⟨rfl, Below.refl _ _⟩
set_option maxHeartbeats 1000000 in
theorem small2 (w : World) : Calls Tryd.prog 64 #[.int .i64 2] w fun e w' => e = .returned (.string (bstr [50])) ∧ w' = w := by
  go_enter Tryd.func64, Tryd.ntmps64
  go_wp2
  go_ret
  exact ⟨rfl, rfl⟩
set_option maxHeartbeats 1000000 in
theorem itoa2 (w : World) : Calls Tryd.prog 15 #[.int .i64 2] w fun e w' => e = .returned (.string (bstr [50])) ∧ w' = w := by
  have h1 : Calls Tryd.prog 44 #[.int .i64 2, .int .i64 10] w fun e w' => e = .returned (.string (bstr [50])) ∧ w' = w := by
    go_enter Tryd.func44, Tryd.ntmps44
    go_wp2_with fail
    refine (small2 _).mono ?_
    rintro e w1 ⟨rfl, rfl⟩
    go_wp2
    go_ret
    exact ⟨rfl, rfl⟩
  have h2 : Calls Tryd.prog 26 #[.int .i64 2] w fun e w' => e = .returned (.string (bstr [50])) ∧ w' = w := by
    go_enter Tryd.func26, Tryd.ntmps26
    go_wp2_with fail
    refine h1.mono ?_
    rintro e w1 ⟨rfl, rfl⟩
    go_wp2
    go_ret
    exact ⟨rfl, rfl⟩
  go_enter Tryd.func15, Tryd.ntmps15
  go_wp2_with fail
  refine h2.mono ?_
  rintro e w1 ⟨rfl, rfl⟩
  go_wp2
  go_ret
  exact ⟨rfl, rfl⟩
set_option maxHeartbeats 1000000 in
theorem col2 (w : World) : Calls Tryd.prog 7 #[.int .i64 2] w fun e w' => e = .returned (.string (bstr [115, 50])) ∧ Below w.heap.size w w' := by
  go_enter Tryd.func7, Tryd.ntmps7
  go_wp2_with fail
  refine (itoa2 _).mono ?_
  rintro e w1 ⟨rfl, rfl⟩
  go_wp2
  go_ret
  exact ⟨rfl, Below.refl _ _⟩

/-- A client's column. -/
def colL (n : Int) : List UInt8 := if n = 0 then [115, 48] else if n = 1 then [115, 49] else if n = 2 then [115, 50] else if n = 3 then [115, 51] else []
theorem jCol_any (n : Int) (w : World) : Calls Tryd.prog 7 #[.int .i64 n] w fun e w' => e = .returned (.string (bstr (colL n))) ∧ Below w.heap.size w w' := by
  rcases (show n = 0 ∨ n = 1 ∨ n = 2 ∨ n = 3 ∨ n < 0 ∨ 4 ≤ n by omega) with rfl | rfl | rfl | rfl | h | h
  · exact col0 w
  · exact col1 w
  · exact col2 w
  · exact col3 w
  · have hc : colL n = [] := by unfold colL; rw [if_neg (by omega), if_neg (by omega), if_neg (by omega), if_neg (by omega)]
    rw [hc]
    go_enter Tryd.func7, Tryd.ntmps7
    go_wp2
    go_ret
    exact ⟨rfl, Below.refl _ _⟩
  · have hc : colL n = [] := by unfold colL; rw [if_neg (by omega), if_neg (by omega), if_neg (by omega), if_neg (by omega)]
    have h2 : ¬ n < 0 := by omega
    rw [hc]
    go_enter Tryd.func7, Tryd.ntmps7
    go_wp2
    go_ret
    exact ⟨rfl, Below.refl _ _⟩
set_option maxHeartbeats 1000000 in
theorem rCol_any (n : Int) (w : World) : Calls Tryd.prog 8 #[.int .i64 n] w fun e w' => e = .returned (.string (bstr (colL n))) ∧ Below w.heap.size w w' := by
  rcases (show n = 0 ∨ n = 1 ∨ n = 2 ∨ n = 3 ∨ n < 0 ∨ 4 ≤ n by omega) with rfl | rfl | rfl | rfl | h | h
  · have hc : ∀ W : World, (convert 33 9 (.slice (some ⟨W.heap.size, 0, none⟩) 1 1)).run Tryd.prog (W.alloc (.cells #[.int .u8 48] 5)) = .ok (.string (bstr [48])) (W.alloc (.cells #[.int .u8 48] 5)) := fun W => run_convert_one W 48 (by decide)
    go_enter Tryd.func8, Tryd.ntmps8
    go_wp2
    go_ret
    exact ⟨rfl, bel_alloc (Below.refl _ _)⟩
  · have hc : ∀ W : World, (convert 33 9 (.slice (some ⟨W.heap.size, 0, none⟩) 1 1)).run Tryd.prog (W.alloc (.cells #[.int .u8 49] 5)) = .ok (.string (bstr [49])) (W.alloc (.cells #[.int .u8 49] 5)) := fun W => run_convert_one W 49 (by decide)
    go_enter Tryd.func8, Tryd.ntmps8
    go_wp2
    go_ret
    exact ⟨rfl, bel_alloc (Below.refl _ _)⟩
  · have hc : ∀ W : World, (convert 33 9 (.slice (some ⟨W.heap.size, 0, none⟩) 1 1)).run Tryd.prog (W.alloc (.cells #[.int .u8 50] 5)) = .ok (.string (bstr [50])) (W.alloc (.cells #[.int .u8 50] 5)) := fun W => run_convert_one W 50 (by decide)
    go_enter Tryd.func8, Tryd.ntmps8
    go_wp2
    go_ret
    exact ⟨rfl, bel_alloc (Below.refl _ _)⟩
  · have hc : ∀ W : World, (convert 33 9 (.slice (some ⟨W.heap.size, 0, none⟩) 1 1)).run Tryd.prog (W.alloc (.cells #[.int .u8 51] 5)) = .ok (.string (bstr [51])) (W.alloc (.cells #[.int .u8 51] 5)) := fun W => run_convert_one W 51 (by decide)
    go_enter Tryd.func8, Tryd.ntmps8
    go_wp2
    go_ret
    exact ⟨rfl, bel_alloc (Below.refl _ _)⟩
  · have hc : colL n = [] := by unfold colL; rw [if_neg (by omega), if_neg (by omega), if_neg (by omega), if_neg (by omega)]
    rw [hc]
    go_enter Tryd.func8, Tryd.ntmps8
    go_wp2
    go_ret
    exact ⟨rfl, Below.refl _ _⟩
  · have hc : colL n = [] := by unfold colL; rw [if_neg (by omega), if_neg (by omega), if_neg (by omega), if_neg (by omega)]
    rw [hc]
    go_enter Tryd.func8, Tryd.ntmps8
    go_wp2
    go_ret
    exact ⟨rfl, Below.refl _ _⟩

end Go.Proofs.YtmgibkglbddlpaaDoor
