/-
  session.Col: of a client.
-/
import Derived.Test.YtmgibkglbddlpaaDoorJMath
import Derived.Test.YtmgibkglbddlpaaDoorJEnc
namespace Go.Proofs.YtmgibkglbddlpaaDoor
open Go.RowKit Go.BigFrame
attribute [local go_sem] size_bstr toList_bstr append_bstr

set_option maxHeartbeats 1000000 in
theorem small0 (w : World) : Calls Tryd.prog 64 #[.int .i64 0] w fun e w' => e = .returned (.string (bstr [48])) ∧ w' = w := by
  go_enter Tryd.func64, Tryd.ntmps64
  go_wp2
  go_ret
  exact ⟨rfl, rfl⟩
set_option maxHeartbeats 1000000 in
theorem small3 (w : World) : Calls Tryd.prog 64 #[.int .i64 3] w fun e w' => e = .returned (.string (bstr [51])) ∧ w' = w := by
  go_enter Tryd.func64, Tryd.ntmps64
  go_wp2
  go_ret
  exact ⟨rfl, rfl⟩
set_option maxHeartbeats 1000000 in
theorem itoa0 (w : World) : Calls Tryd.prog 15 #[.int .i64 0] w fun e w' => e = .returned (.string (bstr [48])) ∧ w' = w := by
  have h1 : Calls Tryd.prog 44 #[.int .i64 0, .int .i64 10] w fun e w' => e = .returned (.string (bstr [48])) ∧ w' = w := by
    go_enter Tryd.func44, Tryd.ntmps44
    go_wp2_with fail
    refine (small0 _).mono ?_
    rintro e w1 ⟨rfl, rfl⟩
    go_wp2
    go_ret
    exact ⟨rfl, rfl⟩
  have h2 : Calls Tryd.prog 26 #[.int .i64 0] w fun e w' => e = .returned (.string (bstr [48])) ∧ w' = w := by
    go_enter Tryd.func26, Tryd.ntmps26
    go_wp2_with fail
    refine h1.mono ?_
    rintro e w1 ⟨rfl, rfl⟩
    go_wp2
    go_ret
    exact ⟨rfl, rfl⟩
  go_enter Tryd.func15, Tryd.ntmps15
  go_wp2_with fail
  refine h2.mono ?_
  rintro e w1 ⟨rfl, rfl⟩
  go_wp2
  go_ret
  exact ⟨rfl, rfl⟩
set_option maxHeartbeats 1000000 in
theorem itoa3 (w : World) : Calls Tryd.prog 15 #[.int .i64 3] w fun e w' => e = .returned (.string (bstr [51])) ∧ w' = w := by
  have h1 : Calls Tryd.prog 44 #[.int .i64 3, .int .i64 10] w fun e w' => e = .returned (.string (bstr [51])) ∧ w' = w := by
    go_enter Tryd.func44, Tryd.ntmps44
    go_wp2_with fail
    refine (small3 _).mono ?_
    rintro e w1 ⟨rfl, rfl⟩
    go_wp2
    go_ret
    exact ⟨rfl, rfl⟩
  have h2 : Calls Tryd.prog 26 #[.int .i64 3] w fun e w' => e = .returned (.string (bstr [51])) ∧ w' = w := by
    go_enter Tryd.func26, Tryd.ntmps26
    go_wp2_with fail
    refine h1.mono ?_
    rintro e w1 ⟨rfl, rfl⟩
    go_wp2
    go_ret
    exact ⟨rfl, rfl⟩
  go_enter Tryd.func15, Tryd.ntmps15
  go_wp2_with fail
  refine h2.mono ?_
  rintro e w1 ⟨rfl, rfl⟩
  go_wp2
  go_ret
  exact ⟨rfl, rfl⟩

set_option maxHeartbeats 1000000 in
theorem col0 (w : World) : Calls Tryd.prog 7 #[.int .i64 0] w fun e w' => e = .returned (.string (bstr [115, 48])) ∧ Below w.heap.size w w' := by
  go_enter Tryd.func7, Tryd.ntmps7
  go_wp2_with fail
  refine (itoa0 _).mono ?_
  rintro e w1 ⟨rfl, rfl⟩
  go_wp2
  go_ret
  exact ⟨rfl, Below.refl _ _⟩
set_option maxHeartbeats 1000000 in
theorem col3 (w : World) : Calls Tryd.prog 7 #[.int .i64 3] w fun e w' => e = .returned (.string (bstr [115, 51])) ∧ Below w.heap.size w w' := by
  go_enter Tryd.func7, Tryd.ntmps7
  go_wp2_with fail
  refine (itoa3 _).mono ?_
  rintro e w1 ⟨rfl, rfl⟩
  go_wp2
  go_ret
  exact ⟨rfl, Below.refl _ _⟩
theorem col4 (w : World) : Calls Tryd.prog 7 #[.int .i64 4] w fun e w' => e = .returned (.string ⟨#[]⟩) ∧ Below w.heap.size w w' := by
  go_enter Tryd.func7, Tryd.ntmps7
  go_wp2
  go_ret
  exact ⟨rfl, Below.refl _ _⟩
theorem colm (w : World) : Calls Tryd.prog 7 #[.int .i64 (-1)] w fun e w' => e = .returned (.string ⟨#[]⟩) ∧ Below w.heap.size w w' := by
  go_enter Tryd.func7, Tryd.ntmps7
  go_wp2
  go_ret
  exact ⟨rfl, Below.refl _ _⟩

end Go.Proofs.YtmgibkglbddlpaaDoor
