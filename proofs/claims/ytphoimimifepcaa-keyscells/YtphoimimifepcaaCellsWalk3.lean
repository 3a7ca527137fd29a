/-
  The walk of the law KeysCells over this seat's translation: it returns true, and of what was there nothing has turned.
-/
import Derived.Test.YtphoimimifepcaaKCell
namespace Go.Proofs.Ytphoimimifepcaa
open Go.RowKit Go.BigFrame
attribute [local go_sem] size_bstr toList_bstr ls_def

theorem ct_neg (a b : List UInt8) : ct b a = - ct a b := by
  rcases ls_tri a b with h | rfl | h
  · rw [ct_lt h, ct_gt h]; rfl
  · rw [ct_self]; rfl
  · rw [ct_lt h, ct_gt h]
theorem ci_neg (a b : Int) : Lib.compareInt b a = - Lib.compareInt a b := by
  unfold Lib.compareInt
  (repeat' split) <;> omega
theorem or3_neg (x y z : Int) : or3 (-x) (-y) (-z) = - or3 x y z := by
  unfold or3
  by_cases hx : x = 0
  · subst hx
    by_cases hy : y = 0
    · subst hy; rfl
    · rw [if_pos (by omega), if_pos rfl, if_neg (by omega), if_neg hy]
  · rw [if_neg (by omega), if_neg hx]
theorem cc_neg (r c : List UInt8) (v : Int) (r' c' : List UInt8) (v' : Int) : cc r' c' v' r c v = - cc r c v r' c' v' := by
  unfold cc
  rw [ct_neg r r', ct_neg c c', ci_neg v' v, or3_neg]
theorem ct_range (a b : List UInt8) : -1 ≤ ct a b ∧ ct a b ≤ 1 := by unfold ct; (repeat' split) <;> omega
theorem cc_range (r c : List UInt8) (v : Int) (r' c' : List UInt8) (v' : Int) : -1 ≤ cc r c v r' c' v' ∧ cc r c v r' c' v' ≤ 1 := by
  have h1 := ct_range r r'
  have h2 := ct_range c c'
  unfold cc or3 Lib.compareInt
  (repeat' split) <;> omega

set_option maxHeartbeats 4000000 in
set_option maxRecDepth 100000 in
theorem cells_walk (r c : List UInt8) (v : Int) (g : Bool) (x r' c' : List UInt8) (v' : Int) (g' : Bool) (x' : List UInt8) (w : World) :
    Calls Try.prog 5 #[cellV r c v g x, cellV r' c' v' g' x'] w fun e w' => e = .returned (.bool true) ∧ Below w.heap.size w w' := by
  have hn := cc_neg r c v r' c' v'
  have hr := cc_range r c v r' c' v'
  have c2 := RCmp_any r c v g x r' c' v' g' x'
  have c4 := Cell_any r c v g x
  have c5 := RCell_any r c v g x
  generalize (if mayC r c v g x = true then (0 : Int) else 2) = y at c4 c5
  have hB : Below w.heap.size w ((w.alloc (.cells #[.string (bstr r), .string (bstr c), .int .u64 v, .bool g, .string (bstr x)] 39)).alloc (.cells #[.string (bstr r'), .string (bstr c'), .int .u64 v', .bool g', .string (bstr x')] 39)) := ((Below.refl _ _).alloc (Nat.le_refl _) _).alloc (by simp) _
  go_enter Try.func5, Try.ntmps5
  go_wp2_with fail
  have ra := (CellAt.new w 39 r c v g x).alloc (.cells #[.string (bstr r'), .string (bstr c'), .int .u64 v', .bool g', .string (bstr x')] 39)
  have rb := CellAt.new2 w (.cells #[.string (bstr r), .string (bstr c), .int .u64 v, .bool g, .string (bstr x)] 39) 39 r' c' v' g' x'
  generalize ((w.alloc (.cells #[.string (bstr r), .string (bstr c), .int .u64 v, .bool g, .string (bstr x)] 39)).alloc (.cells #[.string (bstr r'), .string (bstr c'), .int .u64 v', .bool g', .string (bstr x')] 39)) = W at *
  have q0 := fun d os => cell_regrown ra.c0 d os
  have p0 := fun d os => cell_regrown rb.c0 d os
  have q1 := fun d os => cell_regrown ra.c1 d os
  have p1 := fun d os => cell_regrown rb.c1 d os
  have q2 := fun d os => cell_regrown ra.c2 d os
  have p2 := fun d os => cell_regrown rb.c2 d os
  have q3 := fun d os => cell_regrown ra.c3 d os
  have p3 := fun d os => cell_regrown rb.c3 d os
  have q4 := fun d os => cell_regrown ra.c4 d os
  have p4 := fun d os => cell_regrown rb.c4 d os
  clear ra rb
  have hw : (cc r c v r' c' v' == cc r c v r' c' v') = true := by simp
  refine wp_region_quiet_below (by kernel_rfl) (by kernel_rfl) ?_
  repeat (go_big_quiet_step (first
    | (go_at_call 24; exact Calls.regrown_of (Cmp_any _ _ _ _ _ _ _ _ _ _ _))
    | (go_at_call 25; exact Calls.regrown_of (c2 _))
    | (go_at_call 26; exact Calls.regrown_of (c4 _))
    | (go_at_call 27; exact Calls.regrown_of (c5 _))
    | (go_at_call 21; exact Calls.regrown_of (works_any _))))
  refine wpQuiet_nil ?_
  intro _ hw'
  obtain ⟨⟨dq, osq⟩, hw''⟩ := hw'
  subst hw''
  replace hB := below2 hB (below_regrown W dq osq)
  go_wp2
  go_ret
  exact ⟨rfl, hB⟩

end Go.Proofs.Ytphoimimifepcaa
