/-
  The walk of the law KeysRanges over this seat's translation: it returns true, and of what was there nothing has turned.
-/
import Derived.Test.YtphoimimifepcaaKWorks
import Derived.BigQuiet
namespace Go.Proofs.Ytphoimimifepcaa
open Go.RowKit Go.BigFrame
attribute [local go_sem] size_bstr toList_bstr ls_def
attribute [local go_sem high] rng_eql rng_neq rng_guard

/-- A split's answer, written out. -/
theorem splitV_ex (lo hi k : List UInt8) : ∃ p q r s n, splitV lo hi k = triV p q r s n := by
  unfold splitV
  by_cases h : splitB lo hi k = true
  · rw [if_pos h]; exact ⟨_, _, _, _, _, rfl⟩
  · rw [if_neg h]; exact ⟨_, _, _, _, _, rfl⟩

set_option maxHeartbeats 4000000 in
set_option maxRecDepth 100000 in
theorem ranges_walk (a b c d k : List UInt8) (w : World) :
    Calls Try.prog 3 #[rngV a b, rngV c d, .string (bstr k)] w fun e w' => e = .returned (.bool true) ∧ Below w.heap.size w w' := by
  have hsp := Split_any a b k
  have hrs := RSplit_any a b k
  obtain ⟨p, q, r, s, n, hv⟩ := splitV_ex a b k
  rw [hv] at hsp hrs
  clear hv
  have c1 := User_any k
  have c2 := RUser_any k
  generalize userB k = x1 at c1 c2
  have c3 := Stored_any k
  have c4 := RStored_any k
  generalize storedB k = x2 at c3 c4
  have c5 := Check_any a b
  have c6 := RCheck_any a b
  generalize (if mayB a b = true then (0 : Int) else 2) = x3 at c5 c6
  have c7 := Has_any a b k
  have c8 := RHas_any a b k
  generalize hasB a b k = x4 at c7 c8
  have c9 := Meet_any a b c d
  have c10 := RMeet_any a b c d
  generalize meetB a b c d = x5 at c9 c10
  have hB : Below w.heap.size w ((w.alloc (.cells #[.string (bstr a), .string (bstr b)] 23)).alloc (.cells #[.string (bstr c), .string (bstr d)] 23)) := ((Below.refl _ _).alloc (Nat.le_refl _) _).alloc (by simp) _
  go_enter Try.func3, Try.ntmps3
  go_wp2_with fail
  refine (hsp _).mono ?_
  rintro e w1 ⟨rfl, hb1⟩
  have ra := ((RngAt.new w 23 a b).alloc (.cells #[.string (bstr c), .string (bstr d)] 23)).step hb1
  have rc := (RngAt.new2 w (.cells #[.string (bstr a), .string (bstr b)] 23) 23 c d).step hb1
  replace hB := below2 hB hb1
  clear hb1 hsp
  obtain ⟨a0, a1⟩ := id ra
  have l0 := ra.lt
  have l2 : w.heap.size < w1.heap.size + 1 := by omega
  go_wp2_with fail
  refine (hrs _).mono ?_
  rintro e w2 ⟨rfl, hb2⟩
  clear a0 a1 hrs
  replace ra := ((ra.alloc (.cells #[.string (bstr p), .string (bstr q)] 23)).alloc (.cells #[.string (bstr r), .string (bstr s)] 23)).step hb2
  replace rc := ((rc.alloc (.cells #[.string (bstr p), .string (bstr q)] 23)).alloc (.cells #[.string (bstr r), .string (bstr s)] 23)).step hb2
  have rp := ((RngAt.new w1 23 p q).alloc (.cells #[.string (bstr r), .string (bstr s)] 23)).step hb2
  have rr := (RngAt.new2 w1 (.cells #[.string (bstr p), .string (bstr q)] 23) 23 r s).step hb2
  replace hB := below2 ((hB.alloc hB.size (.cells #[.string (bstr p), .string (bstr q)] 23)).alloc (Nat.le_trans hB.size (by simp)) (.cells #[.string (bstr r), .string (bstr s)] 23)) hb2
  clear hb2
  go_wp2_with fail
  generalize hW : ((w2.alloc (.cells #[.string (bstr p), .string (bstr q)] 23)).alloc (.cells #[.string (bstr r), .string (bstr s)] 23)) = W
  replace ra := (ra.alloc (.cells #[.string (bstr p), .string (bstr q)] 23)).alloc (.cells #[.string (bstr r), .string (bstr s)] 23)
  replace rc := (rc.alloc (.cells #[.string (bstr p), .string (bstr q)] 23)).alloc (.cells #[.string (bstr r), .string (bstr s)] 23)
  replace rp := (rp.alloc (.cells #[.string (bstr p), .string (bstr q)] 23)).alloc (.cells #[.string (bstr r), .string (bstr s)] 23)
  replace rr := (rr.alloc (.cells #[.string (bstr p), .string (bstr q)] 23)).alloc (.cells #[.string (bstr r), .string (bstr s)] 23)
  have ru := (RngAt.new w2 23 p q).alloc (.cells #[.string (bstr r), .string (bstr s)] 23)
  have rv := RngAt.new2 w2 (.cells #[.string (bstr p), .string (bstr q)] 23) 23 r s
  replace hB := (hB.alloc hB.size (.cells #[.string (bstr p), .string (bstr q)] 23)).alloc (Nat.le_trans hB.size (by simp)) (.cells #[.string (bstr r), .string (bstr s)] 23)
  rw [hW] at ra rc rp rr ru rv hB
  clear hW
  have q0 := fun d os => cell_regrown ra.c0 d os
  have q1 := fun d os => cell_regrown ra.c1 d os
  have q2 := fun d os => cell_regrown rc.c0 d os
  have q3 := fun d os => cell_regrown rc.c1 d os
  have q4 := fun d os => cell_regrown rp.c0 d os
  have q5 := fun d os => cell_regrown rp.c1 d os
  have q6 := fun d os => cell_regrown rr.c0 d os
  have q7 := fun d os => cell_regrown rr.c1 d os
  have q8 := fun d os => cell_regrown ru.c0 d os
  have q9 := fun d os => cell_regrown ru.c1 d os
  have qa := fun d os => cell_regrown rv.c0 d os
  have qb := fun d os => cell_regrown rv.c1 d os
  clear ra rc rp rr ru rv l0 l2
  refine wp_region_quiet_below (by kernel_rfl) (by kernel_rfl) ?_
  repeat (go_big_quiet_step (first
    | (go_at_call 11; exact Calls.regrown_of (c1 _))
    | (go_at_call 12; exact Calls.regrown_of (c2 _))
    | (go_at_call 13; exact Calls.regrown_of (c3 _))
    | (go_at_call 14; exact Calls.regrown_of (c4 _))
    | (go_at_call 15; exact Calls.regrown_of (c5 _))
    | (go_at_call 16; exact Calls.regrown_of (c6 _))
    | (go_at_call 17; exact Calls.regrown_of (c7 _))
    | (go_at_call 18; exact Calls.regrown_of (c8 _))
    | (go_at_call 19; exact Calls.regrown_of (c9 _))
    | (go_at_call 20; exact Calls.regrown_of (c10 _))
    | (go_at_call 21; exact Calls.regrown_of (works_any _))))
  refine wpQuiet_nil ?_
  intro _ hw'
  obtain ⟨⟨dq, osq⟩, hw''⟩ := hw'
  subst hw''
  replace hB := below2 hB (below_regrown W dq osq)
  go_wp2
  go_ret
  exact ⟨rfl, hB⟩

end Go.Proofs.Ytphoimimifepcaa
