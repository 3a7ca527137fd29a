/-
  The walk of the law KeysParts over this seat's translation: it returns true, and of what was there nothing has turned.
-/
import Derived.Test.YtphoimimifepcaaKWorks
import Derived.BigQuiet
namespace Go.Proofs.Ytphoimimifepcaa
open Go.RowKit Go.BigFrame
attribute [local go_sem] size_bstr toList_bstr ls_def
attribute [local go_sem high] rng_eql rng_neq rng_guard

theorem split_lt {lo hi k : List UInt8} (h : splitB lo hi k = true) : ls lo k = true ∧ k ≠ [] ∧ (hi = [] ∨ ls k hi = true) ∧ lo.length ≤ 24 ∧ hi.length ≤ 24 ∧ k.length ≤ 24 := by
  obtain ⟨hm, hk, hh, hne⟩ := (splitB_iff lo hi k).1 h
  obtain ⟨h1, h2, _⟩ := (mayB_iff lo hi).1 hm
  obtain ⟨h4, h5⟩ := (hasB_iff lo hi k).1 hh
  have hl : ls lo k = true := by
    rcases ls_tri lo k with h | h | h
    · exact h
    · exact absurd h.symm hne
    · rw [h] at h4; cases h4
  refine ⟨hl, ?_, h5, h1, h2, hk⟩
  rintro rfl
  rw [ls_nil] at hl
  cases hl
theorem split_may1 {lo hi k : List UInt8} (h : splitB lo hi k = true) : mayB lo k = true := by
  obtain ⟨h1, h2, h3, h4, h5, h6⟩ := split_lt h
  exact (mayB_iff _ _).2 ⟨h4, h6, Or.inr h1⟩
theorem split_may2 {lo hi k : List UInt8} (h : splitB lo hi k = true) : mayB k hi = true := by
  obtain ⟨h1, h2, h3, h4, h5, h6⟩ := split_lt h
  exact (mayB_iff _ _).2 ⟨h6, h5, h3⟩
theorem split_has {lo hi k : List UInt8} (h : splitB lo hi k = true) (t : List UInt8) : (hasB lo k t && hasB k hi t) = false ∧ hasB lo hi t = (hasB lo k t || hasB k hi t) := by
  obtain ⟨h1, h2, h3, _⟩ := split_lt h
  have e : (k == ([] : List UInt8)) = false := by simpa using h2
  unfold hasB
  rw [e]
  simp only [Bool.false_or]
  cases ht : ls t k with
  | true =>
    have : (hi == [] || ls t hi) = true := by
      rcases h3 with rfl | h3
      · rfl
      · rw [ls_trans ht h3]; simp
    rw [this]
    simp
  | false =>
    have : ls t lo = false := by
      cases hx : ls t lo with
      | false => rfl
      | true => rw [ls_trans hx h1] at ht; cases ht
    simp [this]
theorem maxT_right {a b : List UInt8} (h : ls a b = true) : maxT a b = b := by unfold maxT; rw [if_pos h]
theorem maxT_self (a : List UInt8) : maxT a a = a := by unfold maxT; split <;> rfl
theorem split_meet1 {lo hi k : List UInt8} (h : splitB lo hi k = true) : meetB lo k k hi = false := by
  obtain ⟨h1, h2, h3, _⟩ := split_lt h
  have e : (k == ([] : List UInt8)) = false := by simpa using h2
  unfold meetB
  rw [maxT_right h1]
  simp [hasB, e, ls_irrefl]
theorem split_lo {lo hi k : List UInt8} (h : splitB lo hi k = true) : hasB lo k lo = true := by
  obtain ⟨h1, _⟩ := split_lt h
  simp [hasB, ls_irrefl, h1]
theorem split_k {lo hi k : List UInt8} (h : splitB lo hi k = true) : hasB k hi k = true := by
  obtain ⟨_, _, h3, _⟩ := split_lt h
  rcases h3 with rfl | h3
  · simp [hasB, ls_irrefl]
  · simp [hasB, ls_irrefl, h3]
theorem split_meet2 {lo hi k : List UInt8} (h : splitB lo hi k = true) : meetB lo hi lo k = true := by
  have := (split_has h lo).2
  rw [split_lo h, Bool.true_or] at this
  unfold meetB
  rw [maxT_self, this, split_lo h]
  rfl
theorem split_meet3 {lo hi k : List UInt8} (h : splitB lo hi k = true) : meetB lo hi k hi = true := by
  obtain ⟨h1, _⟩ := split_lt h
  have := (split_has h k).2
  rw [split_k h, Bool.or_true] at this
  unfold meetB
  rw [maxT_right h1, this, split_k h]
  rfl

set_option maxHeartbeats 4000000 in
set_option maxRecDepth 100000 in
theorem parts_ok (lo hi k t : List UInt8) (x y : Bool) (w : World) (hs : splitB lo hi k = true) (hx : hasB lo k t = x) (hy : hasB k hi t = y) (hxy : (x && y) = false) :
    Calls Try.prog 6 #[rngV lo hi, .string (bstr k), .string (bstr t)] w fun e w' => e = .returned (.bool true) ∧ Below w.heap.size w w' := by
  have hsp := Split_ok lo hi k
  have c1 := Check_any lo k
  rw [split_may1 hs, if_pos rfl] at c1
  have c2 := Check_any k hi
  rw [split_may2 hs, if_pos rfl] at c2
  have c5 := Has_any lo hi t
  rw [(split_has hs t).2, hx, hy] at c5
  have c6 := Meet_any lo k k hi
  rw [split_meet1 hs] at c6
  have c7 := Meet_any lo hi lo k
  rw [split_meet2 hs] at c7
  have c8 := Meet_any lo hi k hi
  rw [split_meet3 hs] at c8
  have c9 := Has_any lo k lo
  rw [split_lo hs] at c9
  have ca := Has_any k hi k
  rw [split_k hs] at ca
  replace hsp := fun w => hsp w hs
  clear hs
  have hB : Below w.heap.size w (w.alloc (.cells #[.string (bstr lo), .string (bstr hi)] 23)) := (Below.refl _ _).alloc (Nat.le_refl _) _
  go_enter Try.func6, Try.ntmps6
  go_wp2_with fail
  refine (hsp _).mono ?_
  rintro e w1 ⟨rfl, hb1⟩
  have ra := (RngAt.new w 23 lo hi).step hb1
  replace hB := below2 hB hb1
  clear hb1 hsp
  go_wp2_with fail
  replace ra := (ra.alloc (.cells #[.string (bstr lo), .string (bstr k)] 23)).alloc (.cells #[.string (bstr k), .string (bstr hi)] 23)
  have rp := (RngAt.new w1 23 lo k).alloc (.cells #[.string (bstr k), .string (bstr hi)] 23)
  have rq := RngAt.new2 w1 (.cells #[.string (bstr lo), .string (bstr k)] 23) 23 k hi
  replace hB := (hB.alloc hB.size (.cells #[.string (bstr lo), .string (bstr k)] 23)).alloc (Nat.le_trans hB.size (by simp)) (.cells #[.string (bstr k), .string (bstr hi)] 23)
  generalize ((w1.alloc (.cells #[.string (bstr lo), .string (bstr k)] 23)).alloc (.cells #[.string (bstr k), .string (bstr hi)] 23)) = W at *
  have q0 := fun d os => cell_regrown rp.c0 d os
  have q1 := fun d os => cell_regrown rp.c1 d os
  have q2 := fun d os => cell_regrown rq.c0 d os
  have q3 := fun d os => cell_regrown rq.c1 d os
  refine wp_region_quiet_below (by kernel_rfl) (by kernel_rfl) ?_
  repeat (go_big_quiet_step ((go_at_call 17; exact Calls.regrown_of (Has_any _ _ _ _))))
  refine wpQuiet_nil ?_
  intro _ hw'
  obtain ⟨⟨dq, osq⟩, hw''⟩ := hw'
  subst hw''
  replace hB := below2 hB (below_regrown W dq osq)
  replace ra := ra.step (below_regrown W dq osq)
  replace rp := rp.step (below_regrown W dq osq)
  replace rq := rq.step (below_regrown W dq osq)
  clear q0 q1 q2 q3
  rw [hx, hy]
  clear hx hy
  generalize Sort.grow (redrawn W dq) osq = W2 at *
  have hxy2 : (x && y) = false := hxy
  clear hxy
  obtain ⟨rfl, rfl⟩ | ⟨rfl, rfl⟩ | ⟨rfl, rfl⟩ : (x = true ∧ y = false) ∨ (x = false ∧ y = true) ∨ (x = false ∧ y = false) := by cases x <;> cases y <;> simp_all
  all_goals
    obtain ⟨a0, a1⟩ := id ra
    obtain ⟨p0, p1⟩ := id rp
    obtain ⟨r0, r1⟩ := id rq
    go_wp2_with fail
    refine (c1 _).mono ?_
    rintro e x0 ⟨rfl, hb⟩
    replace ra := ra.step hb
    replace rp := rp.step hb
    replace rq := rq.step hb
    replace hB := below2 hB hb
    clear hb a0 a1 p0 p1 r0 r1
    obtain ⟨a0, a1⟩ := id ra
    obtain ⟨p0, p1⟩ := id rp
    obtain ⟨r0, r1⟩ := id rq
    go_wp2_with fail
    refine (c2 _).mono ?_
    rintro e x1 ⟨rfl, hb⟩
    replace ra := ra.step hb
    replace rp := rp.step hb
    replace rq := rq.step hb
    replace hB := below2 hB hb
    clear hb a0 a1 p0 p1 r0 r1
    obtain ⟨a0, a1⟩ := id ra
    obtain ⟨p0, p1⟩ := id rp
    obtain ⟨r0, r1⟩ := id rq
    go_wp2_with fail
    refine (c5 _).mono ?_
    rintro e x2 ⟨rfl, hb⟩
    replace ra := ra.step hb
    replace rp := rp.step hb
    replace rq := rq.step hb
    replace hB := below2 hB hb
    clear hb a0 a1 p0 p1 r0 r1
    obtain ⟨a0, a1⟩ := id ra
    obtain ⟨p0, p1⟩ := id rp
    obtain ⟨r0, r1⟩ := id rq
    go_wp2_with fail
    refine (c6 _).mono ?_
    rintro e x3 ⟨rfl, hb⟩
    replace ra := ra.step hb
    replace rp := rp.step hb
    replace rq := rq.step hb
    replace hB := below2 hB hb
    clear hb a0 a1 p0 p1 r0 r1
    obtain ⟨a0, a1⟩ := id ra
    obtain ⟨p0, p1⟩ := id rp
    obtain ⟨r0, r1⟩ := id rq
    go_wp2_with fail
    refine (c7 _).mono ?_
    rintro e x4 ⟨rfl, hb⟩
    replace ra := ra.step hb
    replace rp := rp.step hb
    replace rq := rq.step hb
    replace hB := below2 hB hb
    clear hb a0 a1 p0 p1 r0 r1
    obtain ⟨a0, a1⟩ := id ra
    obtain ⟨p0, p1⟩ := id rp
    obtain ⟨r0, r1⟩ := id rq
    go_wp2_with fail
    refine (c8 _).mono ?_
    rintro e x5 ⟨rfl, hb⟩
    replace ra := ra.step hb
    replace rp := rp.step hb
    replace rq := rq.step hb
    replace hB := below2 hB hb
    clear hb a0 a1 p0 p1 r0 r1
    obtain ⟨a0, a1⟩ := id ra
    obtain ⟨p0, p1⟩ := id rp
    obtain ⟨r0, r1⟩ := id rq
    go_wp2_with fail
    refine (c9 _).mono ?_
    rintro e x6 ⟨rfl, hb⟩
    replace ra := ra.step hb
    replace rp := rp.step hb
    replace rq := rq.step hb
    replace hB := below2 hB hb
    clear hb a0 a1 p0 p1 r0 r1
    obtain ⟨a0, a1⟩ := id ra
    obtain ⟨p0, p1⟩ := id rp
    obtain ⟨r0, r1⟩ := id rq
    go_wp2_with fail
    refine (ca _).mono ?_
    rintro e x7 ⟨rfl, hb⟩
    replace ra := ra.step hb
    replace rp := rp.step hb
    replace rq := rq.step hb
    replace hB := below2 hB hb
    clear hb a0 a1 p0 p1 r0 r1
    go_wp2_with fail
    refine (works_any _).mono ?_
    rintro e x9 ⟨rfl, hb⟩
    replace hB := below2 hB hb
    clear hb ra rp rq
    go_wp2
    go_ret
    exact ⟨rfl, hB⟩

set_option maxHeartbeats 4000000 in
set_option maxRecDepth 100000 in
theorem parts_no (lo hi k t : List UInt8) (w : World) (hs : splitB lo hi k = false) :
    Calls Try.prog 6 #[rngV lo hi, .string (bstr k), .string (bstr t)] w fun e w' => e = .returned (.bool true) ∧ Below w.heap.size w w' := by
  have hsp := Split_any lo hi k
  have hv : splitV lo hi k = triV [] [] [] [] 2 := by unfold splitV; rw [if_neg (by rw [hs]; simp)]
  rw [hv] at hsp
  have hE : ∀ W : World, (binOp .eql 23 (.agg #[.string (bstr []), .string (bstr [])]) (.agg #[.string ⟨#[]⟩, .string ⟨#[]⟩])).run Try.prog W = .ok (.bool true) W := fun W => rng_eql [] [] [] [] W
  have hB : Below w.heap.size w (w.alloc (.cells #[.string (bstr lo), .string (bstr hi)] 23)) := (Below.refl _ _).alloc (Nat.le_refl _) _
  clear hs hv
  go_enter Try.func6, Try.ntmps6
  go_wp2_with fail
  refine (hsp _).mono ?_
  rintro e w1 ⟨rfl, hb1⟩
  replace hB := below2 hB hb1
  clear hb1 hsp
  go_wp2_with fail
  refine (works_any _).mono ?_
  rintro e w2 ⟨rfl, hb2⟩
  replace hB := below2 ((hB.alloc hB.size _).alloc (Nat.le_trans hB.size (by simp)) _) hb2
  clear hb2
  go_wp2
  go_ret
  exact ⟨rfl, hB⟩

theorem parts_walk (lo hi k t : List UInt8) (w : World) :
    Calls Try.prog 6 #[rngV lo hi, .string (bstr k), .string (bstr t)] w fun e w' => e = .returned (.bool true) ∧ Below w.heap.size w w' := by
  cases hs : splitB lo hi k with
  | true => exact parts_ok lo hi k t _ _ w hs rfl rfl (split_has hs t).1
  | false => exact parts_no lo hi k t w hs

end Go.Proofs.Ytphoimimifepcaa
