/-
  The walk of the law KeysParts over this seat's translation: it returns true, and of what was there nothing has turned.
-/
import Derived.Test.YtenofgjbkeppoaaKWorks
import Derived.BigQuiet
namespace Go.Proofs.Ytenofgjbkeppoaa
open Go.RowKit Go.BigFrame
attribute [local go_sem] size_bstr toList_bstr ls_def
attribute [local go_sem high] rng_eql rng_neq rng_guard

theorem split_lt {lo hi k : List UInt8} (h : splitB lo hi k = true) : ls lo k = true ∧ k ≠ [] ∧ (hi = [] ∨ ls k hi = true) ∧ lo.length ≤ 24 ∧ hi.length ≤ 24 ∧ k.length ≤ 24 := by
  obtain ⟨hm, hk, hh, hne⟩ := (splitB_iff lo hi k).1 h
  obtain ⟨h1, h2, _⟩ := (mayB_iff lo hi).1 hm
  obtain ⟨h4, h5⟩ := (hasB_iff lo hi k).1 hh
  have hl : ls lo k = true := by
    rcases ls_tri lo k with h | h | h
    · exact h
    · exact absurd h.symm hne
    · rw [h] at h4; cases h4
  refine ⟨hl, ?_, h5, h1, h2, hk⟩
  rintro rfl
  rw [ls_nil] at hl
  cases hl
theorem split_may1 {lo hi k : List UInt8} (h : splitB lo hi k = true) : mayB lo k = true := by
  obtain ⟨h1, h2, h3, h4, h5, h6⟩ := split_lt h
  exact (mayB_iff _ _).2 ⟨h4, h6, Or.inr h1⟩
theorem split_may2 {lo hi k : List UInt8} (h : splitB lo hi k = true) : mayB k hi = true := by
  obtain ⟨h1, h2, h3, h4, h5, h6⟩ := split_lt h
  exact (mayB_iff _ _).2 ⟨h6, h5, h3⟩
theorem split_has {lo hi k : List UInt8} (h : splitB lo hi k = true) (t : List UInt8) : (hasB lo k t && hasB k hi t) = false ∧ hasB lo hi t = (hasB lo k t || hasB k hi t) := by
  obtain ⟨h1, h2, h3, _⟩ := split_lt h
  have e : (k == ([] : List UInt8)) = false := by simpa using h2
  unfold hasB
  rw [e]
  simp only [Bool.false_or]
  cases ht : ls t k with
  | true =>
    have : (hi == [] || ls t hi) = true := by
      rcases h3 with rfl | h3
      · rfl
      · rw [ls_trans ht h3]; simp
    rw [this]
    simp
  | false =>
    have : ls t lo = false := by
      cases hx : ls t lo with
      | false => rfl
      | true => rw [ls_trans hx h1] at ht; cases ht
    simp [this]
theorem maxT_right {a b : List UInt8} (h : ls a b = true) : maxT a b = b := by unfold maxT; rw [if_pos h]
theorem maxT_self (a : List UInt8) : maxT a a = a := by unfold maxT; split <;> rfl
theorem split_meet1 {lo hi k : List UInt8} (h : splitB lo hi k = true) : meetB lo k k hi = false := by
  obtain ⟨h1, h2, h3, _⟩ := split_lt h
  have e : (k == ([] : List UInt8)) = false := by simpa using h2
  unfold meetB
  rw [maxT_right h1]
  simp [hasB, e, ls_irrefl]
theorem split_lo {lo hi k : List UInt8} (h : splitB lo hi k = true) : hasB lo k lo = true := by
  obtain ⟨h1, _⟩ := split_lt h
  simp [hasB, ls_irrefl, h1]
theorem split_k {lo hi k : List UInt8} (h : splitB lo hi k = true) : hasB k hi k = true := by
  obtain ⟨_, _, h3, _⟩ := split_lt h
  rcases h3 with rfl | h3
  · simp [hasB, ls_irrefl]
  · simp [hasB, ls_irrefl, h3]
theorem split_meet2 {lo hi k : List UInt8} (h : splitB lo hi k = true) : meetB lo hi lo k = true := by
  have := (split_has h lo).2
  rw [split_lo h, Bool.true_or] at this
  unfold meetB
  rw [maxT_self, this, split_lo h]
  rfl
theorem split_meet3 {lo hi k : List UInt8} (h : splitB lo hi k = true) : meetB lo hi k hi = true := by
  obtain ⟨h1, _⟩ := split_lt h
  have := (split_has h k).2
  rw [split_k h, Bool.or_true] at this
  unfold meetB
  rw [maxT_right h1, this, split_k h]
  rfl

end Go.Proofs.Ytenofgjbkeppoaa
