/-
  What a gap says of texts; ranges that are split again and again cover all.
-/
import Derived.Test.YtenofgjbkeppoaaKGapMath
import Derived.Test.YtenofgjbkeppoaaPartsWalk3
namespace Go.Proofs.Ytenofgjbkeppoaa

/-- What a gap has, no range has; what is ahead of it, one has. -/
theorem gap_has {rs : List Rg} {a b t : List UInt8} (h : GapSpec rs (some (a, b))) (hc : cov rs t) : hasB a b t = false := by
  obtain ⟨h1, _, h3, _⟩ := h
  obtain ⟨r, hr, hm, hh⟩ := hc
  cases hx : hasB a b t with
  | false => rfl
  | true =>
    exfalso
    obtain ⟨x1, x2⟩ := (hasB_iff _ _ _).1 hx
    obtain ⟨y1, y2⟩ := (hasB_iff _ _ _).1 hh
    cases hl : ls a r.1 with
    | false =>
      refine h1 ⟨r, hr, hm, (hasB_iff _ _ _).2 ⟨hl, ?_⟩⟩
      rcases y2 with y2 | y2
      · exact Or.inl y2
      · exact Or.inr (ls_of_not x1 y2)
    | true =>
      obtain ⟨z1, z2⟩ := h3 r hr hm hl
      have ht : ls t b = true := x2.resolve_left z1
      have hr1 : ls r.1 b = true := ls_of_not y1 ht
      rw [hr1] at z2
      cases z2
theorem gap_ahead {rs : List Rg} {a b t : List UInt8} (h : GapSpec rs (some (a, b))) (hc : ¬ cov rs t) : ls t a = false := by
  cases hx : ls t a with
  | false => rfl
  | true => exact absurd (h.2.1 t hx) hc

/-- All texts are covered. -/
def Full (rs : List Rg) : Prop := ∀ t, cov rs t
theorem Full.start : Full [([], [])] := fun t => ⟨([], []), by simp, by decide, by simp [hasB, ls_nil]⟩
theorem Full.split {rs : List Rg} {k : Nat} {t : List UInt8} (h : Full rs) (hk : k < rs.length) (hs : splitB (rs[k]).1 (rs[k]).2 t = true) : Full (rs.set k ((rs[k]).1, t) ++ [(t, (rs[k]).2)]) := by
  intro u
  obtain ⟨r, hr, hm, hh⟩ := h u
  obtain ⟨i, hi, rfl⟩ := mem_idx hr
  by_cases hik : i = k
  · subst hik
    have hx := (split_has hs u).2
    rw [hh] at hx
    cases h1 : hasB (rs[i]).1 t u with
    | true =>
      refine ⟨((rs[i]).1, t), ?_, split_may1 hs, h1⟩
      rw [List.mem_append]
      left
      generalize ((rs[i]).1, t) = y
      have e : (rs.set i y)[i]'(by simpa using hk) = y := List.getElem_set_self _
      have m : (rs.set i y)[i]'(by simpa using hk) ∈ rs.set i y := List.getElem_mem _
      rw [e] at m
      exact m
    | false =>
      rw [h1, Bool.false_or] at hx
      exact ⟨(t, (rs[i]).2), by simp, split_may2 hs, hx.symm⟩
  · refine ⟨rs[i], ?_, hm, hh⟩
    rw [List.mem_append]
    left
    have e : (rs.set k ((rs[k]).1, t))[i]'(by simpa using hi) = rs[i] := by rw [List.getElem_set_ne (fun e => hik e.symm)]
    rw [← e]
    exact List.getElem_mem _

end Go.Proofs.Ytenofgjbkeppoaa
