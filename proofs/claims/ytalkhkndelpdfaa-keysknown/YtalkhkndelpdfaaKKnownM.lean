/-
  The gaps of the chapter's examples.
-/
import Derived.Test.YtalkhkndelpdfaaKGapMath
namespace Go.Proofs.Ytalkhkndelpdfaa

def kcov (rs : List Rg) (t : List UInt8) : Bool := rs.any fun r => mayB r.1 r.2 && hasB r.1 r.2 t
theorem kcov_iff (rs : List Rg) (t : List UInt8) : kcov rs t = true ↔ cov rs t := by
  unfold kcov cov
  rw [List.any_eq_true]
  constructor
  · rintro ⟨r, h1, h2⟩
    rw [Bool.and_eq_true] at h2
    exact ⟨r, h1, h2.1, h2.2⟩
  · rintro ⟨r, h1, h2, h3⟩
    exact ⟨r, h1, by rw [h2, h3]; rfl⟩
theorem cov_no {rs : List Rg} {t : List UInt8} (h : kcov rs t = false) : ¬ cov rs t := fun hc => by
  rw [← kcov_iff, h] at hc
  cases hc
theorem cov_of {rs : List Rg} {t : List UInt8} (r : Rg) (hr : r ∈ rs) (hm : mayB r.1 r.2 = true) (h : hasB r.1 r.2 t = true) : cov rs t := ⟨r, hr, hm, h⟩
theorem gap_lit0 : GapSpec [] (some ([], [])) :=
  ⟨fun ⟨r, hr, _⟩ => (by cases hr), fun t h => (by rw [ls_nil] at h; cases h), fun r hr => (by cases hr), fun h => absurd rfl h⟩
theorem gap_lit1 : GapSpec [([], List.replicate 25 0), (List.replicate 25 0, []), ([98], [97])] (some ([], [])) := by
  have hall : ∀ r ∈ [(([], List.replicate 25 0) : Rg), (List.replicate 25 0, []), ([98], [97])], mayB r.1 r.2 = false := by
    intro r hr
    simp only [List.mem_cons, List.not_mem_nil, or_false] at hr
    rcases hr with rfl | rfl | rfl <;> decide
  refine ⟨fun ⟨r, hr, hm, _⟩ => ?_, fun t h => (by rw [ls_nil] at h; cases h), fun r hr hm => ?_, fun h => absurd rfl h⟩
  · rw [hall r hr] at hm
    cases hm
  · rw [hall r hr] at hm
    cases hm
theorem gap_lit2 : GapSpec [([], [98]), ([100], [])] (some ([98], [100])) := by
  refine ⟨cov_no (by decide), fun t h => cov_of ([], [98]) (by simp) (by decide) ((hasB_iff _ _ _).2 ⟨ls_nil _, Or.inr h⟩), ?_, fun _ => ⟨by decide, ([100], []), by simp, by decide, rfl⟩⟩
  intro r hr _ hl
  simp only [List.mem_cons, List.not_mem_nil, or_false] at hr
  rcases hr with rfl | rfl
  · rw [show ls [98] ([] : List UInt8) = false from ls_nil _] at hl
    cases hl
  · exact ⟨by simp, by decide⟩
theorem gap_lit3 : GapSpec [([98], []), ([], [97])] (some ([97], [98])) := by
  refine ⟨cov_no (by decide), fun t h => cov_of ([], [97]) (by simp) (by decide) ((hasB_iff _ _ _).2 ⟨ls_nil _, Or.inr h⟩), ?_, fun _ => ⟨by decide, ([98], []), by simp, by decide, rfl⟩⟩
  intro r hr _ hl
  simp only [List.mem_cons, List.not_mem_nil, or_false] at hr
  rcases hr with rfl | rfl
  · exact ⟨by simp, by decide⟩
  · rw [show ls [97] ([] : List UInt8) = false from ls_nil _] at hl
    cases hl
theorem gap_lit4 : GapSpec [([99], [100]), ([], [98]), ([97], [99])] (some ([100], [])) := by
  refine ⟨cov_no (by decide), fun t h => ?_, ?_, fun h => absurd rfl h⟩
  · cases h1 : ls t [98] with
    | true => exact cov_of ([], [98]) (by simp) (by decide) ((hasB_iff _ _ _).2 ⟨ls_nil _, Or.inr h1⟩)
    | false =>
      cases h2 : ls t [99] with
      | true =>
        refine cov_of ([97], [99]) (by simp) (by decide) ((hasB_iff _ _ _).2 ⟨?_, Or.inr h2⟩)
        cases h3 : ls t [97] with
        | false => rfl
        | true =>
          have := ls_trans h3 (show ls [97] [98] = true by decide)
          rw [h1] at this
          cases this
      | false => exact cov_of ([99], [100]) (by simp) (by decide) ((hasB_iff _ _ _).2 ⟨h2, Or.inr h⟩)
  · intro r hr _ hl
    exfalso
    simp only [List.mem_cons, List.not_mem_nil, or_false] at hr
    rcases hr with rfl | rfl | rfl
    · exact absurd hl (by decide)
    · exact absurd hl (by decide)
    · exact absurd hl (by decide)

end Go.Proofs.Ytalkhkndelpdfaa
