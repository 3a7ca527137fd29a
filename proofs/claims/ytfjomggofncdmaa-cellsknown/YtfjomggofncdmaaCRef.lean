/-
  The document's own answers for lists of cells: sorted, the newest, those that are alive.
-/
import Derived.Test.YtfjomggofncdmaaCApp
namespace Go.Proofs.Ytfjomggofncdmaa
open Go.RowKit Go.BigFrame Go.Sort
attribute [local go_sem] size_bstr toList_bstr ls_def

theorem sortL_take {l : List Cl} {i : Nat} (h : i < l.length) : sortL (l.take (i + 1)) = ins (sortL (l.take i)) l[i] := by
  unfold sortL
  rw [List.take_succ_eq_append_getElem h, List.foldl_append]
  rfl
theorem ins_len : ∀ (l : List Cl) (c : Cl), (ins l c).length ≤ l.length + 1
  | [], c => by simp [ins]
  | x :: xs, c => by
    have := ins_len xs c
    rw [ins]
    split
    · simp only [List.length_cons]; omega
    · split <;> simp
theorem sort_len (l : List Cl) : (sortL l).length ≤ l.length := by
  have : ∀ (l acc : List Cl), (l.foldl ins acc).length ≤ acc.length + l.length := by
    intro l
    induction l with
    | nil => intro acc; simp
    | cons c l ih =>
      intro acc
      have h1 := ih (ins acc c)
      have h2 := ins_len acc c
      simp only [List.foldl_cons, List.length_cons]
      omega
  have h := this l []
  simp only [List.length_nil, Nat.zero_add] at h
  exact h
/-- What a call owns: nil, or the beginning of a block. -/
theorem own_shape {w : World} {B e : Nat} {v : Value} {cs : List Cl} (h : w.ownsRow B e 5 v cs.length (ccells cs)) :
    ∃ p cap g, v = .slice p cs.length cap ∧ cs.length ≤ cap ∧ cap ≤ maxLen ∧ Arg w p g 0 cap cs ∧ (p = none ∧ cs = [] ∧ cap = 0 ∨ p = some ⟨g, 0, none⟩) := by
  rcases h.2 with ⟨hv2, h0⟩ | ⟨g, cap, cur, hv2, hbg, hg, hnc, hcm, hcs, htake⟩
  · have hcs : cs = [] := List.eq_nil_of_length_eq_zero h0
    subst hcs
    exact ⟨none, 0, 0, hv2, Nat.le_refl _, Nat.zero_le _, ⟨fun h => absurd h (by simp), fun _ => ⟨rfl, rfl⟩⟩, .inl ⟨rfl, rfl, rfl⟩⟩
  · refine ⟨some ⟨g, 0, none⟩, cap, g, hv2, hnc, hcm, ⟨fun h0 => ?_, fun h => by cases h⟩, .inr rfl⟩
    refine ⟨rfl, CRow.of_cells (h.cells (g := g) (by rw [hv2]; rfl)), lt_of_block hg⟩
theorem ins_at {out : List Cl} {c : Cl} {k : Nat} (hk : k ≤ out.length) (hlt : ∀ x ∈ out.take k, ccl x c < 0) (hge : ∀ h : k < out.length, 0 < ccl out[k] c) : ins out c = out.take k ++ c :: out.drop k := by
  have e : out = out.take k ++ out.drop k := (List.take_append_drop k out).symm
  conv => lhs; rw [e]
  rw [ins_split _ _ _ hlt]
  by_cases h : k < out.length
  · rw [List.drop_eq_getElem_cons h, ins_here (hge h)]
  · rw [List.drop_eq_nil_of_le (by omega)]
    rfl
theorem ins_eq {out : List Cl} {c : Cl} {k : Nat} (hk : k < out.length) (hlt : ∀ x ∈ out.take k, ccl x c < 0) (he : ccl out[k] c = 0) : ins out c = out := by
  have e : out = out.take k ++ out.drop k := (List.take_append_drop k out).symm
  conv => lhs; rw [e]
  rw [ins_split _ _ _ hlt, List.drop_eq_getElem_cons hk, ins_same he, ← List.drop_eq_getElem_cons hk]
  exact e.symm
theorem ahead_next {out : List Cl} {c : Cl} {k : Nat} (hk : k < out.length) (hlt : ∀ x ∈ out.take k, ccl x c < 0) (h : ccl out[k] c < 0) : ∀ x ∈ out.take (k + 1), ccl x c < 0 := by
  intro x hx
  rw [List.take_succ_eq_append_getElem hk] at hx
  rcases List.mem_append.1 hx with hx | hx
  · exact hlt x hx
  · simp at hx
    rw [hx]
    exact h

end Go.Proofs.Ytfjomggofncdmaa
