/-
  A list in memory of its own; what is done to it by its owner; the document's cells of a range.
-/
import Derived.Test.YtfjomggofncdmaaCWks
import Derived.Laws.AppendOwnNone
namespace Go.Proofs.Ytfjomggofncdmaa
open Go.RowKit Go.BigFrame Go.Sort
attribute [local go_sem] size_bstr toList_bstr ls_def

/-- What a call owns, as an argument of the next one. -/
theorem own_get {w : World} {B e : Nat} {v : Value} {cs : List Cl} (h : w.ownsRow B e 5 v cs.length (ccells cs)) :
    ∃ p cap g, v = .slice p cs.length cap ∧ cap ≤ maxLen ∧ B ≤ g ∧ (0 < cs.length → p = some ⟨g, 0, none⟩ ∧ CRow w g 0 cs ∧ g < w.heap.size) ∧ (0 < cs.length → ∀ o, w.frozen? ⟨g, o, none⟩ = false) := by
  obtain ⟨p, cap, hv, hm, _, hr⟩ := own_cslice h
  by_cases h0 : 0 < cs.length
  · obtain ⟨g, hp, hB, hg, hR, hf⟩ := hr h0
    exact ⟨p, cap, g, hv, hm, hB, fun _ => ⟨hp, hR, hg⟩, fun _ => hf⟩
  · exact ⟨p, cap, B, hv, hm, Nat.le_refl _, fun h => absurd h h0, fun h => absurd h h0⟩
theorem hq_step {w w' : World} {q : Option Addr} {b off B : Nat} {cs : List Cl} (h : 0 < cs.length → q = some ⟨b, off, none⟩ ∧ CRow w b off cs ∧ b < w.heap.size) (hb : RowKit.Below B w w') (hB : 0 < cs.length → b < B) : 0 < cs.length → q = some ⟨b, off, none⟩ ∧ CRow w' b off cs ∧ b < w'.heap.size :=
  fun h0 => ⟨(h h0).1, (h h0).2.1.step hb (hB h0), Nat.lt_of_lt_of_le (h h0).2.2 hb.size⟩
theorem hq_two {w : World} {q : Option Addr} {b off : Nat} {cs : List Cl} (h : 0 < cs.length → q = some ⟨b, off, none⟩ ∧ CRow w b off cs ∧ b < w.heap.size) : 0 < cs.length → q = some ⟨b, off, none⟩ ∧ CRow w b off cs := fun h0 => ⟨(h h0).1, (h h0).2.1⟩
/-- The first m cells of a block are there, and may be written. -/
def Live (W : World) (g m : Nat) : Prop := (∀ o, o < m → ∃ u, W.cell? ⟨g, o, none⟩ = some u) ∧ ∀ o, W.frozen? ⟨g, o, none⟩ = false
theorem Live.set {W : World} {g m : Nat} (h : Live W g m) (k : Nat) (v : Value) : Live (W.setCell ⟨g, k, none⟩ v) g m := by
  refine ⟨fun o ho => ?_, fun o => by simpa using h.2 o⟩
  obtain ⟨u, hu⟩ := h.1 o ho
  by_cases e : o = k
  · subst e
    exact ⟨v, World.cell?_setCell_same' W _ _ (by rw [hu]; rfl)⟩
  · exact ⟨u, by rw [World.cell?_setCell_other _ _ _ _ (by intro e'; simp only [Addr.mk.injEq] at e'; omega)]; exact hu⟩
theorem CRow.live {W : World} {g : Nat} {cs : List Cl} (h : CRow W g 0 cs) (hf : ∀ o, W.frozen? ⟨g, o, none⟩ = false) : Live W g (cs.length * 5) := by
  refine ⟨fun o ho => ?_, hf⟩
  have hl : o < (ccells cs).length := by rw [ccells_length]; exact ho
  have := h.cells o _ (List.getElem?_eq_getElem hl)
  rw [Addr.add_lit, Nat.zero_add] at this
  exact ⟨_, this⟩

end Go.Proofs.Ytfjomggofncdmaa
