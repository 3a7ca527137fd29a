/-
  A list in memory of its own; what is done to it by its owner; the document's cells of a range.
-/
import Derived.Test.YtnpjbdbhjbccbaaCWks
import Derived.Laws.AppendOwnNone
namespace Go.Proofs.Ytnpjbdbhjbccbaa
open Go.RowKit Go.BigFrame Go.Sort
attribute [local go_sem] size_bstr toList_bstr ls_def

set_option maxHeartbeats 2000000 in
set_option maxRecDepth 100000 in
theorem Own_any (q : Option Addr) (b off cap : Nat) (cs : List Cl) (w : World) (hq : 0 < cs.length → q = some ⟨b, off, none⟩ ∧ CRow w b off cs ∧ b < w.heap.size) (hn : cs.length * 64 ≤ 140737488351232) (hnil : q = none → cs = [] ∧ cap = 0) :
    Calls Try.prog 20 #[.slice q cs.length cap] w fun e w' => ∃ v, e = .returned v ∧ w'.ownsRow w.heap.size 39 5 v cs.length (ccells cs) ∧ RowKit.Below w.heap.size w w' := by
  obtain ⟨i0, hi, hz0, hz1, hz2⟩ := info_parts Try.infoCell
  have hown0 : w.ownsRow w.heap.size 39 5 (.slice none 0 0) 0 [] := ⟨rfl, .inl ⟨rfl, rfl⟩⟩
  cases q with
  | none =>
    obtain ⟨rfl, rfl⟩ := hnil rfl
    have hown1 := hown0
    go_enter Try.func20, Try.ntmps20
    go_wp2_with (at_builtin; refine wpList_append_own_none rfl _ _ 29 rfl w.heap.size 39 i0 5 Try.underlying29 hi _ _ _ rfl hown0 rfl ?_)
    go_ret
    exact ⟨_, rfl, hown1, RowKit.Below.refl _ _⟩
  | some a =>
    have hnews : ∀ j u, (ccells cs)[j]? = some u → w.cell? (a.add j) = some u := by
      intro j u hj
      have h0 : 0 < cs.length := by
        by_cases h : 0 < cs.length
        · exact h
        · have : cs = [] := List.eq_nil_of_length_eq_zero (by omega)
          subst this
          simp [ccells] at hj
      obtain ⟨e, hR, _⟩ := hq h0
      cases e
      exact hR.cells j u hj
    go_enter Try.func20, Try.ntmps20
    go_wp2_with (at_builtin; refine wpList_append_own _ rfl _ _ 29 rfl w.heap.size 39 i0 (.agg #[.string ⟨#[]⟩, .string ⟨#[]⟩, .int .u64 0, .bool false, .string ⟨#[]⟩]) 5 64 Try.underlying29 hi hz0 hz1 hz2 rfl (by decide) _ _ _ rfl hown0 a cs.length cap (ccells cs) rfl (ccells_length cs) hnews (ccells_one cs) (by unfold maxLen; omega) (by omega) (Nat.le_refl _) ?_)
    intro v' w1 hown1 hgrow _
    have hb1 : RowKit.Below w.heap.size w w1 := (RowKit.Below.refl _ _).grown hgrow (Nat.le_refl _) (fun k hk => by cases hk)
    go_wp2
    go_ret
    exact ⟨v', rfl, hown1, hb1⟩

/-- What a call owns, as an argument of the next one. -/
theorem own_get {w : World} {B e : Nat} {v : Value} {cs : List Cl} (h : w.ownsRow B e 5 v cs.length (ccells cs)) :
    ∃ p cap g, v = .slice p cs.length cap ∧ cap ≤ maxLen ∧ B ≤ g ∧ (0 < cs.length → p = some ⟨g, 0, none⟩ ∧ CRow w g 0 cs ∧ g < w.heap.size) ∧ (0 < cs.length → ∀ o, w.frozen? ⟨g, o, none⟩ = false) := by
  obtain ⟨p, cap, hv, hm, _, hr⟩ := own_cslice h
  by_cases h0 : 0 < cs.length
  · obtain ⟨g, hp, hB, hg, hR, hf⟩ := hr h0
    exact ⟨p, cap, g, hv, hm, hB, fun _ => ⟨hp, hR, hg⟩, fun _ => hf⟩
  · exact ⟨p, cap, B, hv, hm, Nat.le_refl _, fun h => absurd h h0, fun h => absurd h h0⟩
theorem hq_step {w w' : World} {q : Option Addr} {b off B : Nat} {cs : List Cl} (h : 0 < cs.length → q = some ⟨b, off, none⟩ ∧ CRow w b off cs ∧ b < w.heap.size) (hb : RowKit.Below B w w') (hB : 0 < cs.length → b < B) : 0 < cs.length → q = some ⟨b, off, none⟩ ∧ CRow w' b off cs ∧ b < w'.heap.size :=
  fun h0 => ⟨(h h0).1, (h h0).2.1.step hb (hB h0), Nat.lt_of_lt_of_le (h h0).2.2 hb.size⟩
theorem hq_two {w : World} {q : Option Addr} {b off : Nat} {cs : List Cl} (h : 0 < cs.length → q = some ⟨b, off, none⟩ ∧ CRow w b off cs ∧ b < w.heap.size) : 0 < cs.length → q = some ⟨b, off, none⟩ ∧ CRow w b off cs := fun h0 => ⟨(h h0).1, (h h0).2.1⟩
/-- The first m cells of a block are there, and may be written. -/
def Live (W : World) (g m : Nat) : Prop := (∀ o, o < m → ∃ u, W.cell? ⟨g, o, none⟩ = some u) ∧ ∀ o, W.frozen? ⟨g, o, none⟩ = false
theorem Live.set {W : World} {g m : Nat} (h : Live W g m) (k : Nat) (v : Value) : Live (W.setCell ⟨g, k, none⟩ v) g m := by
  refine ⟨fun o ho => ?_, fun o => by simpa using h.2 o⟩
  obtain ⟨u, hu⟩ := h.1 o ho
  by_cases e : o = k
  · subst e
    exact ⟨v, World.cell?_setCell_same' W _ _ (by rw [hu]; rfl)⟩
  · exact ⟨u, by rw [World.cell?_setCell_other _ _ _ _ (by intro e'; simp only [Addr.mk.injEq] at e'; omega)]; exact hu⟩
theorem CRow.live {W : World} {g : Nat} {cs : List Cl} (h : CRow W g 0 cs) (hf : ∀ o, W.frozen? ⟨g, o, none⟩ = false) : Live W g (cs.length * 5) := by
  refine ⟨fun o ho => ?_, hf⟩
  have hl : o < (ccells cs).length := by rw [ccells_length]; exact ho
  have := h.cells o _ (List.getElem?_eq_getElem hl)
  rw [Addr.add_lit, Nat.zero_add] at this
  exact ⟨_, this⟩

end Go.Proofs.Ytnpjbdbhjbccbaa
