/-
  Proved: for every list of ranges the law KeysGap returns true, and the list reads behind the call as before it: the lowest range that none covers is what the document says. No condition.
-/
import Derived.Test.YtphoimimifepcaaKOpen
import Derived.Test.YtphoimimifepcaaGapNil
import Derived.Deep.Slices
namespace Go.Proofs.Ytphoimimifepcaa
open Go.ChangeShapes Go.WideShapes Go.ChangeAt Go.RowKit Go.Deep

section
variable {H : Type} {enc : TypeId × Value → H} {w : World} {base : Nat} {spare : Nat → Bool} {held : Bool}
theorem open_rngs {fuel : Nat} {cs : List Value} {x : DataW H × List MemPlace} (h : DataW.trod enc Try.prog w base spare held fuel 33 cs = some x) :
    cs = [.slice none 0 0] ∨ ∃ (a : Addr) (len cap : Nat) (rs : List Rg), cs = [.slice (some a) len cap] ∧ rs.length = len ∧ len ≤ cap ∧ cap ≤ maxLen ∧
      ∀ i (hi : i < rs.length), w.cell? (a.add (i * 2)) = some (.string (bstr (rs[i]).1)) ∧ w.cell? (a.add (i * 2 + 1)) = some (.string (bstr (rs[i]).2)) := by
  rcases open_slice Try.underlying33 h with ⟨h0, _⟩ | ⟨a, len, cap, m, n, D, Pl, rfl, hb, hl, hm, hmm, _, hx⟩
  · exact .inl h0
  right
  have hlm : len ≤ m := by rw [hmm]; split <;> omega
  have each : ∀ i, i < len → ∃ y : Rg, w.cell? (a.add (i * 2)) = some (.string (bstr y.1)) ∧ w.cell? (a.add (i * 2 + 1)) = some (.string (bstr y.2)) := by
    intro i hi
    obtain ⟨cs', h1, h2⟩ := hx i (by omega)
    rw [rng_cells] at h1
    obtain ⟨_, hlen, hcell⟩ := World.cells?_some h1
    obtain ⟨y, z, rfl⟩ := open_rng h2
    have e0 := hcell 0 (by omega)
    have e1 := hcell 1 (by omega)
    rw [add_add] at e0 e1
    exact ⟨(y, z), by simpa using e0, by simpa using e1⟩
  have : ∀ k, k ≤ len → ∃ rs : List Rg, rs.length = k ∧ ∀ i (hi : i < rs.length), w.cell? (a.add (i * 2)) = some (.string (bstr (rs[i]).1)) ∧ w.cell? (a.add (i * 2 + 1)) = some (.string (bstr (rs[i]).2)) := by
    intro k
    induction k with
    | zero => exact fun _ => ⟨[], rfl, fun i hi => by simp at hi⟩
    | succ k ih =>
      intro hk
      obtain ⟨rs, h1, h2⟩ := ih (by omega)
      obtain ⟨y, hy⟩ := each k (by omega)
      refine ⟨rs ++ [y], by simp [h1], fun i hi => ?_⟩
      by_cases hik : i < rs.length
      · rw [List.getElem_append_left hik]
        exact h2 i hik
      · have : i = k := by simp at hi; omega
        subst this
        have e : (rs ++ [y])[i]'hi = y := by
          rw [List.getElem_append_right (by omega)]
          simp [h1]
        rw [e]
        exact hy
  obtain ⟨rs, h1, h2⟩ := this len (Nat.le_refl _)
  exact ⟨a, len, cap, rs, rfl, h1, hl, hm, h2⟩
end

set_option maxRecDepth 100000 in
theorem keysGap_lifted (os : Os) (started : os.Started) (H : Type) (enc : TypeId × Value → H) :
    ReturnsInHanded {} Try.checked os 4 .any (Rows.keysGapSpec.pre6 enc Try.prog Try.f4 Rows.keysGapRow.domain false) (Rows.keysGapSpec.post enc Try.prog Try.f4 false true false false) := by
  refine returnsInHanded_of_change (C := Try.checked) k_own started (by kernel_rfl) Try.func4
    (ChangeSpec.witness6 (enc := enc) (C := Try.checked) false ⟨#[], #[.slice none 0 0], []⟩ 8 (by kernel_rfl) (by kernel_rfl) (by kernel_rfl) (by kernel_rfl)) ?_
  intro W base args ds gs before hval0 hW hcnd _
  have hval : ∀ (j : Nat) t v, Try.f4.params[j]? = some t → args[j]? = some v → Value.okWide Try.prog W .any base t v := hval0
  have hW' := hW
  obtain ⟨p, q, hA0, hV, rfl, hfz, hnd⟩ := hW
  have hA : DataW.TrodAll enc Try.prog W 0 (fun _ => true) true Try.f4.params.toList args.toList ds p := hA0
  rw [Try.params4] at hA hval
  obtain ⟨v0, vs0, d0, ds0, p0, q0, hargs, rfl, rfl, h0, r0⟩ := trodAll_cons hA
  obtain ⟨rfl, rfl, rfl⟩ := trodAll_nil r0
  obtain rfl : args = #[v0] := by cases args; simp_all
  obtain ⟨rfl, rfl⟩ := trodVars_none hV
  obtain ⟨a0, len0, cap0, rfl⟩ := okWide_slice Try.underlying33 (hval 0 33 v0 rfl rfl)
  have lt0 : ∀ x ∈ p0, x.block < W.heap.size := by obtain ⟨m, hm⟩ := h0; exact DataW.trod_lt m _ _ _ hm
  clear hA0 hval0
  have hwalk : Calls Try.prog 4 #[.slice a0 len0 cap0] W fun e w' => e = .returned (.bool true) ∧ Below W.heap.size W w' := by
    obtain ⟨fuel, hf⟩ := id h0
    rcases open_rngs hf with hcs | ⟨a, len, cap, rs, hcs, hl, hlc, hcm, hc⟩
    · simp [Value.cells] at hcs
      obtain ⟨rfl, rfl, rfl⟩ := hcs
      exact gap_none W
    · simp [Value.cells] at hcs
      obtain ⟨rfl, rfl, rfl⟩ := hcs
      by_cases hz : rs.length = 0
      · rw [← hl, hz]
        exact gap_some _ _ W
      · obtain ⟨b, off, spot⟩ := a
        have hc0 := (hc 0 (by omega)).1
        have hspot : spot = none := by simpa [Addr.add] using World.cell?_spot hc0
        subst hspot
        have hat : RowAt W b off rs := fun i hi => by
          have := hc i hi
          simp only [Addr.add_lit] at this
          exact this
        have hb := World.block_lt_of_cell? W _ (hat 0 (by omega)).1
        have := gap_walk rs b off cap0 W hat hb (by omega) (by omega) (by unfold maxLen at hcm; omega)
        rw [hl] at this
        exact this
  refine hwalk.mono fun e W' ⟨he, bel⟩ => ?_
  subst he
  exact ⟨_, rfl, _, _, _, [], _, [], hW', trodAll_mk1 (shut_bool Try.underlying4 _), (trodAll_cons_mk (Below.trod k_laidOut (by kernel_rfl) (of_decide_eq_true (by kernel_rfl)) h0 bel lt0) trodAll_mk0), rfl, bel.frame _, fun h => by cases h⟩

/-- THE STATEMENT. -/
theorem keysGap_holds : Rows.KeysGapSaid :=
  OpenClaim.holds_of_wide 4 Try.f4 rfl rfl rfl rfl rfl rfl rfl ⟨rfl, rfl, rfl, rfl, rfl⟩ rfl rfl rfl rfl rfl (by kernel_rfl) Try.func4 (by kernel_rfl)
    (of_decide_eq_true (by kernel_rfl)) (by unfold Func.isWrapper; first | (rw [if_pos (by decide +kernel)]; kernel_rfl) | (rw [if_neg (by decide +kernel)]; exact ⟨rfl, rfl⟩))
    (fun os started H enc _ => keysGap_lifted os started H enc)
#print axioms keysGap_holds

end Go.Proofs.Ytphoimimifepcaa
