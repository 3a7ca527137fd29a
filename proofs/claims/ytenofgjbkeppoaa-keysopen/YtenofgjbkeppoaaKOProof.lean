/-
  Proved: for every list of ranges and every list of texts the law KeysOpen returns true, and both read behind the call as before it: a gap's texts are in none of the ranges, what is ahead of it is in one, and ranges that were parted by splits leave none. No condition.
-/
import Derived.Test.YtenofgjbkeppoaaKOpen
import Derived.Test.YtenofgjbkeppoaaKOWalk
import Derived.Deep.Slices
import Derived.SliceStrings
namespace Go.Proofs.Ytenofgjbkeppoaa
open Go.ChangeShapes Go.WideShapes Go.ChangeAt Go.RowKit Go.Deep
set_option maxRecDepth 100000

section
variable {H : Type} {enc : TypeId × Value → H} {w : World} {base : Nat} {spare : Nat → Bool} {held : Bool}
theorem open_rngs {fuel : Nat} {cs : List Value} {x : DataW H × List MemPlace} (h : DataW.trod enc Try.prog w base spare held fuel 22 cs = some x) :
    cs = [.slice none 0 0] ∨ ∃ (a : Addr) (len cap : Nat) (rs : List Rg), cs = [.slice (some a) len cap] ∧ rs.length = len ∧ len ≤ cap ∧ cap ≤ maxLen ∧
      ∀ i (hi : i < rs.length), w.cell? (a.add (i * 2)) = some (.string (bstr (rs[i]).1)) ∧ w.cell? (a.add (i * 2 + 1)) = some (.string (bstr (rs[i]).2)) := by
  rcases open_slice Try.underlying22 h with ⟨h0, _⟩ | ⟨a, len, cap, m, n, D, Pl, rfl, hb, hl, hm, hmm, _, hx⟩
  · exact .inl h0
  right
  have hlm : len ≤ m := by rw [hmm]; split <;> omega
  have each : ∀ i, i < len → ∃ y : Rg, w.cell? (a.add (i * 2)) = some (.string (bstr y.1)) ∧ w.cell? (a.add (i * 2 + 1)) = some (.string (bstr y.2)) := by
    intro i hi
    obtain ⟨cs', h1, h2⟩ := hx i (by omega)
    rw [rng_cells] at h1
    obtain ⟨_, hlen, hcell⟩ := World.cells?_some h1
    obtain ⟨y, z, rfl⟩ := open_rng h2
    have e0 := hcell 0 (by omega)
    have e1 := hcell 1 (by omega)
    rw [add_add] at e0 e1
    exact ⟨(y, z), by simpa using e0, by simpa using e1⟩
  have : ∀ k, k ≤ len → ∃ rs : List Rg, rs.length = k ∧ ∀ i (hi : i < rs.length), w.cell? (a.add (i * 2)) = some (.string (bstr (rs[i]).1)) ∧ w.cell? (a.add (i * 2 + 1)) = some (.string (bstr (rs[i]).2)) := by
    intro k
    induction k with
    | zero => exact fun _ => ⟨[], rfl, fun i hi => by simp at hi⟩
    | succ k ih =>
      intro hk
      obtain ⟨rs, h1, h2⟩ := ih (by omega)
      obtain ⟨y, hy⟩ := each k (by omega)
      refine ⟨rs ++ [y], by simp [h1], fun i hi => ?_⟩
      by_cases hik : i < rs.length
      · rw [List.getElem_append_left hik]
        exact h2 i hik
      · have : i = k := by simp at hi; omega
        subst this
        have e : (rs ++ [y])[i]'hi = y := by
          rw [List.getElem_append_right (by omega)]
          simp [h1]
        rw [e]
        exact hy
  obtain ⟨rs, h1, h2⟩ := this len (Nat.le_refl _)
  exact ⟨a, len, cap, rs, rfl, h1, hl, hm, h2⟩
theorem view_rngs {fuel : Nat} {aa : Option Addr} {ll cc : Nat} {x : DataW H × List MemPlace} (h : DataW.trod enc Try.prog w base spare held fuel 22 (Value.slice aa ll cc).cells.toList = some x) :
    ∃ (b off : Nat) (rs : List Rg), rs.length = ll ∧ (0 < rs.length → aa = some ⟨b, off, none⟩ ∧ RowAt w b off rs ∧ b < w.heap.size) ∧ rs.length ≤ cc ∧ rs.length ≤ 9223372036854775807 := by
  rcases open_rngs h with hcs | ⟨a, len, cap, rs, hcs, hl, hlc, hcm, hc⟩
  · simp [Value.cells] at hcs
    obtain ⟨rfl, rfl, rfl⟩ := hcs
    exact ⟨0, 0, [], rfl, by simp, by simp, by simp⟩
  · simp [Value.cells] at hcs
    obtain ⟨rfl, rfl, rfl⟩ := hcs
    obtain ⟨b, off, spot⟩ := a
    refine ⟨b, off, rs, hl, fun h0 => ?_, by omega, by unfold maxLen at hcm; omega⟩
    have hc0 := (hc 0 h0).1
    have hspot : spot = none := by simpa [Addr.add] using World.cell?_spot hc0
    subst hspot
    have hat : RowAt w b off rs := fun i hi => by
      have := hc i hi
      simp only [Addr.add_lit] at this
      exact this
    exact ⟨rfl, hat, World.block_lt_of_cell? w _ (hat 0 h0).1⟩
theorem view_txts {fuel : Nat} {aa : Option Addr} {ll cc : Nat} {x : DataW H × List MemPlace} (h : DataW.trod enc Try.prog w base spare held fuel 23 (Value.slice aa ll cc).cells.toList = some x) :
    ∃ (b off : Nat) (ts : List (List UInt8)), ts.length = ll ∧ (0 < ts.length → aa = some ⟨b, off, none⟩ ∧ TxtAt w b off ts ∧ b < w.heap.size) ∧ ts.length ≤ cc ∧ ts.length ≤ 9223372036854775807 := by
  rcases open_strings Try.underlying23 Try.underlying9 (by kernel_rfl) h with ⟨hcs, _⟩ | ⟨a, len, cap, ss, hcs, _, hlc, hcm, hsl, _, hcell, hsz⟩
  · simp [Value.cells] at hcs
    obtain ⟨rfl, rfl, rfl⟩ := hcs
    exact ⟨0, 0, [], rfl, by simp, by simp, by simp⟩
  · simp [Value.cells] at hcs
    obtain ⟨rfl, rfl, rfl⟩ := hcs
    have hlen : (ss.take ll).length = ll := by
      rw [List.length_take, hsl]
      split <;> omega
    have hlm : ((ss.take ll).map fun s : ByteArray => s.data.toList).length = ll := by rw [List.length_map, hlen]
    obtain ⟨b, off, spot⟩ := a
    refine ⟨b, off, (ss.take ll).map fun s : ByteArray => s.data.toList, hlm, fun h0 => ?_, by rw [hlm]; omega, by rw [hlm]; unfold maxLen at hcm; omega⟩
    rw [hlm] at h0
    have hssl : ll ≤ ss.length := by rw [List.length_take] at hlen; omega
    have hc0 := hcell 0 (by omega)
    have hspot : spot = none := by simpa [Addr.add] using World.cell?_spot hc0
    subst hspot
    have hat : TxtAt w b off ((ss.take ll).map fun s : ByteArray => s.data.toList) := by
      intro j hj
      rw [hlm] at hj
      have := hcell j (by omega)
      simp only [Addr.add_lit] at this
      rw [this, List.getElem_map, List.getElem_take, bstr_data, List.getD_eq_getElem?_getD, List.getElem?_eq_getElem (by omega)]
      rfl
    exact ⟨rfl, hat, World.block_lt_of_cell? w _ (hat 0 (by rw [hlm]; omega))⟩
end

theorem keysOpen_lifted (os : Os) (started : os.Started) (H : Type) (enc : TypeId × Value → H) :
    ReturnsInHanded {} Try.checked os 3 .any (Rows.keysOpenSpec.pre6 enc Try.prog Try.f3 Rows.keysOpenRow.domain false) (Rows.keysOpenSpec.post enc Try.prog Try.f3 false true false false) := by
  refine returnsInHanded_of_change (C := Try.checked) k_own started (by kernel_rfl) Try.func3
    (ChangeSpec.witness6 (enc := enc) (C := Try.checked) false ⟨#[], #[.slice none 0 0, .slice none 0 0], []⟩ 8 (by kernel_rfl) (by kernel_rfl) (by kernel_rfl) (by kernel_rfl)) ?_
  intro W base args ds gs before hval0 hW hcnd _
  have hval : ∀ (j : Nat) t v, Try.f3.params[j]? = some t → args[j]? = some v → Value.okWide Try.prog W .any base t v := hval0
  have hW' := hW
  obtain ⟨p, q, hA0, hV, rfl, hfz, hnd⟩ := hW
  have hA : DataW.TrodAll enc Try.prog W 0 (fun _ => true) true Try.f3.params.toList args.toList ds p := hA0
  rw [Try.params3] at hA hval
  obtain ⟨v0, vs0, d0, ds0, p0, q0, hargs, rfl, rfl, h0, r0⟩ := trodAll_cons hA
  obtain ⟨v1, vs1, d1, ds1, p1, q1, rfl, rfl, rfl, h1, r1⟩ := trodAll_cons r0
  obtain ⟨rfl, rfl, rfl⟩ := trodAll_nil r1
  obtain rfl : args = #[v0, v1] := by cases args; simp_all
  obtain ⟨rfl, rfl⟩ := trodVars_none hV
  obtain ⟨a0, len0, cap0, rfl⟩ := okWide_slice Try.underlying22 (hval 0 22 v0 rfl rfl)
  obtain ⟨a1, len1, cap1, rfl⟩ := okWide_slice Try.underlying23 (hval 1 23 v1 rfl rfl)
  have lt0 : ∀ x ∈ p0, x.block < W.heap.size := by obtain ⟨m, hm⟩ := h0; exact DataW.trod_lt m _ _ _ hm
  have lt1 : ∀ x ∈ p1, x.block < W.heap.size := by obtain ⟨m, hm⟩ := h1; exact DataW.trod_lt m _ _ _ hm
  clear hA0 hval0
  have hwalk : Calls Try.prog 3 #[.slice a0 len0 cap0, .slice a1 len1 cap1] W fun e w' => e = .returned (.bool true) ∧ Below W.heap.size W w' := by
    obtain ⟨fuel0, hf0⟩ := id h0
    obtain ⟨fuel1, hf1⟩ := id h1
    obtain ⟨b, off, rs, rfl, hq, hc, hl⟩ := view_rngs hf0
    obtain ⟨b', off', ts, rfl, hp, hc', hl'⟩ := view_txts hf1
    exact open_walk a0 b off cap0 rs a1 b' off' cap1 ts W hq hp hc hc' hl hl'
  refine hwalk.mono fun e W' ⟨he, bel⟩ => ?_
  subst he
  exact ⟨_, rfl, _, _, _, [], _, [], hW', trodAll_mk1 (shut_bool Try.underlying4 _), (trodAll_cons_mk (Below.trod k_laidOut (by kernel_rfl) (of_decide_eq_true (by kernel_rfl)) h0 bel lt0) (trodAll_cons_mk (Below.trod k_laidOut (by kernel_rfl) (of_decide_eq_true (by kernel_rfl)) h1 bel lt1) trodAll_mk0)), rfl, bel.frame _, fun h => by cases h⟩

/-- THE STATEMENT. -/
theorem keysOpen_holds : Rows.KeysOpenSaid :=
  OpenClaim.holds_of_wide 3 Try.f3 rfl rfl rfl rfl rfl rfl rfl ⟨rfl, rfl, rfl, rfl, rfl⟩ rfl rfl rfl rfl rfl (by kernel_rfl) Try.func3 (by kernel_rfl)
    (of_decide_eq_true (by kernel_rfl)) (by unfold Func.isWrapper; first | (rw [if_pos (by decide +kernel)]; kernel_rfl) | (rw [if_neg (by decide +kernel)]; exact ⟨rfl, rfl⟩))
    (fun os started H enc _ => keysOpen_lifted os started H enc)
#print axioms keysOpen_holds

end Go.Proofs.Ytenofgjbkeppoaa
