/-
  Proved: of any list of cells, and any number, List tells the first cells of the row of the list as it was, and the row goes on behind them
-/
import Derived.Test.YtnpjbdbhjbccbaaEOpen
import Derived.Test.YtnpjbdbhjbccbaaMLs
namespace Go.Proofs.Ytnpjbdbhjbccbaa
open Go.ChangeShapes Go.WideShapes Go.ChangeAt Go.RowKit

set_option maxRecDepth 100000 in
theorem mergeLists_lifted (os : Os) (started : os.Started) (H : Type) (enc : TypeId × Value → H) :
    ReturnsInHanded {} Try.checked os 5 .any (Rows.mergeListsSpec.pre6 enc Try.prog Try.f5 Rows.mergeListsRow.domain false) (Rows.mergeListsSpec.post enc Try.prog Try.f5 false true false false) := by
  refine returnsInHanded_of_change_sized (C := Try.checked) k_own started (by kernel_rfl) Try.func5
    (ChangeSpec.witness6 (enc := enc) (C := Try.checked) false ⟨#[], #[.slice none 0 0, .int .i64 0], []⟩ 8 (by kernel_rfl) (by kernel_rfl) (by kernel_rfl) (by kernel_rfl)) ?_
  intro W base args ds gs before hval0 hW hcnd hsz0 _
  have hval : ∀ (j : Nat) t v, Try.f5.params[j]? = some t → args[j]? = some v → Value.okWide Try.prog W .any base t v := hval0
  have hW' := hW
  have hsz : (DataW.weightsEach Try.prog (Try.f5.params.toList ++ Rows.mergeListsSpec.plain.varTypes Try.prog) (ds ++ gs)).all (· ≤ reachBytes) = true := hsz0
  obtain ⟨p, q, hA0, hV, rfl, hfz, hnd⟩ := hW
  have hA : DataW.TrodAll enc Try.prog W 0 (fun _ => true) true Try.f5.params.toList args.toList ds p := hA0
  rw [Try.params5] at hA hval hsz
  obtain ⟨v0, vs0, d0, ds0, p0, q0, hargs, rfl, rfl, h0, r0⟩ := trodAll_cons hA
  obtain ⟨v1, vs1, d1, ds1, p1, q1, rfl, rfl, rfl, h1, r1⟩ := trodAll_cons r0
  obtain ⟨rfl, rfl, rfl⟩ := trodAll_nil r1
  obtain rfl : args = #[v0, v1] := by cases args; simp_all
  obtain ⟨rfl, rfl⟩ := trodVars_none hV
  have lt0 : ∀ x ∈ p0, x.block < W.heap.size := by obtain ⟨m, hm⟩ := h0; exact DataW.trod_lt m _ _ _ hm
  have lt1 : ∀ x ∈ p1, x.block < W.heap.size := by obtain ⟨m, hm⟩ := h1; exact DataW.trod_lt m _ _ _ hm
  have hz0 : (d0.weights Try.prog 29).all (· ≤ reachBytes) = true := by
    rw [List.all_eq_true] at hsz ⊢
    exact fun n hn => hsz n (DataW.weights_mem_each (j := 0) rfl rfl n hn)
  obtain ⟨aa0, ll0, cc0, rfl⟩ := okWide_slice Try.underlying29 (hval 0 29 v0 rfl rfl)
  obtain ⟨q0, b0, off0, cap0, cs0, hv0, hq0, hf0, hn0, hcap0, hcm0, hnil0⟩ : ∃ (q : Option Addr) (b off cap : Nat) (cs : List Cl), [Value.slice aa0 ll0 cc0] = [.slice q cs.length cap] ∧ (0 < cs.length → q = some ⟨b, off, none⟩ ∧ CRow W b off cs ∧ b < W.heap.size) ∧ (∀ c ∈ cs, Fits c) ∧ cs.length * 64 ≤ 140737488351232 ∧ cs.length ≤ cap ∧ cap ≤ maxLen ∧ (q = none → cs = [] ∧ cap = 0) := by
    obtain ⟨fuel, hf⟩ := id h0
    exact view_cells hf hz0
  obtain ⟨rfl, rfl, rfl⟩ : aa0 = q0 ∧ ll0 = cs0.length ∧ cc0 = cap0 := by simpa using hv0
  obtain ⟨a1, rfl, _, _, hb1⟩ := open_int Try.underlying3 (hval 1 3 v1 rfl rfl) h1
  clear hA0 hval0
  refine (MLists_any aa0 b0 off0 cc0 cs0 a1 W hq0 hf0 hn0 hcap0 hnil0 (bounds_i64 hb1).2).mono fun e W' ⟨he, bel⟩ => ?_
  subst he
  exact ⟨_, rfl, _, _, _, [], _, [], hW', trodAll_mk1 (shut_bool Try.underlying4 _), (trodAll_cons_mk (Below.trod k_laidOut (by kernel_rfl) (of_decide_eq_true (by kernel_rfl)) h0 bel lt0) (trodAll_cons_mk (Below.trod k_laidOut (by kernel_rfl) (of_decide_eq_true (by kernel_rfl)) h1 bel lt1) trodAll_mk0)), rfl, bel.frame _, fun h => by cases h⟩

/-- THE STATEMENT. -/
theorem mergeLists_holds : Rows.MergeListsSaid :=
  OpenClaim.holds_of_wide 5 Try.f5 rfl rfl rfl rfl rfl rfl rfl ⟨rfl, rfl, rfl, rfl, rfl⟩ rfl rfl rfl rfl rfl (by kernel_rfl) Try.func5 (by kernel_rfl)
    (of_decide_eq_true (by kernel_rfl)) (by unfold Func.isWrapper; first | (rw [if_pos (by decide +kernel)]; kernel_rfl) | (rw [if_neg (by decide +kernel)]; exact ⟨rfl, rfl⟩))
    (fun os started H enc _ => mergeLists_lifted os started H enc)
#print axioms mergeLists_holds

end Go.Proofs.Ytnpjbdbhjbccbaa
