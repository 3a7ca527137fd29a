/-
  Proved: what was put last into a place is what is got of it, with the row's count of then as its version, for any operations by small numbers.
-/
import Derived.Test.YtlkikfkchgmmhaaYOpn2
import Derived.Test.YtlkikfkchgmmhaaYLst
namespace Go.Proofs.Ytlkikfkchgmmhaa
open Go.ChangeShapes Go.WideShapes Go.ChangeAt Go.RowKit

set_option maxRecDepth 100000 in
theorem modelLast_lifted (os : Os) (started : os.Started) (H : Type) (enc : TypeId × Value → H) :
    ReturnsInHanded {} Try.checked os 4 .any (Rows.modelLastSpec.pre6 enc Try.prog Try.f4 Rows.modelLastRow.domain false) (Rows.modelLastSpec.post enc Try.prog Try.f4 false true false false) := by
  refine returnsInHanded_of_change_sized (C := Try.checked) k_own started (by kernel_rfl) Try.func4
    (ChangeSpec.witness6 (enc := enc) (C := Try.checked) false ⟨#[], #[.slice none 0 0], []⟩ 8 (by kernel_rfl) (by kernel_rfl) (by kernel_rfl) (by kernel_rfl)) ?_
  intro W base args ds gs before hval0 hW hcnd hsz0 _
  have hval : ∀ (j : Nat) t v, Try.f4.params[j]? = some t → args[j]? = some v → Value.okWide Try.prog W .any base t v := hval0
  have hW' := hW
  have hsz : (DataW.weightsEach Try.prog (Try.f4.params.toList ++ Rows.modelLastSpec.plain.varTypes Try.prog) (ds ++ gs)).all (· ≤ reachBytes) = true := hsz0
  obtain ⟨p, q, hA0, hV, rfl, hfz, hnd⟩ := hW
  have hA : DataW.TrodAll enc Try.prog W 0 (fun _ => true) true Try.f4.params.toList args.toList ds p := hA0
  rw [Try.params4] at hA hval hsz
  obtain ⟨v0, vs0, d0, ds0, p0, q0, hargs, rfl, rfl, h0, r0⟩ := trodAll_cons hA
  obtain ⟨rfl, rfl, rfl⟩ := trodAll_nil r0
  obtain rfl : args = #[v0] := by cases args; simp_all
  obtain ⟨rfl, rfl⟩ := trodVars_none hV
  have lt0 : ∀ x ∈ p0, x.block < W.heap.size := by obtain ⟨m, hm⟩ := h0; exact DataW.trod_lt m _ _ _ hm
  have hz0 : (d0.weights Try.prog 41).all (· ≤ reachBytes) = true := by
    rw [List.all_eq_true] at hsz ⊢
    exact fun n hn => hsz n (DataW.weights_mem_each (j := 0) rfl rfl n hn)
  obtain ⟨aa0, ll0, cc0, rfl⟩ := okWide_slice Try.underlying41 (hval 0 41 v0 rfl rfl)
  obtain ⟨q0, b0, off0, cap0, as0, hv0, hq0, hk0, hn0, hcap0, hcm0, hnil0⟩ : ∃ (q : Option Addr) (b off cap : Nat) (cs : List Ac), [Value.slice aa0 ll0 cc0] = [.slice q cs.length cap] ∧ (0 < cs.length → q = some ⟨b, off, none⟩ ∧ AcRow W b off cs ∧ b < W.heap.size) ∧ (∀ c ∈ cs, AcOk c) ∧ cs.length * 6 ≤ 140737488351232 ∧ cs.length ≤ cap ∧ cap ≤ maxLen ∧ (q = none → cs = [] ∧ cap = 0) := by
    obtain ⟨fuel, hf⟩ := id h0
    exact view_acts hf hz0
  obtain ⟨rfl, rfl, rfl⟩ : aa0 = q0 ∧ ll0 = as0.length ∧ cc0 = cap0 := by simpa using hv0
  clear hA0 hval0
  refine (MLast_any aa0 b0 off0 cc0 as0 W hq0 hk0 (by omega)).mono fun e W' ⟨he, bel⟩ => ?_
  subst he
  exact ⟨_, rfl, _, _, _, [], _, [], hW', trodAll_mk1 (shut_bool Try.underlying4 _), (trodAll_cons_mk (Below.trod k_laidOut (by kernel_rfl) (of_decide_eq_true (by kernel_rfl)) h0 bel lt0) trodAll_mk0), rfl, bel.frame _, fun h => by cases h⟩

/-- THE STATEMENT. -/
theorem modelLast_holds : Rows.ModelLastSaid :=
  OpenClaim.holds_of_wide 4 Try.f4 rfl rfl rfl rfl rfl rfl rfl ⟨rfl, rfl, rfl, rfl, rfl⟩ rfl rfl rfl rfl rfl (by kernel_rfl) Try.func4 (by kernel_rfl)
    (of_decide_eq_true (by kernel_rfl)) (by unfold Func.isWrapper; first | (rw [if_pos (by decide +kernel)]; kernel_rfl) | (rw [if_neg (by decide +kernel)]; exact ⟨rfl, rfl⟩))
    (fun os started H enc _ => modelLast_lifted os started H enc)
#print axioms modelLast_holds

end Go.Proofs.Ytlkikfkchgmmhaa
