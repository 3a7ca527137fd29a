/-
  OpsResults, walked.
  Proved: any result is laid as the document says.
-/
import Derived.Test.YtckokfhoelajcaaGreatGOWk
import Derived.Test.YtckokfhoelajcaaGreatGJRf2
import Derived.Test.YtckokfhoelajcaaGreatGJOpen
namespace Go.Proofs.YtckokfhoelajcaaGreat
open Go.RowKit Go.BigFrame
attribute [local go_sem] size_bstr toList_bstr

set_option maxHeartbeats 8000000 in
set_option maxRecDepth 100000 in
theorem OResults_any (r : Rz) (w : World) : Calls Tryz.prog 5 #[rzV r] w fun e w' => e = .returned (.bool true) ∧ Below w.heap.size w w' := by
  have K1 := fun W => jEncodeR_any r W
  have K2 := fun W => rEncode_any r W
  generalize (if okR r then layR r else []) = L at *
  generalize (if okR r then (0 : Int) else 2) = E at *
  obtain ⟨e, f, ro, va, ve⟩ := r
  obtain ⟨w1, hw1⟩ : ∃ w1, w1 = w.alloc (.cells #[.int .i64 e, .bool f, .string (bstr ro), .string (bstr va), .int .u64 (ve : Int)] 46) := ⟨_, rfl⟩
  have hb1 : Below w.heap.size w w1 := by rw [hw1]; exact (Below.refl _ _).alloc (Nat.le_refl _) _
  have hc := (mcells (show w1.heap[w.heap.size]? = some (.cells #[.int .i64 e, .bool f, .string (bstr ro), .string (bstr va), .int .u64 (ve : Int)] 46 (0, 0)) by rw [hw1]; exact heap_alloc_new w _)).1
  have c0 : w1.cell? ⟨w.heap.size, 0, none⟩ = some (.int .i64 e) := hc 0
  have c1 : w1.cell? ⟨w.heap.size, 1, none⟩ = some (.bool f) := hc 1
  have c2 : w1.cell? ⟨w.heap.size, 2, none⟩ = some (.string (bstr ro)) := hc 2
  have c3 : w1.cell? ⟨w.heap.size, 3, none⟩ = some (.string (bstr va)) := hc 3
  have c4 : w1.cell? ⟨w.heap.size, 4, none⟩ = some (.int .u64 (ve : Int)) := hc 4
  have HW : Hid _ := hw1
  clear hc hw1
  go_enter Tryz.func5, Tryz.ntmps5
  go_upto_region 1 with fail
  have hw1 := HW.out
  rw [← hw1]
  clear hw1 HW
  go_wp2_with fail
  refine (K1 _).mono ?_
  rintro x w2 ⟨rfl, hb2⟩
  replace c0 := cell_below hb2 c0
  replace c1 := cell_below hb2 c1
  replace c2 := cell_below hb2 c2
  replace c3 := cell_below hb2 c3
  replace c4 := cell_below hb2 c4
  have hB2 := below2 hb1 hb2
  clear hb1 hb2
  go_wp2_with fail
  refine (K2 _).mono ?_
  rintro x w3 ⟨rfl, hb3⟩
  have hB3 := below2 hB2 hb3
  clear hb3 hB2 c0 c1 c2 c3 c4
  go_wp2_with fail
  refine (works16_any _).mono ?_
  rintro x w4 ⟨rfl, hb4⟩
  have hB4 := below2 hB3 hb4
  go_wp2
  go_ret
  exact ⟨rfl, hB4⟩

end Go.Proofs.YtckokfhoelajcaaGreat

namespace Go.Proofs.YtckokfhoelajcaaGreat
open Go.ChangeShapes Go.WideShapes Go.ChangeAt Go.RowKit

set_option maxRecDepth 100000 in
theorem opsResults_lifted (os : Os) (started : os.Started) (H : Type) (enc : TypeId × Value → H) :
    ReturnsInHanded {} Tryz.checked os 5 .any (Rows.opsResultsSpec.pre6 enc Tryz.prog Tryz.f5 Rows.opsResultsRow.domain false) (Rows.opsResultsSpec.post enc Tryz.prog Tryz.f5 false true false false) := by
  refine returnsInHanded_of_change_sized (C := Tryz.checked) k_own started (by kernel_rfl) Tryz.func5
    (ChangeSpec.witness6 (enc := enc) (C := Tryz.checked) false ⟨#[], #[.agg #[.int .i64 0, .bool false, .string ByteArray.empty, .string ByteArray.empty, .int .u64 0]], []⟩ 8 (by kernel_rfl) (by kernel_rfl) (by kernel_rfl) (by kernel_rfl)) ?_
  intro W base args ds gs before hval0 hW hcnd hsz0 _
  have hval : ∀ (j : Nat) t v, Tryz.f5.params[j]? = some t → args[j]? = some v → Value.okWide Tryz.prog W .any base t v := hval0
  have hW' := hW
  have hsz : (DataW.weightsEach Tryz.prog (Tryz.f5.params.toList ++ Rows.opsResultsSpec.plain.varTypes Tryz.prog) (ds ++ gs)).all (· ≤ reachBytes) = true := hsz0
  obtain ⟨p, q, hA0, hV, rfl, hfz, hnd⟩ := hW
  have hA : DataW.TrodAll enc Tryz.prog W 0 (fun _ => true) true Tryz.f5.params.toList args.toList ds p := hA0
  rw [Tryz.params5] at hA hval hsz
  obtain ⟨v0, vs0, d0, ds0, p0, q0, hargs, rfl, rfl, h0, r0⟩ := trodAll_cons hA
  obtain ⟨rfl, rfl, rfl⟩ := trodAll_nil r0
  obtain rfl : args = #[v0] := by cases args; simp_all
  obtain ⟨rfl, rfl⟩ := trodVars_none hV
  have lt0 : ∀ x ∈ p0, x.block < W.heap.size := by obtain ⟨m, hm⟩ := h0; exact DataW.trod_lt m _ _ _ hm
  obtain ⟨e0, f0, ro0, va0, ve0, rfl, hb0⟩ := arg_res (hval 0 46 v0 rfl rfl) h0
  clear hA0 hval0
  refine (OResults_any ⟨e0, f0, ro0, va0, ve0⟩ W).mono fun e W' ⟨he, bel⟩ => ?_
  subst he
  exact ⟨_, rfl, _, _, _, [], _, [], hW', trodAll_mk1 (shut_bool Tryz.underlying4 _), (trodAll_cons_mk (Below.trod k_laidOut (by kernel_rfl) (of_decide_eq_true (by kernel_rfl)) h0 bel lt0) trodAll_mk0), rfl, bel.frame _, fun h => by cases h⟩

/-- THE STATEMENT. -/
theorem opsResults_holds : Rows.OpsResultsSaid :=
  OpenClaim.holds_of_wide 5 Tryz.f5 rfl rfl rfl rfl rfl rfl rfl ⟨rfl, rfl, rfl, rfl, rfl⟩ rfl rfl rfl rfl rfl (by kernel_rfl) Tryz.func5 (by kernel_rfl)
    (of_decide_eq_true (by kernel_rfl)) (by unfold Func.isWrapper; first | (rw [if_pos (by decide +kernel)]; kernel_rfl) | (rw [if_neg (by decide +kernel)]; exact ⟨rfl, rfl⟩))
    (fun os started H enc _ => opsResults_lifted os started H enc)
#print axioms opsResults_holds

end Go.Proofs.YtckokfhoelajcaaGreat
