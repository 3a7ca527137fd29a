/-
  Proved: a seek finds the least row, from one on, in which the column is there, with what a get answers of it, for any operations by small numbers.
-/
import Derived.Test.YtlkikfkchgmmhaaYOpn2
import Derived.Test.YtlkikfkchgmmhaaYMsk
namespace Go.Proofs.Ytlkikfkchgmmhaa
open Go.ChangeShapes Go.WideShapes Go.ChangeAt Go.RowKit

theorem MSeeks_i (q : Option Addr) (b off cap : Nat) (l : List Ac) (a : Int) (w : World) (hq : 0 < l.length → q = some ⟨b, off, none⟩ ∧ AcRow w b off l ∧ b < w.heap.size) (hok : ∀ a ∈ l, AcOk a) (hn : l.length ≤ 140737488351232) (ha : (Lit.int .u8 a).wf = true) :
    Calls Try.prog 5 #[.slice q l.length cap, .int .u8 a] w fun e w' => e = .returned (.bool true) ∧ Below w.heap.size w w' := by
  have hb := bounds_u8 ha
  obtain ⟨n, rfl⟩ : ∃ n : Nat, a = (n : Int) := ⟨a.toNat, by omega⟩
  exact MSeeks_any q b off cap n l w hq hok hn (by omega)

set_option maxRecDepth 100000 in
theorem modelSeeks_lifted (os : Os) (started : os.Started) (H : Type) (enc : TypeId × Value → H) :
    ReturnsInHanded {} Try.checked os 5 .any (Rows.modelSeeksSpec.pre6 enc Try.prog Try.f5 Rows.modelSeeksRow.domain false) (Rows.modelSeeksSpec.post enc Try.prog Try.f5 false true false false) := by
  refine returnsInHanded_of_change_sized (C := Try.checked) k_own started (by kernel_rfl) Try.func5
    (ChangeSpec.witness6 (enc := enc) (C := Try.checked) false ⟨#[], #[.slice none 0 0, .int .u8 0], []⟩ 8 (by kernel_rfl) (by kernel_rfl) (by kernel_rfl) (by kernel_rfl)) ?_
  intro W base args ds gs before hval0 hW hcnd hsz0 _
  have hval : ∀ (j : Nat) t v, Try.f5.params[j]? = some t → args[j]? = some v → Value.okWide Try.prog W .any base t v := hval0
  have hW' := hW
  have hsz : (DataW.weightsEach Try.prog (Try.f5.params.toList ++ Rows.modelSeeksSpec.plain.varTypes Try.prog) (ds ++ gs)).all (· ≤ reachBytes) = true := hsz0
  obtain ⟨p, q, hA0, hV, rfl, hfz, hnd⟩ := hW
  have hA : DataW.TrodAll enc Try.prog W 0 (fun _ => true) true Try.f5.params.toList args.toList ds p := hA0
  rw [Try.params5] at hA hval hsz
  obtain ⟨v0, vs0, d0, ds0, p0, q0, hargs, rfl, rfl, h0, r0⟩ := trodAll_cons hA
  obtain ⟨v1, vs1, d1, ds1, p1, q1, rfl, rfl, rfl, h1, r1⟩ := trodAll_cons r0
  obtain ⟨rfl, rfl, rfl⟩ := trodAll_nil r1
  obtain rfl : args = #[v0, v1] := by cases args; simp_all
  obtain ⟨rfl, rfl⟩ := trodVars_none hV
  have lt0 : ∀ x ∈ p0, x.block < W.heap.size := by obtain ⟨m, hm⟩ := h0; exact DataW.trod_lt m _ _ _ hm
  have lt1 : ∀ x ∈ p1, x.block < W.heap.size := by obtain ⟨m, hm⟩ := h1; exact DataW.trod_lt m _ _ _ hm
  have hz0 : (d0.weights Try.prog 41).all (· ≤ reachBytes) = true := by
    rw [List.all_eq_true] at hsz ⊢
    exact fun n hn => hsz n (DataW.weights_mem_each (j := 0) rfl rfl n hn)
  obtain ⟨aa0, ll0, cc0, rfl⟩ := okWide_slice Try.underlying41 (hval 0 41 v0 rfl rfl)
  obtain ⟨q0, b0, off0, cap0, as0, hv0, hq0, hk0, hn0, hcap0, hcm0, hnil0⟩ : ∃ (q : Option Addr) (b off cap : Nat) (cs : List Ac), [Value.slice aa0 ll0 cc0] = [.slice q cs.length cap] ∧ (0 < cs.length → q = some ⟨b, off, none⟩ ∧ AcRow W b off cs ∧ b < W.heap.size) ∧ (∀ c ∈ cs, AcOk c) ∧ cs.length * 6 ≤ 140737488351232 ∧ cs.length ≤ cap ∧ cap ≤ maxLen ∧ (q = none → cs = [] ∧ cap = 0) := by
    obtain ⟨fuel, hf⟩ := id h0
    exact view_acts hf hz0
  obtain ⟨rfl, rfl, rfl⟩ : aa0 = q0 ∧ ll0 = as0.length ∧ cc0 = cap0 := by simpa using hv0
  obtain ⟨a1, rfl, _, _, hb1⟩ := open_int Try.underlying5 (hval 1 5 v1 rfl rfl) h1
  clear hA0 hval0
  refine (MSeeks_i aa0 b0 off0 cc0 as0 a1 W hq0 hk0 (by omega) hb1).mono fun e W' ⟨he, bel⟩ => ?_
  subst he
  exact ⟨_, rfl, _, _, _, [], _, [], hW', trodAll_mk1 (shut_bool Try.underlying4 _), (trodAll_cons_mk (Below.trod k_laidOut (by kernel_rfl) (of_decide_eq_true (by kernel_rfl)) h0 bel lt0) (trodAll_cons_mk (Below.trod k_laidOut (by kernel_rfl) (of_decide_eq_true (by kernel_rfl)) h1 bel lt1) trodAll_mk0)), rfl, bel.frame _, fun h => by cases h⟩

/-- THE STATEMENT. -/
theorem modelSeeks_holds : Rows.ModelSeeksSaid :=
  OpenClaim.holds_of_wide 5 Try.f5 rfl rfl rfl rfl rfl rfl rfl ⟨rfl, rfl, rfl, rfl, rfl⟩ rfl rfl rfl rfl rfl (by kernel_rfl) Try.func5 (by kernel_rfl)
    (of_decide_eq_true (by kernel_rfl)) (by unfold Func.isWrapper; first | (rw [if_pos (by decide +kernel)]; kernel_rfl) | (rw [if_neg (by decide +kernel)]; exact ⟨rfl, rfl⟩))
    (fun os started H enc _ => modelSeeks_lifted os started H enc)
#print axioms modelSeeks_holds

end Go.Proofs.Ytlkikfkchgmmhaa
