/-
  Proved: for all lists of small cells, places and bytes the law TableRefuses returns true, and the list reads behind the call as before it: bytes of a table that are cut, lengthened, or one of which is another one, are none's, or a table's whose cells are in order. No condition but the card's own: the listed package-level variables hold what the program's text lays.
-/
import Derived.Test.YtefmplmbalfmiaaGreatDoorCards
import Derived.Test.YtefmplmbalfmiaaGreatDoorTie
import Derived.Test.YtefmplmbalfmiaaGreatDoorGTLaid
import Derived.Test.YtefmplmbalfmiaaGreatDoorGTOpen
import Derived.Test.YtefmplmbalfmiaaGreatDoorGTRf
namespace Go.Proofs.YtefmplmbalfmiaaGreatDoor
set_option maxRecDepth 100000
open Go.ChangeShapes Go.WideShapes Go.ChangeAt Go.RowKit

theorem tableRefuses_met (os : Os) : laidMet Tryz.prog Rows.tableRefusesRow.laid ((World.laidAll Tryz.prog os laid2).forCall (fun _ _ => 0) ⟨#[], #[.slice none 0 0, .int .i64 0, .int .u8 0], []⟩).memory :=
  laidMet_laidAll (laid := laid2) _ (by kernel_rfl) (by kernel_rfl)
theorem tableRefuses_reads (os : Os) {H : Type} (enc : TypeId × Value → H) : ∃ places, DataW.whole enc Tryz.prog ((World.laidAll Tryz.prog os laid2).forCall (fun _ _ => 0) ⟨#[], #[.slice none 0 0, .int .i64 0, .int .u8 0], []⟩).memory Tryz.f6.params.toList Rows.tableRefusesSpec.vars false #[Value.slice none 0 0, .int .i64 0, .int .u8 0].toList 8 = some ([.nil, .lit (.int .i64 0), .lit (.int .u8 0)], [], places) :=
  ⟨[], by kernel_rfl⟩

theorem tableRefuses_contract (H : Type) (enc : TypeId × Value → H) (W : World) (base : Nat) (args : Array Value) (ds gs : List (DataW H)) (before : List MemPlace)
    (hval : ∀ (j : Nat) t v, Tryz.f6.params[j]? = some t → args[j]? = some v → Value.okWide Tryz.prog W .any base t v)
    (hW : DataW.Whole enc Tryz.prog Tryz.f6.params.toList Rows.tableRefusesSpec.vars false W args.toList ds gs before)
    (hwt : (DataW.weightsEach Tryz.prog (Tryz.f6.params.toList ++ (OpenSpec.ofChange Rows.tableRefusesSpec).bare.plain.varTypes Tryz.prog) (ds ++ gs)).all (· ≤ reachBytes) = true)
    (hL : laidMetH Tryz.prog Rows.tableRefusesRow.laid W) :
    Calls Tryz.prog 6 args W fun e W' => ∃ v, e = .returned v ∧ Rows.tableRefusesSpec.post enc Tryz.prog Tryz.f6 false true false false W args v W' := by
  have hW' := hW
  obtain ⟨p, q, hA0, hV, rfl, hfz, hnd⟩ := hW
  have hA : DataW.TrodAll enc Tryz.prog W 0 (fun _ => true) true Tryz.f6.params.toList args.toList ds p := hA0
  rw [Tryz.params6] at hA hval
  obtain ⟨v0, vs0, d0, ds0, p0, q0, hargs0, rfl, rfl, h0, r0⟩ := trodAll_cons hA
  obtain ⟨v1, vs1, d1, ds1, p1, q1, hargs1, rfl, rfl, h1, r1⟩ := trodAll_cons r0
  obtain ⟨v2, vs2, d2, ds2, p2, q2, hargs2, rfl, rfl, h2, r2⟩ := trodAll_cons r1
  obtain ⟨rfl, rfl, rfl⟩ := trodAll_nil r2
  obtain rfl : args = #[v0, v1, v2] := by cases args; simp_all
  obtain ⟨rfl, rfl⟩ := trodVars_none hV
  have lt0 : ∀ x ∈ p0, x.block < W.heap.size := by obtain ⟨m, hm⟩ := h0; exact DataW.trod_lt m _ _ _ hm
  have lt1 : ∀ x ∈ p1, x.block < W.heap.size := by obtain ⟨m, hm⟩ := h1; exact DataW.trod_lt m _ _ _ hm
  have lt2 : ∀ x ∈ p2, x.block < W.heap.size := by obtain ⟨m, hm⟩ := h2; exact DataW.trod_lt m _ _ _ hm
  have hz0 : (d0.weights Tryz.prog 51).all (· ≤ reachBytes) = true := by
    rw [List.all_eq_true] at hwt ⊢
    exact fun n hn => hwt n (DataW.weights_mem_each (j := 0) (by rw [Tryz.params6]; rfl) rfl n hn)
  obtain ⟨aa0, ll0, cc0, rfl⟩ := okWide_slice Tryz.underlying51 (hval 0 51 _ rfl rfl)
  obtain ⟨q0x, b0, off0, cap0, cs0, hv0, hq0, hf0, hn0, hcap0, hcm0, hnil0⟩ : ∃ (q : Option Addr) (b off cap : Nat) (cs : List Sp), [Value.slice aa0 ll0 cc0] = [.slice q cs.length cap] ∧ (0 < cs.length → q = some ⟨b, off, none⟩ ∧ SpRow W b off cs ∧ b < W.heap.size) ∧ (∀ c ∈ cs, SpOk c) ∧ cs.length * 24 ≤ 140737488351232 ∧ cs.length ≤ cap ∧ cap ≤ maxLen ∧ (q = none → cs = [] ∧ cap = 0) := by
    obtain ⟨fuel, hf⟩ := id h0
    exact view_spots hf hz0
  obtain ⟨rfl, rfl, rfl⟩ : aa0 = q0x ∧ ll0 = cs0.length ∧ cc0 = cap0 := by simpa using hv0
  obtain ⟨a1, rfl, hd1, hp1, hs1⟩ := open_int Tryz.underlying3 (hval 1 3 v1 rfl rfl) h1
  obtain ⟨a2, rfl, hd2, hp2, hs2⟩ := open_int Tryz.underlying5 (hval 2 5 v2 rfl rfl) h2
  have hu2 := bounds_u8 hs2
  obtain ⟨n2, rfl⟩ : ∃ n2 : Nat, a2 = (n2 : Int) := ⟨a2.toNat, by omega⟩
  clear hA0
  simp only [List.append_nil] at hW'
  have hwalk := Refuses_any aa0 b0 off0 cc0 cs0 a1 n2 W hq0 hf0 (by omega) (tabs_of_laid hL) 
  refine hwalk.mono fun e W' ⟨he, bel⟩ => ?_
  subst he
  exact ⟨_, rfl, _, _, _, [], _, [], hW', trodAll_mk1 (shut_bool Tryz.underlying4 _), (trodAll_cons_mk (Below.trod k_laidOut (by kernel_rfl) (of_decide_eq_true (by kernel_rfl)) h0 bel lt0) (trodAll_cons_mk (Below.trod k_laidOut (by kernel_rfl) (of_decide_eq_true (by kernel_rfl)) h1 bel lt1) (trodAll_cons_mk (Below.trod k_laidOut (by kernel_rfl) (of_decide_eq_true (by kernel_rfl)) h2 bel lt2) trodAll_mk0))), rfl, bel.frame _, fun h => by cases h⟩

theorem tableRefuses_lifted (os : Os) (started : os.Started) (H : Type) (enc : TypeId × Value → H) (F : Stop.Interp) :
    ReturnsInHanded {} Tryz.checked os 6 .any ((OpenSpec.ofChange Rows.tableRefusesSpec).preRow enc Tryz.prog Tryz.f6 Rows.tableRefusesRow.domain false Rows.tableRefusesRow.laid) (((OpenSpec.ofChange Rows.tableRefusesSpec).at F).post enc Tryz.prog Tryz.f6 false true false false) := by
  obtain ⟨places, hx⟩ := tableRefuses_reads os enc
  refine returnsInHanded_of_row (C := Tryz.checked) (s := OpenSpec.ofChange Rows.tableRefusesSpec) own started (by kernel_rfl) Tryz.func6
    (witness_row_at (enc := enc) (C := Tryz.checked) false (World.laidAll Tryz.prog os laid2) #[.slice none 0 0, .int .i64 0, .int .u8 0] (World.laidAll_os _ _ _) (by kernel_rfl) (by kernel_rfl) (by kernel_rfl)
      (OpenSpec.preRow_of_cond 8 hx (by kernel_rfl) (fun k hk => by cases hk) (by kernel_rfl) (tableRefuses_met os))) ?_
  intro W base args ds gs before hval hW _ _ hwt hL _ _
  exact tableRefuses_contract H enc W base args ds gs before hval hW hwt hL

theorem tableRefuses_said : Rows.TableRefusesSaid :=
  OpenClaim.holds_of_cond 6 Tryz.f6 rfl rfl rfl rfl rfl rfl rfl ⟨rfl, rfl, rfl, rfl, rfl⟩ rfl rfl rfl rfl rfl (by kernel_rfl) Tryz.func6 (by kernel_rfl)
    (of_decide_eq_true (by kernel_rfl)) (by unfold Func.isWrapper; first | (rw [if_pos (by decide +kernel)]; kernel_rfl) | (rw [if_neg (by decide +kernel)]; exact ⟨rfl, rfl⟩))
    (fun os started H enc _ F => by rw [OpenClaim.pre_eq_preRow]; exact tableRefuses_lifted os started H enc F)

theorem tableRefuses_plain (f : FuncId) (fn : Func) (hf : Tryz.pinned.checked.prog.funcNamed "acreage/acreagelaw11.TableRefuses" = some f) (hfn : Tryz.pinned.checked.prog.funcs[f]? = some fn) :
    false = Tryz.pinned.checked.prog.looks [] ∧ ∀ (j : Nat) t, fn.params[j]? = some t → Tryz.pinned.checked.prog.wantsStandIn t = false := by
  obtain rfl : f = 6 := Option.some.inj ((show Tryz.prog.funcNamed "acreage/acreagelaw11.TableRefuses" = some 6 by kernel_rfl).symm.trans hf) |>.symm
  obtain rfl : fn = Tryz.f6 := (Option.some.inj (Tryz.func6.symm.trans hfn)).symm
  refine ⟨by kernel_rfl, fun j t ht => ?_⟩
  rw [Tryz.params6] at ht
  have hm : t ∈ [51, 3, 5] := by simpa using Array.mem_of_getElem? ht
  have hall : ([51, 3, 5].all fun u => !Tryz.prog.wantsStandIn u) = true := by kernel_rfl
  exact (show Tryz.prog.wantsStandIn t = false by simpa using List.all_eq_true.1 hall t hm)

/-- THE STATEMENT. -/
theorem tableRefuses_card : Rows.TableRefusesCardSaid :=
  Claim7.holds_tied_plain_at .later [] _ _ _ _ tableRefuses_said (fun _ h => by cases h) (by kernel_rfl) (fun _ h => by cases h) tableRefuses_row_tie rfl ⟨rfl, rfl⟩ (by kernel_rfl) rfl tableRefuses_plain (by kernel_rfl)
#print axioms tableRefuses_card

end Go.Proofs.YtefmplmbalfmiaaGreatDoor
