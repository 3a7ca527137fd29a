/-
  Proved: for every list l of texts, every place cut and every number of noughts the law SealRow returns true, and they read behind the call as before it: a row of frames that is cut anywhere has just those that are whole, and bytes 0 behind it change nothing. No condition but the card's own: the two tables of seal hold what the program's text lays.
-/
import Derived.Test.YtmimmbcchbmnbaaDoorCards
import Derived.Test.YtmimmbcchbmnbaaDoorTie
import Derived.Test.YtmimmbcchbmnbaaDoorSLaid
import Derived.Test.YtmimmbcchbmnbaaDoorRowWalk
import Derived.SliceStrings
namespace Go.Proofs.YtmimmbcchbmnbaaDoor
open Go.ChangeShapes Go.WideShapes Go.ChangeAt Go.RowKit

theorem sealRow_laidOut : laidOutB Tryd.prog = true := by kernel_rfl

theorem sealRow_met (os : Os) : laidMet Tryd.prog Rows.sealRowRow.laid ((laidWorld os).forCall (fun _ _ => 0) ⟨#[], #[.slice none 0 0, .int .i64 0, .int .u8 0], []⟩).memory :=
  laidMet_of_run' 8 (by kernel_rfl) (by kernel_rfl)
theorem sealRow_reads (os : Os) {H : Type} (enc : TypeId × Value → H) : ∃ places, DataW.whole enc Tryd.prog ((laidWorld os).forCall (fun _ _ => 0) ⟨#[], #[.slice none 0 0, .int .i64 0, .int .u8 0], []⟩).memory Tryd.f8.params.toList Rows.sealRowSpec.vars false #[Value.slice none 0 0, .int .i64 0, .int .u8 0].toList 8 = some ([.nil, .lit (.int .i64 0), .lit (.int .u8 0)], [], places) :=
  ⟨[], by kernel_rfl⟩

theorem sealRow_contract (H : Type) (enc : TypeId × Value → H) (W : World) (base : Nat) (args : Array Value) (ds gs : List (DataW H)) (before : List MemPlace)
    (hval : ∀ (j : Nat) t v, Tryd.f8.params[j]? = some t → args[j]? = some v → Value.okWide Tryd.prog W .any base t v)
    (hW : DataW.Whole enc Tryd.prog Tryd.f8.params.toList Rows.sealRowSpec.vars false W args.toList ds gs before)
    (hL : laidMetH Tryd.prog Rows.sealRowRow.laid W) :
    Calls Tryd.prog 8 args W fun e W' => ∃ v, e = .returned v ∧ Rows.sealRowSpec.post enc Tryd.prog Tryd.f8 false true false false W args v W' := by
  have hW' := hW
  obtain ⟨p, q, hA0, hV, rfl, hfz, hnd⟩ := hW
  have hA : DataW.TrodAll enc Tryd.prog W 0 (fun _ => true) true Tryd.f8.params.toList args.toList ds p := hA0
  rw [Tryd.params8] at hA hval
  obtain ⟨v0, vs0, d0, ds0, p0, q0, hargs0, rfl, rfl, h0, r0⟩ := trodAll_cons hA
  obtain ⟨v1, vs1, d1, ds1, p1, q1, hargs1, rfl, rfl, h1, r1⟩ := trodAll_cons r0
  obtain ⟨v2, vs2, d2, ds2, p2, q2, hargs2, rfl, rfl, h2, r2⟩ := trodAll_cons r1
  obtain ⟨rfl, rfl, rfl⟩ := trodAll_nil r2
  obtain rfl : args = #[v0, v1, v2] := by cases args; simp_all
  obtain ⟨rfl, rfl⟩ := trodVars_none hV
  obtain ⟨a0, len0, cap0, rfl⟩ := okWide_slice Tryd.underlying33 (hval 0 33 v0 rfl rfl)
  have k0 := h0
  have lt0 : ∀ x ∈ p0, x.block < W.heap.size := by obtain ⟨m, hm⟩ := k0; exact DataW.trod_lt m _ _ _ hm
  obtain ⟨a1, rfl, rfl, rfl, s1⟩ := open_int Tryd.underlying3 (hval 1 3 v1 rfl rfl) h1
  obtain ⟨a2, rfl, rfl, rfl, s2⟩ := open_int Tryd.underlying5 (hval 2 5 v2 rfl rfl) h2
  clear hA0
  simp only [List.append_nil] at hW'
  have hu8 := bounds_u8 s2
  obtain ⟨nz, rfl⟩ : ∃ nz : Nat, a2 = (nz : Int) := ⟨a2.toNat, by omega⟩
  have hwalk : Calls Tryd.prog 8 #[.slice a0 len0 cap0, .int .i64 a1, .int .u8 (nz : Int)] W fun e w' => e = .returned (.bool true) ∧ Below W.heap.size W w' := by
    obtain ⟨fuel, hf⟩ := h0
    rcases open_strings Tryd.underlying33 Tryd.underlying9 (by kernel_rfl) hf with ⟨hcs, _⟩ | ⟨a, len, cap, ss, hcs, _, hlc, hcm, hsl, _, hcell, hsz⟩
    · simp [Value.cells] at hcs
      obtain ⟨rfl, rfl, rfl⟩ := hcs
      exact row_walk [] none 0 a1 nz W (tabs_of_laid hL) (.inl rfl) (by simp) (by simp) (by omega)
    · simp [Value.cells] at hcs
      obtain ⟨rfl, rfl, rfl⟩ := hcs
      have hlen : (ss.take len0).length = len0 := by
        rw [List.length_take, hsl]
        simp
        omega
      have hlm : ((ss.take len0).map fun s : ByteArray => s.data.toList).length = len0 := by rw [List.length_map, hlen]
      have hw := row_walk ((ss.take len0).map fun s : ByteArray => s.data.toList) (some a) cap0 a1 nz W (tabs_of_laid hL) ?_ ?_ ?_ (by omega)
      · rw [hlm] at hw
        exact hw
      · by_cases hz : len0 = 0
        · left
          exact List.eq_nil_of_length_eq_zero (by rw [hlm, hz])
        · right
          have hssl : len0 ≤ ss.length := by rw [List.length_take] at hlen; omega
          obtain ⟨b, off, spot⟩ := a
          have hc0 := hcell 0 (by omega)
          have hspot : spot = none := by simpa [Addr.add] using World.cell?_spot hc0
          subst hspot
          have hat : StrsAt W b off ((ss.take len0).map fun s : ByteArray => s.data.toList) := by
            intro j hj
            rw [hlm] at hj
            have := hcell j (by omega)
            simp only [Addr.add_lit] at this
            rw [this, List.getElem_map, List.getElem_take, bstr_data, List.getD_eq_getElem?_getD, List.getElem?_eq_getElem (by omega)]
            rfl
          exact ⟨b, off, rfl, hat, World.block_lt_of_cell? W _ (hat 0 (by rw [hlm]; omega))⟩
      · rw [hlm]
        unfold maxLen at hcm
        omega
      · intro x hx
        obtain ⟨s, hs, rfl⟩ := List.mem_map.1 hx
        have := hsz s (List.mem_of_mem_take hs)
        unfold maxLen at this
        rw [← size_list]
        omega
  refine hwalk.mono fun e W' ⟨he, bel⟩ => ?_
  subst he
  exact ⟨_, rfl, _, _, _, [], _, [], hW', trodAll_mk1 (shut_bool Tryd.underlying4 _), (trodAll_cons_mk (Below.trod sealRow_laidOut (by kernel_rfl) (of_decide_eq_true (by kernel_rfl)) k0 bel lt0) (trodAll_cons_mk (shut_int Tryd.underlying3 s1) (trodAll_cons_mk (shut_int Tryd.underlying5 s2) trodAll_mk0))), rfl, bel.frame _, fun h => by cases h⟩

set_option maxRecDepth 100000 in
theorem sealRow_lifted (os : Os) (started : os.Started) (H : Type) (enc : TypeId × Value → H) (F : Stop.Interp) :
    ReturnsInHanded {} Tryd.checked os 8 .any ((OpenSpec.ofChange Rows.sealRowSpec).preRow enc Tryd.prog Tryd.f8 Rows.sealRowRow.domain false Rows.sealRowRow.laid) (((OpenSpec.ofChange Rows.sealRowSpec).at F).post enc Tryd.prog Tryd.f8 false true false false) := by
  obtain ⟨places, hx⟩ := sealRow_reads os enc
  refine returnsInHanded_of_row (C := Tryd.checked) (s := OpenSpec.ofChange Rows.sealRowSpec) own started (by kernel_rfl) Tryd.func8
    (witness_row_at (enc := enc) (C := Tryd.checked) false (laidWorld os) #[.slice none 0 0, .int .i64 0, .int .u8 0] rfl (by kernel_rfl) (by kernel_rfl) (by kernel_rfl)
      (OpenSpec.preRow_of_cond 8 hx (by kernel_rfl) (fun k hk => by cases hk) (by kernel_rfl) (sealRow_met os))) ?_
  intro W base args ds gs before hval hW _ _ _ hL _ _
  exact sealRow_contract H enc W base args ds gs before hval hW hL

theorem sealRow_said : Rows.SealRowSaid :=
  OpenClaim.holds_of_cond 8 Tryd.f8 rfl rfl rfl rfl rfl rfl rfl ⟨rfl, rfl, rfl, rfl, rfl⟩ rfl rfl rfl rfl rfl (by kernel_rfl) Tryd.func8 (by kernel_rfl)
    (of_decide_eq_true (by kernel_rfl)) (by unfold Func.isWrapper; first | (rw [if_pos (by decide +kernel)]; kernel_rfl) | (rw [if_neg (by decide +kernel)]; exact ⟨rfl, rfl⟩))
    (fun os started H enc _ F => by rw [OpenClaim.pre_eq_preRow]; exact sealRow_lifted os started H enc F)

theorem sealRow_plain (f : FuncId) (fn : Func) (hf : Tryd.pinned.checked.prog.funcNamed "acreage/acreagelaw02.SealRow" = some f) (hfn : Tryd.pinned.checked.prog.funcs[f]? = some fn) :
    false = Tryd.pinned.checked.prog.looks [] ∧ ∀ (j : Nat) t, fn.params[j]? = some t → Tryd.pinned.checked.prog.wantsStandIn t = false := by
  obtain rfl : f = 8 := Option.some.inj ((show Tryd.prog.funcNamed "acreage/acreagelaw02.SealRow" = some 8 by kernel_rfl).symm.trans hf) |>.symm
  obtain rfl : fn = Tryd.f8 := (Option.some.inj (Tryd.func8.symm.trans hfn)).symm
  refine ⟨by kernel_rfl, fun j t ht => ?_⟩
  rw [Tryd.params8] at ht
  have hm : t ∈ [33, 3, 5] := by simpa using Array.mem_of_getElem? ht
  have hall : ([33, 3, 5].all fun u => !Tryd.prog.wantsStandIn u) = true := by kernel_rfl
  exact (show Tryd.prog.wantsStandIn t = false by simpa using List.all_eq_true.1 hall t hm)

/-- THE STATEMENT. -/
theorem sealRow_card : Rows.SealRowCardSaid :=
  Claim7.holds_tied_plain_at .later [] _ _ _ _ sealRow_said (fun _ h => by cases h) (by kernel_rfl) (fun _ h => by cases h) sealRow_row_tie rfl ⟨rfl, rfl⟩ (by kernel_rfl) rfl sealRow_plain (by kernel_rfl)
#print axioms sealRow_card

end Go.Proofs.YtmimmbcchbmnbaaDoor
