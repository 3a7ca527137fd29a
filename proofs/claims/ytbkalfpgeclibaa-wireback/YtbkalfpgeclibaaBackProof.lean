/-
  Proved: for every list of things and every text behind them the law WireBack returns true, and both arguments read behind the call as before it: numbers and texts that are put one behind the other are read back just so, and what is left is what stands behind. No condition.
-/
import Derived.Test.YtbkalfpgeclibaaRows
import Derived.Test.YtbkalfpgeclibaaBackNil
import Derived.ProofKit
import Derived.OpenShut
import Derived.ShutString
import Derived.Deep.Strs
import Derived.Deep.Slices
namespace Go.Proofs.Ytbkalfpgeclibaa
open Go.ChangeShapes Go.WideShapes Go.ChangeAt Go.RowKit Go.Deep
open Go.ChangeMaps (open_string shut_string)

theorem wireBack_own : ownKnob Try.prog.godebug = none := by kernel_rfl
theorem wireBack_laidOut : laidOutB Try.prog = true := by kernel_rfl
theorem thing_cells : Try.prog.cellsOf 35 = 3 := by kernel_rfl
theorem bool_cells : Try.prog.cellsOf 4 = 1 := by kernel_rfl
theorem u64_cells : Try.prog.cellsOf 22 = 1 := by kernel_rfl
theorem string_cells : Try.prog.cellsOf 9 = 1 := by kernel_rfl

section
variable {H : Type} {enc : TypeId × Value → H} {w : World} {base : Nat} {spare : Nat → Bool} {held : Bool}

theorem open_thing {fuel : Nat} {cs : List Value} {x : DataW H × List MemPlace} (h : DataW.trod enc Try.prog w base spare held fuel 35 cs = some x) :
    ∃ y : Th, cs = [.bool y.t, .int .u64 (y.n : Int), .string (bstr y.s)] ∧ y.n < 18446744073709551616 := by
  obtain ⟨y0, y1, y2, n, _, hl, h0, h1, h2⟩ := trod_struct3 Try.underlying35 h
  rw [thing_cells] at hl
  match cs, hl with
  | [c0, c1, c2], _ =>
    simp only [bool_cells, u64_cells, string_cells, List.drop_zero, List.drop_succ_cons, List.take_succ_cons, List.take_zero] at h0 h1 h2
    obtain ⟨t, e0, _⟩ := DataW.trod_bool Try.underlying4 h0
    obtain ⟨m, e1, _, wf⟩ := DataW.trod_int Try.underlying22 h1
    obtain ⟨s, e2, _⟩ := DataW.trod_string Try.underlying9 h2
    simp only [List.cons.injEq, and_true] at e0 e1 e2
    subst e0 e1 e2
    have hb := bounds_u64 wf
    exact ⟨⟨t, m.toNat, s.data.toList⟩, by simp only [bstr_data, Int.toNat_of_nonneg hb.1], by simp only; omega⟩

theorem open_things {fuel : Nat} {cs : List Value} {x : DataW H × List MemPlace} (h : DataW.trod enc Try.prog w base spare held fuel 33 cs = some x) :
    cs = [.slice none 0 0] ∨ ∃ (a : Addr) (len cap : Nat) (ths : List Th), cs = [.slice (some a) len cap] ∧ ths.length = len ∧ len ≤ maxLen ∧ (∀ y ∈ ths, y.n < 18446744073709551616) ∧
      ∀ i (hi : i < ths.length), w.cell? (a.add (i * 3)) = some (.bool ths[i].t) ∧ w.cell? (a.add (i * 3 + 1)) = some (.int .u64 (ths[i].n : Int)) ∧ w.cell? (a.add (i * 3 + 2)) = some (.string (bstr ths[i].s)) := by
  rcases open_slice Try.underlying33 h with ⟨h0, _⟩ | ⟨a, len, cap, m, n, D, Pl, rfl, hb, hl, hm, hmm, _, hx⟩
  · exact .inl h0
  right
  have hlm : len ≤ m := by rw [hmm]; split <;> omega
  have each : ∀ i, i < len → ∃ y : Th, y.n < 18446744073709551616 ∧ w.cell? (a.add (i * 3)) = some (.bool y.t) ∧ w.cell? (a.add (i * 3 + 1)) = some (.int .u64 (y.n : Int)) ∧ w.cell? (a.add (i * 3 + 2)) = some (.string (bstr y.s)) := by
    intro i hi
    obtain ⟨cs', h1, h2⟩ := hx i (by omega)
    rw [thing_cells] at h1
    obtain ⟨_, hlen, hcell⟩ := World.cells?_some h1
    obtain ⟨y, rfl, hy⟩ := open_thing h2
    have e0 := hcell 0 (by omega)
    have e1 := hcell 1 (by omega)
    have e2 := hcell 2 (by omega)
    rw [add_add] at e0 e1 e2
    exact ⟨y, hy, by simpa using e0, by simpa using e1, by simpa using e2⟩
  have hlist : ∃ ths : List Th, ths.length = len ∧ ∀ i (hi : i < ths.length), ths[i].n < 18446744073709551616 ∧ w.cell? (a.add (i * 3)) = some (.bool ths[i].t) ∧ w.cell? (a.add (i * 3 + 1)) = some (.int .u64 (ths[i].n : Int)) ∧ w.cell? (a.add (i * 3 + 2)) = some (.string (bstr ths[i].s)) := by
    have : ∀ k, k ≤ len → ∃ ths : List Th, ths.length = k ∧ ∀ i (hi : i < ths.length), ths[i].n < 18446744073709551616 ∧ w.cell? (a.add (i * 3)) = some (.bool ths[i].t) ∧ w.cell? (a.add (i * 3 + 1)) = some (.int .u64 (ths[i].n : Int)) ∧ w.cell? (a.add (i * 3 + 2)) = some (.string (bstr ths[i].s)) := by
      intro k
      induction k with
      | zero => exact fun _ => ⟨[], rfl, fun i hi => by simp at hi⟩
      | succ k ih =>
        intro hk
        obtain ⟨ths, h1, h2⟩ := ih (by omega)
        obtain ⟨y, hy⟩ := each k (by omega)
        refine ⟨ths ++ [y], by simp [h1], fun i hi => ?_⟩
        by_cases hik : i < ths.length
        · rw [List.getElem_append_left hik]
          exact h2 i hik
        · have : i = k := by simp at hi; omega
          subst this
          have e : (ths ++ [y])[i]'hi = y := by
            rw [List.getElem_append_right (by omega)]
            simp [h1]
          rw [e]
          exact hy
    exact this len (Nat.le_refl _)
  obtain ⟨ths, h1, h2⟩ := hlist
  refine ⟨a, len, cap, ths, rfl, h1, by omega, fun y hy => ?_, fun i hi => (h2 i hi).2⟩
  obtain ⟨i, hi, rfl⟩ := List.getElem_of_mem hy
  exact (h2 i hi).1

end

set_option maxRecDepth 100000 in
theorem wireBack_lifted (os : Os) (started : os.Started) (H : Type) (enc : TypeId × Value → H) :
    ReturnsInHanded {} Try.checked os 4 .any (Rows.wireBackSpec.pre6 enc Try.prog Try.f4 Rows.wireBackRow.domain false) (Rows.wireBackSpec.post enc Try.prog Try.f4 false true false false) := by
  refine returnsInHanded_of_change (C := Try.checked) wireBack_own started (by kernel_rfl) Try.func4
    (ChangeSpec.witness6 (enc := enc) (C := Try.checked) false ⟨#[], #[.slice none 0 0, .string ByteArray.empty], []⟩ 8 (by kernel_rfl) (by kernel_rfl) (by kernel_rfl) (by kernel_rfl)) ?_
  intro W base args ds gs before hval0 hW hcnd _
  have hval : ∀ (j : Nat) t v, Try.f4.params[j]? = some t → args[j]? = some v → Value.okWide Try.prog W .any base t v := hval0
  have hW' := hW
  obtain ⟨p, q, hA0, hV, rfl, hfz, hnd⟩ := hW
  have hA : DataW.TrodAll enc Try.prog W 0 (fun _ => true) true Try.f4.params.toList args.toList ds p := hA0
  rw [Try.params4] at hA hval
  obtain ⟨v0, vs0, d0, ds0, p0, q0, hargs, rfl, rfl, h0, r0⟩ := trodAll_cons hA
  obtain ⟨v1, vs1, d1, ds1, p1, q1, rfl, rfl, rfl, h1, r1⟩ := trodAll_cons r0
  obtain ⟨rfl, rfl, rfl⟩ := trodAll_nil r1
  obtain rfl : args = #[v0, v1] := by cases args; simp_all
  obtain ⟨rfl, rfl⟩ := trodVars_none hV
  obtain ⟨a0, len0, cap0, rfl⟩ := okWide_slice Try.underlying33 (hval 0 33 v0 rfl rfl)
  have k0 := h0
  have lt0 : ∀ x ∈ p0, x.block < W.heap.size := by obtain ⟨m, hm⟩ := k0; exact DataW.trod_lt m _ _ _ hm
  obtain ⟨a1, rfl, rfl, rfl, w1⟩ := open_string Try.underlying9 (hval 1 9 v1 rfl rfl) h1
  clear hA0 hval0
  have hwalk : Calls Try.prog 4 #[.slice a0 len0 cap0, .string a1] W fun e w' => e = .returned (.bool true) ∧ Below W.heap.size W w' := by
    have hnil : ∀ ao cap, Calls Try.prog 4 #[.slice ao 0 cap, .string a1] W fun e w' => e = .returned (.bool true) ∧ Below W.heap.size W w' := by
      intro ao cap
      have := back_nil ao cap a1.data.toList W
      rwa [bstr_data] at this
    obtain ⟨fuel, hf⟩ := h0
    rcases open_things hf with hcs | ⟨a, len, cap, ths, hcs, hl, hm, hn, hc⟩
    · simp [Value.cells] at hcs
      obtain ⟨rfl, rfl, rfl⟩ := hcs
      exact hnil _ _
    · simp [Value.cells] at hcs
      obtain ⟨rfl, rfl, rfl⟩ := hcs
      by_cases hz : ths.length = 0
      · rw [← hl, hz]
        exact hnil _ _
      · obtain ⟨b, off, spot⟩ := a
        have hc0 := (hc 0 (by omega)).1
        have hspot : spot = none := by simpa [Addr.add] using World.cell?_spot hc0
        subst hspot
        have hat : ThAt W b off ths := fun i hi => by
          have := hc i hi
          simp only [Addr.add_lit] at this
          exact this
        have hb := World.block_lt_of_cell? W _ (hat 0 (by omega)).1
        have := back_walk ths b off cap0 a1.data.toList W hat hb hn (by unfold maxLen at hm; omega)
        rw [bstr_data, hl] at this
        exact this
  refine hwalk.mono fun e W' ⟨he, bel⟩ => ?_
  subst he
  exact ⟨_, rfl, _, _, _, [], _, [], hW', trodAll_mk1 (shut_bool Try.underlying4 _), (trodAll_cons_mk (Below.trod wireBack_laidOut (by kernel_rfl) (of_decide_eq_true (by kernel_rfl)) k0 bel lt0) (trodAll_cons_mk (shut_string Try.underlying9 w1) trodAll_mk0)), rfl, bel.frame _, fun h => by cases h⟩

/-- THE STATEMENT. -/
theorem wireBack_holds : Rows.WireBackSaid :=
  OpenClaim.holds_of_wide 4 Try.f4 rfl rfl rfl rfl rfl rfl rfl ⟨rfl, rfl, rfl, rfl, rfl⟩ rfl rfl rfl rfl rfl (by kernel_rfl) Try.func4 (by kernel_rfl)
    (of_decide_eq_true (by kernel_rfl)) (by unfold Func.isWrapper; first | (rw [if_pos (by decide +kernel)]; kernel_rfl) | (rw [if_neg (by decide +kernel)]; exact ⟨rfl, rfl⟩))
    (fun os started H enc _ => wireBack_lifted os started H enc)
#print axioms wireBack_holds

end Go.Proofs.Ytbkalfpgeclibaa
