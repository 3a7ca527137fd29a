/-
  How an argument that is a list of operations by small numbers is read, with the bounds that every argument bears.
-/
import Derived.Test.YtlkikfkchgmmhaaYOpen
import Derived.Test.YtlkikfkchgmmhaaYLst1
namespace Go.Proofs.Ytlkikfkchgmmhaa
set_option maxRecDepth 100000
open Go.ChangeShapes Go.WideShapes Go.ChangeAt Go.RowKit Go.Deep

theorem act_cells : Try.prog.cellsOf 47 = 6 := by kernel_rfl
theorem u8_cells : Try.prog.cellsOf 5 = 1 := by kernel_rfl
theorem Try.bytesAct : Try.prog.bytesOf 47 = 6 := by kernel_rfl
section
variable {H : Type} {enc : TypeId × Value → H} {w : World} {base : Nat} {spare : Nat → Bool} {held : Bool}

/-- A small operation read. -/
theorem view_act {fuel : Nat} {cs : List Value} {x : DataW H × List MemPlace} (h : DataW.trod enc Try.prog w base spare held fuel 47 cs = some x) :
    ∃ c : Ac, cs = (acC c).toList ∧ AcOk c := by
  obtain ⟨y0, y1, y2, y3, y4, y5, n, hx, hl, h0, h1, h2, h3, h4, h5⟩ := trod_struct6x Try.underlying47 h
  rw [act_cells] at hl
  match cs, hl with
  | [c0, c1, c2, c3, c4, c5], _ =>
    simp only [u8_cells, bool_cells, List.drop_zero, List.drop_succ_cons, List.take_succ_cons, List.take_zero] at h0 h1 h2 h3 h4 h5
    obtain ⟨m0, e0, k0⟩ := DataW.trod_int Try.underlying5 h0
    obtain ⟨m1, e1, k1⟩ := DataW.trod_int Try.underlying5 h1
    obtain ⟨m2, e2, k2⟩ := DataW.trod_int Try.underlying5 h2
    obtain ⟨m3, e3, k3⟩ := DataW.trod_int Try.underlying5 h3
    obtain ⟨m4, e4, k4⟩ := DataW.trod_int Try.underlying5 h4
    obtain ⟨g, e5, _⟩ := DataW.trod_bool Try.underlying4 h5
    simp only [List.cons.injEq, and_true] at e0 e1 e2 e3 e4 e5
    subst e0 e1 e2 e3 e4 e5
    have b0 := bounds_u8 k0.2
    have b1 := bounds_u8 k1.2
    have b2 := bounds_u8 k2.2
    have b3 := bounds_u8 k3.2
    have b4 := bounds_u8 k4.2
    refine ⟨⟨m0.toNat, m1.toNat, m2.toNat, m3.toNat, m4.toNat, g⟩, ?_, ?_⟩
    · unfold acC
      simp only [Int.toNat_of_nonneg b0.1, Int.toNat_of_nonneg b1.1, Int.toNat_of_nonneg b2.1, Int.toNat_of_nonneg b3.1, Int.toNat_of_nonneg b4.1]
    · exact ⟨by show m0.toNat < 256; omega, by show m1.toNat < 256; omega, by show m2.toNat < 256; omega, by show m3.toNat < 256; omega, by show m4.toNat < 256; omega⟩
/-- A list of small operations read, with its bounds. -/
theorem view_acts {fuel : Nat} {vs : List Value} {x : DataW H × List MemPlace} (h : DataW.trod enc Try.prog w base spare held fuel 41 vs = some x) (hw : (x.1.weights Try.prog 41).all (· ≤ reachBytes) = true) :
    ∃ (q : Option Addr) (b off cap : Nat) (cs : List Ac), vs = [.slice q cs.length cap] ∧ (0 < cs.length → q = some ⟨b, off, none⟩ ∧ AcRow w b off cs ∧ b < w.heap.size) ∧ (∀ c ∈ cs, AcOk c) ∧ cs.length * 6 ≤ 140737488351232 ∧ cs.length ≤ cap ∧ cap ≤ maxLen ∧ (q = none → cs = [] ∧ cap = 0) := by
  rcases open_slice Try.underlying41 h with ⟨h0, _⟩ | ⟨a, len, cap, m, n, D, Pl, rfl, hb, hl, hm, hmm, hxx, hx⟩
  · exact ⟨none, 0, 0, 0, [], h0, fun h => absurd h (by simp), by simp, by simp, Nat.le_refl _, Nat.zero_le _, fun _ => ⟨rfl, rfl⟩⟩
  have hlm : len ≤ m := by rw [hmm]; split <;> omega
  rw [hxx] at hw
  simp only [DataW.weights, Try.underlying41] at hw
  rw [List.all_cons, Bool.and_eq_true, decide_eq_true_eq, Try.bytesAct] at hw
  obtain ⟨hw1, _⟩ := hw
  simp only [List.length_map, List.length_range, reachBytes] at hw1
  have hspot : 0 < len → a.spot = none := by
    intro h0
    obtain ⟨cs', h1, h2⟩ := hx 0 (by omega)
    rw [act_cells] at h1
    obtain ⟨_, hlen, hcell⟩ := World.cells?_some h1
    have e0 := hcell 0 (by omega)
    have hsp := World.cell?_spot (e0.trans (List.getElem?_eq_getElem (by omega)))
    simpa [Addr.add] using hsp
  have each : ∀ i, i < len → ∃ c : Ac, AcB w a.block (a.off + i * 6) c ∧ AcOk c ∧ a.spot = none := by
    intro i hi
    have hs := hspot (by omega)
    obtain ⟨cs', h1, h2⟩ := hx i (by omega)
    rw [act_cells] at h1
    obtain ⟨_, hlen, hcell⟩ := World.cells?_some h1
    obtain ⟨c, rfl, hf⟩ := view_act h2
    have e0 := hcell 0 (by omega)
    have e1 := hcell 1 (by omega)
    have e2 := hcell 2 (by omega)
    have e3 := hcell 3 (by omega)
    have e4 := hcell 4 (by omega)
    have e5 := hcell 5 (by omega)
    obtain ⟨ab, ao, sp⟩ := a
    simp only at hs
    subst hs
    simp only [Addr.add_lit, Nat.add_zero] at e0 e1 e2 e3 e4 e5
    exact ⟨c, ⟨e0.trans rfl, e1.trans rfl, e2.trans rfl, e3.trans rfl, e4.trans rfl, e5.trans rfl⟩, hf, rfl⟩
  have : ∀ k, k ≤ len → ∃ cs : List Ac, cs.length = k ∧ AcRow w a.block a.off cs ∧ ∀ c ∈ cs, AcOk c := by
    intro k
    induction k with
    | zero => exact fun _ => ⟨[], rfl, fun i hi => by simp at hi, by simp⟩
    | succ k ih =>
      intro hk
      obtain ⟨cs, h1, h2, h3⟩ := ih (by omega)
      obtain ⟨y, hy, hyf, _⟩ := each k (by omega)
      refine ⟨cs ++ [y], by simp [h1], fun i hi => ?_, fun c hc => ?_⟩
      · by_cases hik : i < cs.length
        · rw [List.getElem_append_left hik]
          exact h2 i hik
        · have : i = k := by simp at hi; omega
          subst this
          have e : (cs ++ [y])[i]'hi = y := by
            rw [List.getElem_append_right (by omega)]
            simp [h1]
          rw [e]
          exact hy
      · rcases List.mem_append.1 hc with hc | hc
        · exact h3 c hc
        · simp at hc
          rw [hc]
          exact hyf
  obtain ⟨cs, h1, h2, h3⟩ := this len (Nat.le_refl _)
  refine ⟨some a, a.block, a.off, cap, cs, by rw [h1], fun h0 => ?_, h3, by rw [h1]; omega, by omega, hm, fun h => by cases h⟩
  obtain ⟨_, hat, _, hs⟩ := each 0 (by omega)
  refine ⟨?_, h2, World.block_lt_of_cell? w ⟨a.block, a.off + 0 * 6, none⟩ hat.1⟩
  obtain ⟨ab, ao, sp⟩ := a
  simp only at hs
  subst hs
  rfl
end

end Go.Proofs.Ytlkikfkchgmmhaa
