/-
  A list of lists of cells, as an argument: read, with its bounds.
-/
import Derived.Test.YtnpjbdbhjbccbaaEOpen
import Derived.Test.YtnpjbdbhjbccbaaMSh
namespace Go.Proofs.Ytnpjbdbhjbccbaa
set_option maxRecDepth 100000
open Go.ChangeShapes Go.WideShapes Go.ChangeAt Go.RowKit Go.Deep

theorem list_cells : Try.prog.cellsOf 29 = 1 := by kernel_rfl
section
variable {H : Type} {enc : TypeId × Value → H} {w : World} {base : Nat} {spare : Nat → Bool} {held : Bool}
/-- A list of lists read. -/
theorem view_lists {fuel : Nat} {vs : List Value} {x : DataW H × List MemPlace} (h : DataW.trod enc Try.prog w base spare held fuel 22 vs = some x) (hw : (x.1.weights Try.prog 22).all (· ≤ reachBytes) = true) :
    ∃ (q : Option Addr) (ob off cap : Nat) (xs : List IS), vs = [.slice q xs.length cap] ∧ OArg w q ob off xs ∧ ∀ x ∈ xs, ∀ c ∈ x.cs, Fits c := by
  rcases open_slice Try.underlying22 h with ⟨h0, _⟩ | ⟨a, len, cap, m, n, D, Pl, rfl, hb, hl, hm, hmm, hxx, hx⟩
  · exact ⟨none, 0, 0, 0, [], h0, ⟨fun h => absurd h (by simp), by simp, by simp⟩, by simp⟩
  have hlm : len ≤ m := by rw [hmm]; split <;> omega
  rw [hxx] at hw
  simp only [DataW.weights, Try.underlying22] at hw
  rw [List.all_cons, Bool.and_eq_true] at hw
  obtain ⟨hw1, hw2⟩ := hw
  have hspot : 0 < len → a.spot = none := by
    intro h0
    obtain ⟨cs', h1, h2⟩ := hx 0 (by omega)
    rw [list_cells] at h1
    obtain ⟨_, hlen, hcell⟩ := World.cells?_some h1
    have e0 := hcell 0 (by omega)
    have hsp := World.cell?_spot (e0.trans (List.getElem?_eq_getElem (by omega)))
    simpa [Addr.add] using hsp
  have each : ∀ i, i < len → ∃ y : IS, w.cell? ⟨a.block, a.off + i, none⟩ = some y.v ∧ Arg w y.q y.b y.off y.cap y.cs ∧ y.cs.length ≤ y.cap ∧ (∀ c ∈ y.cs, Fits c) ∧ a.spot = none := by
    intro i hi
    have hs := hspot (by omega)
    obtain ⟨cs', h1, h2⟩ := hx i (by omega)
    rw [list_cells] at h1
    obtain ⟨_, hlen, hcell⟩ := World.cells?_some h1
    obtain ⟨q, b, off, cap', cs, rfl, hq, hf, hn, hc, hcm, hnil⟩ := view_cells h2 (by
      rw [List.all_eq_true] at hw2 ⊢
      intro n hn
      refine hw2 n (List.mem_append.2 (Or.inl (weights_mem_all (d := D i) ?_ n hn)))
      exact List.mem_map.2 ⟨i, by simpa using hi, rfl⟩)
    have e0 := hcell 0 (by omega)
    obtain ⟨ab, ao, sp⟩ := a
    simp only at hs
    subst hs
    simp only [Addr.add_lit, Nat.add_zero, Nat.mul_one] at e0
    exact ⟨⟨q, b, off, cap', cs⟩, e0.trans rfl, ⟨hq, hnil⟩, hc, hf, rfl⟩
  have : ∀ k, k ≤ len → ∃ xs : List IS, xs.length = k ∧ (∀ (i : Nat) (y : IS), xs[i]? = some y → w.cell? ⟨a.block, a.off + i, none⟩ = some y.v) ∧ (∀ y ∈ xs, Arg w y.q y.b y.off y.cap y.cs ∧ y.cs.length ≤ y.cap ∧ ∀ c ∈ y.cs, Fits c) := by
    intro k
    induction k with
    | zero => exact fun _ => ⟨[], rfl, fun i y hy => by simp at hy, by simp⟩
    | succ k ih =>
      intro hk
      obtain ⟨xs, h1, h2, h3⟩ := ih (by omega)
      obtain ⟨y, hy, ha, hc, hf, _⟩ := each k (by omega)
      refine ⟨xs ++ [y], by simp [h1], fun i z hz => ?_, fun z hz => ?_⟩
      · by_cases hik : i < xs.length
        · rw [List.getElem?_append_left hik] at hz
          exact h2 i z hz
        · have hi2 : i = k := by
            have := (List.getElem?_eq_some_iff.1 hz).1
            simp at this
            omega
          subst hi2
          rw [List.getElem?_append_right (by omega), h1, Nat.sub_self] at hz
          cases hz
          exact hy
      · rcases List.mem_append.1 hz with hz | hz
        · exact h3 z hz
        · simp at hz
          subst hz
          exact ⟨ha, hc, hf⟩
  obtain ⟨xs, h1, h2, h3⟩ := this len (Nat.le_refl _)
  refine ⟨some a, a.block, a.off, cap, xs, by rw [h1], ⟨fun h0 => ?_, fun y hy => (h3 y hy).1, fun y hy => (h3 y hy).2.1⟩, fun y hy => (h3 y hy).2.2⟩
  obtain ⟨_, hat, _, _, _, hs⟩ := each 0 (by omega)
  have hlt : a.block < w.heap.size := block_lt_of_cell (a := ⟨a.block, a.off + 0, none⟩) hat
  refine ⟨?_, hlt, h2⟩
  obtain ⟨ab, ao, sp⟩ := a
  simp only at hs
  subst hs
  rfl
end

end Go.Proofs.Ytnpjbdbhjbccbaa
