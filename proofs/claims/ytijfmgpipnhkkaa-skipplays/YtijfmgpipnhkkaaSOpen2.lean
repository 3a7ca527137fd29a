/-
  How an argument that is a list of steps is read, with the bounds that every argument bears.
-/
import Derived.Test.YtijfmgpipnhkkaaSOpen
import Derived.Test.YtijfmgpipnhkkaaSPl1
namespace Go.Proofs.Ytijfmgpipnhkkaa
set_option maxRecDepth 100000
open Go.ChangeShapes Go.WideShapes Go.ChangeAt Go.RowKit Go.Deep

theorem do_cells : Try.prog.cellsOf 36 = 7 := by kernel_rfl
theorem int_cells : Try.prog.cellsOf 3 = 1 := by kernel_rfl
theorem Try.bytesDo : Try.prog.bytesOf 36 = 80 := by kernel_rfl
section
variable {H : Type} {enc : TypeId × Value → H} {w : World} {base : Nat} {spare : Nat → Bool} {held : Bool}

theorem trod_struct3x {P : Program} {t : TypeId} {f0 f1 f2 : Field} {fuel : Nat} {cs : List Value} {x : DataW H × List MemPlace} (ht : P.underlying t = some (.struct #[f0, f1, f2])) (h : DataW.trod enc P w base spare held fuel t cs = some x) :
    ∃ y0 y1 y2 n, x.1 = .agg [y0.1, y1.1, y2.1] ∧ cs.length = P.cellsOf t ∧ DataW.trod enc P w base spare held n f0.type ((cs.drop f0.offset).take (P.cellsOf f0.type)) = some y0 ∧
      DataW.trod enc P w base spare held n f1.type ((cs.drop f1.offset).take (P.cellsOf f1.type)) = some y1 ∧ DataW.trod enc P w base spare held n f2.type ((cs.drop f2.offset).take (P.cellsOf f2.type)) = some y2 := by
  obtain ⟨xs, n, _, rfl, hl, hlen, hf⟩ := DataW.trod_struct ht h
  match xs, hlen with
  | [y0, y1, y2], _ => exact ⟨y0, y1, y2, n, by simp, hl, by simpa using hf 0 f0 rfl, by simpa using hf 1 f1 rfl, by simpa using hf 2 f2 rfl⟩
/-- A step read, with its bounds. -/
theorem view_do {fuel : Nat} {cs : List Value} {x : DataW H × List MemPlace} (h : DataW.trod enc Try.prog w base spare held fuel 36 cs = some x) (hw : (x.1.weights Try.prog 36).all (· ≤ reachBytes) = true) :
    ∃ d : Dst, cs = encC d.c ++ [.int .i64 d.h, .int .i64 d.lv] ∧ Fits d.c := by
  obtain ⟨y0, y1, y2, n, hx, hl, h0, h1, h2⟩ := trod_struct3x Try.underlying36 h
  rw [do_cells] at hl
  match cs, hl with
  | [c0, c1, c2, c3, c4, c5, c6], _ =>
    simp only [cell_cells, int_cells, List.drop_zero, List.drop_succ_cons, List.take_succ_cons, List.take_zero] at h0 h1 h2
    rw [hx] at hw
    obtain ⟨c, hc, hf⟩ := view_cell h0 (by
      simp only [DataW.weights, Try.underlying36, DataW.weightsEach, List.map_cons, List.map_nil, List.all_append, Bool.and_eq_true] at hw
      exact hw.1)
    obtain ⟨m, e1, _⟩ := DataW.trod_int Try.underlying3 h1
    obtain ⟨m2, e2, _⟩ := DataW.trod_int Try.underlying3 h2
    simp only [List.cons.injEq, and_true] at e1 e2
    subst e1 e2
    refine ⟨⟨c, m, m2⟩, ?_, hf⟩
    show _ = encC c ++ _
    rw [← hc]
    rfl
/-- A list of steps read, with its bounds. -/
theorem view_dos {fuel : Nat} {vs : List Value} {x : DataW H × List MemPlace} (h : DataW.trod enc Try.prog w base spare held fuel 22 vs = some x) (hw : (x.1.weights Try.prog 22).all (· ≤ reachBytes) = true) :
    ∃ (q : Option Addr) (b off cap : Nat) (ds : List Dst), vs = [.slice q ds.length cap] ∧ (0 < ds.length → q = some ⟨b, off, none⟩ ∧ DRow w b off ds ∧ b < w.heap.size) ∧ (∀ d ∈ ds, Fits d.c) ∧ ds.length * 80 ≤ 140737488351232 := by
  rcases open_slice Try.underlying22 h with ⟨h0, _⟩ | ⟨a, len, cap, m, n, D, Pl, rfl, hb, hl, hm, hmm, hxx, hx⟩
  · exact ⟨none, 0, 0, 0, [], h0, fun h => absurd h (by simp), by simp, by simp⟩
  have hlm : len ≤ m := by rw [hmm]; split <;> omega
  rw [hxx] at hw
  simp only [DataW.weights, Try.underlying22] at hw
  rw [List.all_cons, Bool.and_eq_true, decide_eq_true_eq, Try.bytesDo] at hw
  obtain ⟨hw1, hw2⟩ := hw
  simp only [List.length_map, List.length_range, reachBytes] at hw1
  have hspot : 0 < len → a.spot = none := by
    intro h0
    obtain ⟨cs', h1, h2⟩ := hx 0 (by omega)
    rw [do_cells] at h1
    obtain ⟨_, hlen, hcell⟩ := World.cells?_some h1
    have e0 := hcell 0 (by omega)
    have hsp := World.cell?_spot (e0.trans (List.getElem?_eq_getElem (by omega)))
    simpa [Addr.add] using hsp
  have each : ∀ i, i < len → ∃ d : Dst, (At5 w a.block (a.off + i * 7) d.c ∧ w.cell? ⟨a.block, a.off + i * 7 + 5, none⟩ = some (.int .i64 d.h) ∧ w.cell? ⟨a.block, a.off + i * 7 + 6, none⟩ = some (.int .i64 d.lv)) ∧ Fits d.c ∧ a.spot = none := by
    intro i hi
    have hs := hspot (by omega)
    obtain ⟨cs', h1, h2⟩ := hx i (by omega)
    rw [do_cells] at h1
    obtain ⟨_, hlen, hcell⟩ := World.cells?_some h1
    obtain ⟨d, rfl, hf⟩ := view_do h2 (by
      rw [List.all_eq_true] at hw2 ⊢
      intro n hn
      refine hw2 n (List.mem_append.2 (Or.inl (weights_mem_all (d := D i) ?_ n hn)))
      exact List.mem_map.2 ⟨i, by simpa using hi, rfl⟩)
    have e0 := hcell 0 (by omega)
    have e1 := hcell 1 (by omega)
    have e2 := hcell 2 (by omega)
    have e3 := hcell 3 (by omega)
    have e4 := hcell 4 (by omega)
    have e5 := hcell 5 (by omega)
    have e6 := hcell 6 (by omega)
    obtain ⟨ab, ao, sp⟩ := a
    simp only at hs
    subst hs
    simp only [Addr.add_lit, Nat.add_zero] at e0 e1 e2 e3 e4 e5 e6
    exact ⟨d, ⟨⟨e0.trans rfl, e1.trans rfl, e2.trans rfl, e3.trans rfl, e4.trans rfl⟩, e5.trans rfl, e6.trans rfl⟩, hf, rfl⟩
  have : ∀ k, k ≤ len → ∃ ds : List Dst, ds.length = k ∧ DRow w a.block a.off ds ∧ ∀ d ∈ ds, Fits d.c := by
    intro k
    induction k with
    | zero => exact fun _ => ⟨[], rfl, fun i hi => by simp at hi, by simp⟩
    | succ k ih =>
      intro hk
      obtain ⟨cs, h1, h2, h3⟩ := ih (by omega)
      obtain ⟨y, hy, hyf, _⟩ := each k (by omega)
      refine ⟨cs ++ [y], by simp [h1], fun i hi => ?_, fun c hc => ?_⟩
      · by_cases hik : i < cs.length
        · rw [List.getElem_append_left hik]
          exact h2 i hik
        · have : i = k := by simp at hi; omega
          subst this
          have e : (cs ++ [y])[i]'hi = y := by
            rw [List.getElem_append_right (by omega)]
            simp [h1]
          rw [e]
          exact hy
      · rcases List.mem_append.1 hc with hc | hc
        · exact h3 c hc
        · simp at hc
          rw [hc]
          exact hyf
  obtain ⟨cs, h1, h2, h3⟩ := this len (Nat.le_refl _)
  refine ⟨some a, a.block, a.off, cap, cs, by rw [h1], fun h0 => ?_, h3, by rw [h1]; omega⟩
  obtain ⟨ab, ao, sp⟩ := a
  have hs := hspot (by omega)
  simp only at hs
  subst hs
  refine ⟨rfl, h2, ?_⟩
  exact World.block_lt_of_cell? w _ (h2 0 h0).1.c0
end

end Go.Proofs.Ytijfmgpipnhkkaa
