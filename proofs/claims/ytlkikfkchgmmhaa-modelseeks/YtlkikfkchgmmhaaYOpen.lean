/-
  How arguments that are lists of cells or operations are read, with the bounds that every argument bears.
-/
import Derived.Test.YtlkikfkchgmmhaaRows
import Derived.Test.YtlkikfkchgmmhaaKOrd
import Derived.Test.YtlkikfkchgmmhaaCFresh
import Derived.Test.YtlkikfkchgmmhaaYMath
import Derived.ProofKit
import Derived.OpenShut
import Derived.ShutString
import Derived.ChangeSame
import Derived.Carry
import Derived.ChangeSlices
import Derived.Deep.Slices
import Derived.SizedLaws
namespace Go.Proofs.Ytlkikfkchgmmhaa
set_option maxRecDepth 100000
open Go.ChangeShapes Go.WideShapes Go.ChangeAt Go.RowKit Go.Deep

theorem k_own : ownKnob Try.prog.godebug = none := by kernel_rfl
theorem k_laidOut : laidOutB Try.prog = true := by kernel_rfl
theorem string_cells : Try.prog.cellsOf 9 = 1 := by kernel_rfl
theorem cell_cells : Try.prog.cellsOf 38 = 5 := by kernel_rfl
theorem u64_cells : Try.prog.cellsOf 27 = 1 := by kernel_rfl
theorem bool_cells : Try.prog.cellsOf 4 = 1 := by kernel_rfl
theorem int_cells : Try.prog.cellsOf 3 = 1 := by kernel_rfl
theorem op_cells : Try.prog.cellsOf 32 = 6 := by kernel_rfl
/-- A cell that fits, with a version that an argument can have. -/
def FitsV (c : Cl) : Prop := Fits c ∧ 0 ≤ c.ver ∧ c.ver < 18446744073709551616
theorem Try.bytesCell : Try.prog.bytesOf 38 = 64 := by kernel_rfl

section
variable {H : Type} {enc : TypeId × Value → H} {w : World} {base : Nat} {spare : Nat → Bool} {held : Bool}

theorem trod_struct5x {P : Program} {t : TypeId} {f0 f1 f2 f3 f4 : Field} {fuel : Nat} {cs : List Value} {x : DataW H × List MemPlace} (ht : P.underlying t = some (.struct #[f0, f1, f2, f3, f4])) (h : DataW.trod enc P w base spare held fuel t cs = some x) :
    ∃ y0 y1 y2 y3 y4 n, x.1 = .agg [y0.1, y1.1, y2.1, y3.1, y4.1] ∧ cs.length = P.cellsOf t ∧ DataW.trod enc P w base spare held n f0.type ((cs.drop f0.offset).take (P.cellsOf f0.type)) = some y0 ∧
      DataW.trod enc P w base spare held n f1.type ((cs.drop f1.offset).take (P.cellsOf f1.type)) = some y1 ∧ DataW.trod enc P w base spare held n f2.type ((cs.drop f2.offset).take (P.cellsOf f2.type)) = some y2 ∧
      DataW.trod enc P w base spare held n f3.type ((cs.drop f3.offset).take (P.cellsOf f3.type)) = some y3 ∧ DataW.trod enc P w base spare held n f4.type ((cs.drop f4.offset).take (P.cellsOf f4.type)) = some y4 := by
  obtain ⟨xs, n, _, rfl, hl, hlen, hf⟩ := DataW.trod_struct ht h
  match xs, hlen with
  | [y0, y1, y2, y3, y4], _ => exact ⟨y0, y1, y2, y3, y4, n, by simp, hl, by simpa using hf 0 f0 rfl, by simpa using hf 1 f1 rfl, by simpa using hf 2 f2 rfl, by simpa using hf 3 f3 rfl, by simpa using hf 4 f4 rfl⟩
theorem trod_struct6x {P : Program} {t : TypeId} {f0 f1 f2 f3 f4 f5 : Field} {fuel : Nat} {cs : List Value} {x : DataW H × List MemPlace} (ht : P.underlying t = some (.struct #[f0, f1, f2, f3, f4, f5])) (h : DataW.trod enc P w base spare held fuel t cs = some x) :
    ∃ y0 y1 y2 y3 y4 y5 n, x.1 = .agg [y0.1, y1.1, y2.1, y3.1, y4.1, y5.1] ∧ cs.length = P.cellsOf t ∧ DataW.trod enc P w base spare held n f0.type ((cs.drop f0.offset).take (P.cellsOf f0.type)) = some y0 ∧
      DataW.trod enc P w base spare held n f1.type ((cs.drop f1.offset).take (P.cellsOf f1.type)) = some y1 ∧ DataW.trod enc P w base spare held n f2.type ((cs.drop f2.offset).take (P.cellsOf f2.type)) = some y2 ∧
      DataW.trod enc P w base spare held n f3.type ((cs.drop f3.offset).take (P.cellsOf f3.type)) = some y3 ∧ DataW.trod enc P w base spare held n f4.type ((cs.drop f4.offset).take (P.cellsOf f4.type)) = some y4 ∧ DataW.trod enc P w base spare held n f5.type ((cs.drop f5.offset).take (P.cellsOf f5.type)) = some y5 := by
  obtain ⟨xs, n, _, rfl, hl, hlen, hf⟩ := DataW.trod_struct ht h
  match xs, hlen with
  | [y0, y1, y2, y3, y4, y5], _ => exact ⟨y0, y1, y2, y3, y4, y5, n, by simp, hl, by simpa using hf 0 f0 rfl, by simpa using hf 1 f1 rfl, by simpa using hf 2 f2 rfl, by simpa using hf 3 f3 rfl, by simpa using hf 4 f4 rfl, by simpa using hf 5 f5 rfl⟩
/-- An operation read. -/
theorem view_op {fuel : Nat} {cs : List Value} {x : DataW H × List MemPlace} (h : DataW.trod enc Try.prog w base spare held fuel 32 cs = some x) :
    ∃ o : Oq, cs = (oqC o).toList := by
  obtain ⟨y0, y1, y2, y3, y4, y5, n, hx, hl, h0, h1, h2, h3, h4, h5⟩ := trod_struct6x Try.underlying32 h
  rw [op_cells] at hl
  match cs, hl with
  | [c0, c1, c2, c3, c4, c5], _ =>
    simp only [string_cells, int_cells, bool_cells, List.drop_zero, List.drop_succ_cons, List.take_succ_cons, List.take_zero] at h0 h1 h2 h3 h4 h5
    obtain ⟨m, e0, _⟩ := DataW.trod_int Try.underlying3 h0
    obtain ⟨s, e1, _⟩ := DataW.trod_string Try.underlying9 h1
    obtain ⟨t, e2, _⟩ := DataW.trod_string Try.underlying9 h2
    obtain ⟨u, e3, _⟩ := DataW.trod_string Try.underlying9 h3
    obtain ⟨g, e4, _⟩ := DataW.trod_bool Try.underlying4 h4
    obtain ⟨v, e5, _⟩ := DataW.trod_string Try.underlying9 h5
    simp only [List.cons.injEq, and_true] at e0 e1 e2 e3 e4 e5
    subst e0 e1 e2 e3 e4 e5
    exact ⟨⟨m, s.data.toList, t.data.toList, u.data.toList, g, v.data.toList⟩, by simp only [oqC, bstr_data]⟩
/-- A cell read, with its bounds. -/
theorem view_cell {fuel : Nat} {cs : List Value} {x : DataW H × List MemPlace} (h : DataW.trod enc Try.prog w base spare held fuel 38 cs = some x) (hw : (x.1.weights Try.prog 38).all (· ≤ reachBytes) = true) :
    ∃ c : Cl, cs = encC c ∧ FitsV c := by
  obtain ⟨y0, y1, y2, y3, y4, n, hx, hl, h0, h1, h2, h3, h4⟩ := trod_struct5x Try.underlying38 h
  rw [cell_cells] at hl
  match cs, hl with
  | [c0, c1, c2, c3, c4], _ =>
    simp only [string_cells, u64_cells, bool_cells, List.drop_zero, List.drop_succ_cons, List.take_succ_cons, List.take_zero] at h0 h1 h2 h3 h4
    obtain ⟨s, e0, k0⟩ := DataW.trod_string Try.underlying9 h0
    obtain ⟨t, e1, k1⟩ := DataW.trod_string Try.underlying9 h1
    obtain ⟨m, e2, k2⟩ := DataW.trod_int Try.underlying27 h2
    obtain ⟨g, e3, k3⟩ := DataW.trod_bool Try.underlying4 h3
    obtain ⟨u, e4, k4⟩ := DataW.trod_string Try.underlying9 h4
    simp only [List.cons.injEq, and_true] at e0 e1 e2 e3 e4
    subst e0 e1 e2 e3 e4
    obtain ⟨rfl, _⟩ := k0
    obtain ⟨rfl, _⟩ := k1
    obtain ⟨rfl, kw⟩ := k2
    have kb := bounds_u64 kw
    obtain ⟨rfl, _⟩ := k4
    subst k3
    refine ⟨⟨s.data.toList, t.data.toList, m, g, u.data.toList⟩, by simp only [encC, bstr_data], ?_⟩
    rw [hx] at hw
    simp only [DataW.weights, Try.underlying38, DataW.weightsEach, List.map_cons, List.map_nil] at hw
    simp only [List.append_nil, List.nil_append, List.cons_append, List.all_cons, List.all_nil, Bool.and_eq_true, reachBytes] at hw
    exact ⟨⟨of_decide_eq_true hw.1, of_decide_eq_true hw.2.1, of_decide_eq_true hw.2.2.1⟩, kb.1, by simp only; omega⟩
theorem weights_mem_all {P : Program} {e : TypeId} : ∀ {ds : List (DataW H)} {d : DataW H}, d ∈ ds → ∀ n ∈ d.weights P e, n ∈ DataW.weightsAll P e ds
  | d0 :: ds, d, hd, n, hn => by
    simp only [DataW.weightsAll, List.mem_append]
    rcases List.mem_cons.1 hd with rfl | hd
    · exact Or.inl hn
    · exact Or.inr (weights_mem_all hd n hn)
/-- A list of cells read, with its bounds. -/
theorem view_cells {fuel : Nat} {vs : List Value} {x : DataW H × List MemPlace} (h : DataW.trod enc Try.prog w base spare held fuel 25 vs = some x) (hw : (x.1.weights Try.prog 25).all (· ≤ reachBytes) = true) :
    ∃ (q : Option Addr) (b off cap : Nat) (cs : List Cl), vs = [.slice q cs.length cap] ∧ (0 < cs.length → q = some ⟨b, off, none⟩ ∧ CRow w b off cs ∧ b < w.heap.size) ∧ (∀ c ∈ cs, FitsV c) ∧ cs.length * 64 ≤ 140737488351232 ∧ cs.length ≤ cap ∧ cap ≤ maxLen ∧ (q = none → cs = [] ∧ cap = 0) := by
  rcases open_slice Try.underlying25 h with ⟨h0, _⟩ | ⟨a, len, cap, m, n, D, Pl, rfl, hb, hl, hm, hmm, hxx, hx⟩
  · exact ⟨none, 0, 0, 0, [], h0, fun h => absurd h (by simp), by simp, by simp, Nat.le_refl _, Nat.zero_le _, fun _ => ⟨rfl, rfl⟩⟩
  have hlm : len ≤ m := by rw [hmm]; split <;> omega
  rw [hxx] at hw
  simp only [DataW.weights, Try.underlying25] at hw
  rw [List.all_cons, Bool.and_eq_true, decide_eq_true_eq, Try.bytesCell] at hw
  obtain ⟨hw1, hw2⟩ := hw
  simp only [List.length_map, List.length_range, reachBytes] at hw1
  have hspot : 0 < len → a.spot = none := by
    intro h0
    obtain ⟨cs', h1, h2⟩ := hx 0 (by omega)
    rw [cell_cells] at h1
    obtain ⟨_, hlen, hcell⟩ := World.cells?_some h1
    have e0 := hcell 0 (by omega)
    have hsp := World.cell?_spot (e0.trans (List.getElem?_eq_getElem (by omega)))
    simpa [Addr.add] using hsp
  have each : ∀ i, i < len → ∃ c : Cl, At5 w a.block (a.off + i * 5) c ∧ FitsV c ∧ a.spot = none := by
    intro i hi
    have hs := hspot (by omega)
    obtain ⟨cs', h1, h2⟩ := hx i (by omega)
    rw [cell_cells] at h1
    obtain ⟨_, hlen, hcell⟩ := World.cells?_some h1
    obtain ⟨c, rfl, hf⟩ := view_cell h2 (by
      rw [List.all_eq_true] at hw2 ⊢
      intro n hn
      refine hw2 n (List.mem_append.2 (Or.inl (weights_mem_all (d := D i) ?_ n hn)))
      exact List.mem_map.2 ⟨i, by simpa using hi, rfl⟩)
    have e0 := hcell 0 (by omega)
    have e1 := hcell 1 (by omega)
    have e2 := hcell 2 (by omega)
    have e3 := hcell 3 (by omega)
    have e4 := hcell 4 (by omega)
    obtain ⟨ab, ao, sp⟩ := a
    simp only at hs
    subst hs
    simp only [Addr.add_lit, Nat.add_zero] at e0 e1 e2 e3 e4
    exact ⟨c, ⟨e0.trans rfl, e1.trans rfl, e2.trans rfl, e3.trans rfl, e4.trans rfl⟩, hf, rfl⟩
  have : ∀ k, k ≤ len → ∃ cs : List Cl, cs.length = k ∧ CRow w a.block a.off cs ∧ ∀ c ∈ cs, FitsV c := by
    intro k
    induction k with
    | zero => exact fun _ => ⟨[], rfl, fun i hi => by simp at hi, by simp⟩
    | succ k ih =>
      intro hk
      obtain ⟨cs, h1, h2, h3⟩ := ih (by omega)
      obtain ⟨y, hy, hyf, _⟩ := each k (by omega)
      refine ⟨cs ++ [y], by simp [h1], fun i hi => ?_, fun c hc => ?_⟩
      · by_cases hik : i < cs.length
        · rw [List.getElem_append_left hik]
          exact h2 i hik
        · have : i = k := by simp at hi; omega
          subst this
          have e : (cs ++ [y])[i]'hi = y := by
            rw [List.getElem_append_right (by omega)]
            simp [h1]
          rw [e]
          exact hy
      · rcases List.mem_append.1 hc with hc | hc
        · exact h3 c hc
        · simp at hc
          rw [hc]
          exact hyf
  obtain ⟨cs, h1, h2, h3⟩ := this len (Nat.le_refl _)
  refine ⟨some a, a.block, a.off, cap, cs, by rw [h1], fun h0 => ?_, h3, by rw [h1]; omega, by omega, hm, fun h => by cases h⟩
  obtain ⟨_, hat, _, hs⟩ := each 0 (by omega)
  refine ⟨?_, h2, hat.lt⟩
  obtain ⟨ab, ao, sp⟩ := a
  simp only at hs
  subst hs
  rfl
/-- An argument that is an operation. -/
theorem arg_op {v : Value} {d : DataW H} {p : List MemPlace} {r : Reach} {b : Nat} (hv : Value.okWide Try.prog w r b 32 v) (h : DataW.Trod enc Try.prog w base spare held 32 v d p) :
    ∃ o : Oq, v = oqV o := by
  obtain ⟨cs, rfl, _⟩ := okWide_struct Try.underlying32 hv
  obtain ⟨fuel, hf⟩ := h
  obtain ⟨o, e⟩ := view_op hf
  refine ⟨o, ?_⟩
  obtain ⟨l⟩ := cs
  have : l = (oqC o).toList := by simpa [Value.cells] using e
  rw [this]
  rfl
end

end Go.Proofs.Ytlkikfkchgmmhaa
