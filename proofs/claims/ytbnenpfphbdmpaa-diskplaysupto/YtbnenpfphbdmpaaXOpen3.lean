/-
  How an argument that is a list of steps is read.
-/
import Derived.Test.YtbnenpfphbdmpaaXOpen
import Derived.Test.YtbnenpfphbdmpaaXRs
import Derived.Deep.Slices
namespace Go.Proofs.Ytbnenpfphbdmpaa
set_option maxRecDepth 100000
open Go.ChangeShapes Go.WideShapes Go.ChangeAt Go.RowKit Go.Deep

theorem do_cells : Try.prog.cellsOf 33 = 4 := by kernel_rfl
theorem ints_cells : Try.prog.cellsOf 31 = 1 := by kernel_rfl

theorem bulk_one {H : Type} (d : DataW H) : 1 ≤ Rows.uptoBulk d := by
  cases d with
  | lit l => cases l <;> simp [Rows.uptoBulk]
  | nil => simp [Rows.uptoBulk]
  | ptr d => simp [Rows.uptoBulk]
  | slice elems spare => simp [Rows.uptoBulk]
  | agg parts => simp [Rows.uptoBulk]
  | iface t d => simp [Rows.uptoBulk]
  | map entries => simp [Rows.uptoBulk]
  | held h => simp [Rows.uptoBulk]
theorem bulk_len {H : Type} (l : List (DataW H)) : l.length ≤ Rows.uptoBulkAll l := by
  induction l with
  | nil => simp [Rows.uptoBulkAll]
  | cons x r ih => have := bulk_one x; simp only [Rows.uptoBulkAll, List.length_cons]; omega
theorem bulk_append {H : Type} (l r : List (DataW H)) : Rows.uptoBulkAll (l ++ r) = Rows.uptoBulkAll l + Rows.uptoBulkAll r := by
  induction l with
  | nil => simp [Rows.uptoBulkAll]
  | cons x l ih => simp only [List.cons_append, Rows.uptoBulkAll, ih]; omega

section
variable {H : Type} {enc : TypeId × Value → H} {w : World} {base : Nat} {spare : Nat → Bool} {held : Bool}

theorem trod_struct4x {P : Program} {t : TypeId} {f0 f1 f2 f3 : Field} {fuel : Nat} {cs : List Value} {x : DataW H × List MemPlace} (ht : P.underlying t = some (.struct #[f0, f1, f2, f3])) (h : DataW.trod enc P w base spare held fuel t cs = some x) :
    ∃ y0 y1 y2 y3 n, x.1 = .agg [y0.1, y1.1, y2.1, y3.1] ∧ cs.length = P.cellsOf t ∧ DataW.trod enc P w base spare held n f0.type ((cs.drop f0.offset).take (P.cellsOf f0.type)) = some y0 ∧
      DataW.trod enc P w base spare held n f1.type ((cs.drop f1.offset).take (P.cellsOf f1.type)) = some y1 ∧ DataW.trod enc P w base spare held n f2.type ((cs.drop f2.offset).take (P.cellsOf f2.type)) = some y2 ∧
      DataW.trod enc P w base spare held n f3.type ((cs.drop f3.offset).take (P.cellsOf f3.type)) = some y3 := by
  obtain ⟨xs, n, _, rfl, hl, hlen, hf⟩ := DataW.trod_struct ht h
  match xs, hlen with
  | [y0, y1, y2, y3], _ => exact ⟨y0, y1, y2, y3, n, by simp, hl, by simpa using hf 0 f0 rfl, by simpa using hf 1 f1 rfl, by simpa using hf 2 f2 rfl, by simpa using hf 3 f3 rfl⟩
/-- Numbers read. -/
theorem view_ints {fuel : Nat} {cs : List Value} {x : DataW H × List MemPlace} (h : DataW.trod enc Try.prog w base spare held fuel 31 cs = some x) :
    ∃ (q : Option Addr) (cap : Nat) (l : List Int), cs = [.slice q l.length cap] ∧ IAt w w.heap.size q l ∧ l.length ≤ Rows.uptoBulk x.1 := by
  rcases open_ints Try.underlying31 Try.underlying3 int_cells h with ⟨hcs, _⟩ | ⟨a, len, cap, zs, hcs, _, hl, hm, hz, hx, hcell, hwz⟩
  · exact ⟨none, 0, [], hcs, fun h => absurd h (by simp), by simp⟩
  · have hlz : len ≤ zs.length := by rw [hz]; split <;> omega
    have htl : (zs.take len).length = len := by rw [List.length_take]; omega
    refine ⟨some a, cap, zs.take len, by rw [hcs, htl], fun h0 => ?_, ?_⟩
    · rw [htl] at h0
      obtain ⟨bb, off, spot⟩ := a
      have hc0 := hcell 0 (by omega)
      have hspot : spot = none := by simpa [Addr.add] using World.cell?_spot hc0
      subst hspot
      have hlt := World.block_lt_of_cell? w _ hc0
      refine ⟨bb, off, rfl, by simpa [Addr.add] using hlt, fun i hi => ?_⟩
      rw [htl] at hi
      have := hcell i (by omega)
      rw [Addr.add_lit] at this
      rw [this]
      simp [List.getD, List.getElem?_eq_getElem (show i < zs.length by omega)]
    · rw [htl, hx]
      have h1 := bulk_len (lits (H := H) IntKind.i64 (List.take len zs))
      have h2 : (lits (H := H) IntKind.i64 (List.take len zs)).length = len := by simp [lits]; omega
      simp only [Rows.uptoBulk]
      omega
/-- A step read. -/
theorem view_do {fuel : Nat} {cs : List Value} {x : DataW H × List MemPlace} (h : DataW.trod enc Try.prog w base spare held fuel 33 cs = some x) :
    ∃ v : DoV, cs = [.int .i64 v.kind, .string (bstr v.name), .string (bstr v.data), .slice v.kq v.keep.length v.kc] ∧ IAt w w.heap.size v.kq v.keep ∧ v.name.length + v.data.length + v.keep.length ≤ Rows.uptoBulk x.1 := by
  obtain ⟨y0, y1, y2, y3, n, hx, hl, h0, h1, h2, h3⟩ := trod_struct4x Try.underlying33 h
  rw [do_cells] at hl
  match cs, hl with
  | [c0, c1, c2, c3], _ =>
    simp only [str_cells, int_cells, ints_cells, List.drop_zero, List.drop_succ_cons, List.take_succ_cons, List.take_zero] at h0 h1 h2 h3
    obtain ⟨m, e0, k0⟩ := DataW.trod_int Try.underlying3 h0
    obtain ⟨s, e1, k1⟩ := DataW.trod_string Try.underlying9 h1
    obtain ⟨t, e2, k2⟩ := DataW.trod_string Try.underlying9 h2
    obtain ⟨q, cap, l, e3, k3, hb⟩ := view_ints h3
    simp only [List.cons.injEq, and_true] at e0 e1 e2 e3
    subst e0 e1 e2 e3
    obtain ⟨rfl, _⟩ := k1
    obtain ⟨rfl, _⟩ := k2
    refine ⟨⟨m, s.data.toList, t.data.toList, q, cap, l⟩, by simp only [bstr_data], k3, ?_⟩
    rw [hx]
    simp only [Rows.uptoBulk, Rows.uptoBulkAll]
    omega
/-- A list of steps read. -/
theorem arg_dos {v : Value} {d : DataW H} {p : List MemPlace} {r : Reach} {b : Nat} (hv : Value.okWide Try.prog w r b 22 v) (h : DataW.Trod enc Try.prog w base spare held 22 v d p) :
    ∃ (q : Option Addr) (cap : Nat) (l : List DoV), v = .slice q l.length cap ∧ DArg w w.heap.size q l ∧ (l.map (fun x => x.name.length + x.data.length + x.keep.length)).sum ≤ Rows.uptoBulk d := by
  obtain ⟨a0, len0, cap0, rfl⟩ := okWide_slice Try.underlying22 hv
  obtain ⟨fuel, hf⟩ := h
  rcases open_slice Try.underlying22 hf with ⟨hcs, _⟩ | ⟨a, len, cap, m, n, D, Pl, hcs, hb, hl, hm, hmm, hxx, hx⟩
  · simp [Value.cells] at hcs
    obtain ⟨rfl, rfl, rfl⟩ := hcs
    exact ⟨none, 0, [], rfl, fun h => absurd h (by simp), by simp⟩
  simp [Value.cells] at hcs
  obtain ⟨rfl, rfl, rfl⟩ := hcs
  have hlm : len0 ≤ m := by rw [hmm]; split <;> omega
  have hd : d = .slice ((List.range len0).map D) ((List.range (m - len0)).map fun j => D (len0 + j)) := congrArg Prod.fst hxx
  have hspot : 0 < len0 → a.spot = none := by
    intro h0
    obtain ⟨cs', h1, h2⟩ := hx 0 (by omega)
    rw [do_cells] at h1
    obtain ⟨_, hlen, hcell⟩ := World.cells?_some h1
    have e0 := hcell 0 (by omega)
    have hsp := World.cell?_spot (e0.trans (List.getElem?_eq_getElem (by omega)))
    simpa [Addr.add] using hsp
  have each : ∀ i, i < len0 → ∃ c : DoV, At4 w a.block (a.off + i * 4) c ∧ IAt w w.heap.size c.kq c.keep ∧ c.name.length + c.data.length + c.keep.length ≤ Rows.uptoBulk (D i) ∧ a.spot = none := by
    intro i hi
    have hs := hspot (by omega)
    obtain ⟨cs', h1, h2⟩ := hx i (by omega)
    rw [do_cells] at h1
    obtain ⟨_, hlen, hcell⟩ := World.cells?_some h1
    obtain ⟨c, rfl, hI, hbk⟩ := view_do h2
    have e0 := hcell 0 (by omega)
    have e1 := hcell 1 (by omega)
    have e2 := hcell 2 (by omega)
    have e3 := hcell 3 (by omega)
    obtain ⟨ab, ao, sp⟩ := a
    simp only at hs
    subst hs
    simp only [Addr.add_lit, Nat.add_zero] at e0 e1 e2 e3
    exact ⟨c, ⟨e0.trans rfl, e1.trans rfl, e2.trans rfl, e3.trans rfl⟩, hI, hbk, rfl⟩
  have : ∀ k, k ≤ len0 → ∃ cs : List DoV, cs.length = k ∧ (∀ i (h : i < cs.length), At4 w a.block (a.off + i * 4) cs[i] ∧ IAt w w.heap.size cs[i].kq cs[i].keep) ∧ (cs.map (fun x => x.name.length + x.data.length + x.keep.length)).sum ≤ Rows.uptoBulkAll ((List.range k).map D) := by
    intro k
    induction k with
    | zero => exact fun _ => ⟨[], rfl, fun i hi => by simp at hi, by simp⟩
    | succ k ih =>
      intro hk
      obtain ⟨cs, h1, h2, h3⟩ := ih (by omega)
      obtain ⟨y, hy, hyI, hyb, _⟩ := each k (by omega)
      refine ⟨cs ++ [y], by simp [h1], fun i hi => ?_, ?_⟩
      · by_cases hik : i < cs.length
        · rw [List.getElem_append_left hik]
          exact h2 i hik
        · have : i = k := by simp at hi; omega
          subst this
          have e : (cs ++ [y])[i]'hi = y := by
            rw [List.getElem_append_right (by omega)]
            simp [h1]
          rw [e]
          exact ⟨hy, hyI⟩
      · rw [List.range_succ, List.map_append, List.map_append, List.sum_append, bulk_append]
        simp only [List.map_cons, List.map_nil, List.sum_cons, List.sum_nil, Rows.uptoBulkAll]
        omega
  obtain ⟨cs, h1, h2, h3⟩ := this len0 (Nat.le_refl _)
  refine ⟨some a, cap0, cs, by rw [h1], fun h0 => ?_, ?_⟩
  · obtain ⟨_, hat, _, _, hs⟩ := each 0 (by omega)
    refine ⟨a.block, a.off, ?_, World.block_lt_of_cell? w ⟨a.block, a.off + 0 * 4, none⟩ hat.c0, h2⟩
    obtain ⟨ab, ao, sp⟩ := a
    simp only at hs
    subst hs
    rfl
  · rw [hd]
    simp only [Rows.uptoBulk]
    omega
end

end Go.Proofs.Ytbnenpfphbdmpaa
