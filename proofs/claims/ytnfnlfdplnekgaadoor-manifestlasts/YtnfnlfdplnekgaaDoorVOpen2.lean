/-
  How an argument that is a list of saves is read.
-/
import Derived.Test.YtnfnlfdplnekgaaDoorGVOpen
import Derived.Test.YtnfnlfdplnekgaaDoorGVLs1
import Derived.Deep.Slices
namespace Go.Proofs.YtnfnlfdplnekgaaDoor
set_option maxRecDepth 100000
open Go.ChangeShapes Go.WideShapes Go.ChangeAt Go.RowKit Go.Deep

theorem save_cells : Tryd.prog.cellsOf 34 = 3 := by kernel_rfl
theorem bytes_cells : Tryd.prog.cellsOf 30 = 1 := by kernel_rfl
theorem ints_cells : Tryd.prog.cellsOf 32 = 1 := by kernel_rfl
theorem u32_cells : Tryd.prog.cellsOf 31 = 1 := by kernel_rfl
theorem int1_cells : Tryd.prog.cellsOf 3 = 1 := by kernel_rfl

section
variable {H : Type} {enc : TypeId × Value → H} {w : World} {base : Nat} {spare : Nat → Bool} {held : Bool}

theorem trod_struct3x {P : Program} {t : TypeId} {f0 f1 f2 : Field} {fuel : Nat} {cs : List Value} {x : DataW H × List MemPlace} (ht : P.underlying t = some (.struct #[f0, f1, f2])) (h : DataW.trod enc P w base spare held fuel t cs = some x) :
    ∃ y0 y1 y2 n, x.1 = .agg [y0.1, y1.1, y2.1] ∧ cs.length = P.cellsOf t ∧ DataW.trod enc P w base spare held n f0.type ((cs.drop f0.offset).take (P.cellsOf f0.type)) = some y0 ∧
      DataW.trod enc P w base spare held n f1.type ((cs.drop f1.offset).take (P.cellsOf f1.type)) = some y1 ∧ DataW.trod enc P w base spare held n f2.type ((cs.drop f2.offset).take (P.cellsOf f2.type)) = some y2 := by
  obtain ⟨xs, n, _, rfl, hl, hlen, hf⟩ := DataW.trod_struct ht h
  match xs, hlen with
  | [y0, y1, y2], _ => exact ⟨y0, y1, y2, n, by simp, hl, by simpa using hf 0 f0 rfl, by simpa using hf 1 f1 rfl, by simpa using hf 2 f2 rfl⟩
theorem view_bytes {fuel : Nat} {cs : List Value} {x : DataW H × List MemPlace} (h : DataW.trod enc Tryd.prog w base spare held fuel 30 cs = some x) :
    ∃ (q : Option Addr) (cap : Nat) (l : List Nat), cs = [.slice q l.length cap] ∧ (0 < l.length → ∃ b off, q = some ⟨b, off, none⟩ ∧ ByRow w b off l ∧ b < w.heap.size) ∧ ∀ x ∈ l, x < 256 := by
  rcases open_ints Tryd.underlying30 Tryd.underlying5 byte_cells h with ⟨hcs, _⟩ | ⟨a, len, cap, zs, hcs, _, hl, hm, hz, _, hcell, hwz⟩
  · exact ⟨none, 0, [], hcs, fun h => absurd h (by simp), fun x hx => absurd hx (by simp)⟩
  · have hlz : len ≤ zs.length := by rw [hz]; split <;> omega
    have htl : ((zs.take len).map Int.toNat).length = len := by rw [List.length_map, List.length_take]; omega
    obtain ⟨bb, off, spot⟩ := a
    refine ⟨some ⟨bb, off, spot⟩, cap, (zs.take len).map Int.toNat, by rw [hcs, htl], fun h0 => ?_, fun x hx => ?_⟩
    · rw [htl] at h0
      have hc0 := hcell 0 (by omega)
      have hspot : spot = none := by simpa [Addr.add] using World.cell?_spot hc0
      subst hspot
      rw [Addr.add_lit] at hc0
      refine ⟨bb, off, rfl, fun i hi => ?_, block_lt_of_cell hc0⟩
      rw [htl] at hi
      have := hcell i (by omega)
      rw [Addr.add_lit] at this
      rw [this]
      have hiz : i < zs.length := by omega
      have hw := bounds_u8 (hwz zs[i] (List.getElem_mem hiz))
      simp [List.getD, List.getElem?_eq_getElem hiz, Int.toNat_of_nonneg hw.1]
    · obtain ⟨z, hz1, rfl⟩ := List.mem_map.1 hx
      have hw := bounds_u8 (hwz z (List.mem_of_mem_take hz1))
      omega
theorem view_ints {fuel : Nat} {cs : List Value} {x : DataW H × List MemPlace} (h : DataW.trod enc Tryd.prog w base spare held fuel 32 cs = some x) :
    ∃ (q : Option Addr) (cap : Nat) (l : List Int), cs = [.slice q l.length cap] ∧ (0 < l.length → ∃ b off, q = some ⟨b, off, none⟩ ∧ b < w.heap.size ∧ ∀ i (h : i < l.length), w.cell? ⟨b, off + i, none⟩ = some (.int .i64 l[i])) ∧ l.length ≤ cap := by
  rcases open_ints Tryd.underlying32 Tryd.underlying3 int1_cells h with ⟨hcs, _⟩ | ⟨a, len, cap, zs, hcs, _, hl, hm, hz, _, hcell, hwz⟩
  · exact ⟨none, 0, [], hcs, fun h => absurd h (by simp), by simp⟩
  · have hlz : len ≤ zs.length := by rw [hz]; split <;> omega
    have htl : (zs.take len).length = len := by rw [List.length_take]; omega
    refine ⟨some a, cap, zs.take len, by rw [hcs, htl], fun h0 => ?_, by rw [htl]; exact hl⟩
    rw [htl] at h0
    obtain ⟨bb, off, spot⟩ := a
    have hc0 := hcell 0 (by omega)
    have hspot : spot = none := by simpa [Addr.add] using World.cell?_spot hc0
    subst hspot
    have hlt := World.block_lt_of_cell? w _ hc0
    refine ⟨bb, off, rfl, by simpa [Addr.add] using hlt, fun i hi => ?_⟩
    rw [htl] at hi
    have := hcell i (by omega)
    rw [Addr.add_lit] at this
    rw [this]
    simp [List.getD, List.getElem?_eq_getElem (show i < zs.length by omega)]
/-- A save read. -/
theorem view_save {fuel : Nat} {cs : List Value} {x : DataW H × List MemPlace} (h : DataW.trod enc Tryd.prog w base spare held fuel 34 cs = some x) :
    ∃ v : SvV, cs = [.slice v.lq v.xs.length v.lc, .int .u32 (v.log : Int), .slice v.kq v.ks.length v.kc] ∧ SvOk w v := by
  obtain ⟨y0, y1, y2, n, _, hl, h0, h1, h2⟩ := trod_struct3x Tryd.underlying34 h
  rw [save_cells] at hl
  match cs, hl with
  | [c0, c1, c2], _ =>
    simp only [bytes_cells, ints_cells, u32_cells, List.drop_zero, List.drop_succ_cons, List.take_succ_cons, List.take_zero] at h0 h1 h2
    obtain ⟨q, cap, l, e0, k0, k1⟩ := view_bytes h0
    obtain ⟨m, e1, k2⟩ := DataW.trod_int Tryd.underlying31 h1
    obtain ⟨q', cap', l', e2, k3, k4⟩ := view_ints h2
    simp only [List.cons.injEq, and_true] at e0 e1 e2
    subst e0 e1 e2
    have hb := bounds_u32 k2.2
    refine ⟨⟨q, cap, l, m.toNat, q', cap', l'⟩, ?_, ⟨k0, k1, by show m.toNat < 4294967296; omega, k3, k4⟩⟩
    simp only [Int.toNat_of_nonneg hb.1]
/-- An argument that is a list of saves. -/
theorem arg_saves {v : Value} {d : DataW H} {p : List MemPlace} {r : Reach} {b : Nat} (hv : Value.okWide Tryd.prog w r b 22 v) (h : DataW.Trod enc Tryd.prog w base spare held 22 v d p) :
    ∃ (q : Option Addr) (b off cap : Nat) (l : List SvV), v = .slice q l.length cap ∧ (0 < l.length → q = some ⟨b, off, none⟩ ∧ SvRow w b off l ∧ b < w.heap.size) ∧ ∀ x ∈ l, SvOk w x := by
  obtain ⟨a0, len0, cap0, rfl⟩ := okWide_slice Tryd.underlying22 hv
  obtain ⟨fuel, hf⟩ := h
  rcases open_slice Tryd.underlying22 hf with ⟨h0, _⟩ | ⟨a, len, cap, m, n, D, Pl, hcs, hb, hl, hm, hmm, hxx, hx⟩
  · simp [Value.cells] at h0
    obtain ⟨rfl, rfl, rfl⟩ := h0
    exact ⟨none, 0, 0, 0, [], rfl, fun h => absurd h (by simp), by simp⟩
  simp [Value.cells] at hcs
  obtain ⟨rfl, rfl, rfl⟩ := hcs
  have hlm : len0 ≤ m := by rw [hmm]; split <;> omega
  have hspot : 0 < len0 → a.spot = none := by
    intro h0
    obtain ⟨cs', h1, h2⟩ := hx 0 (by omega)
    rw [save_cells] at h1
    obtain ⟨_, hlen, hcell⟩ := World.cells?_some h1
    have e0 := hcell 0 (by omega)
    have hsp := World.cell?_spot (e0.trans (List.getElem?_eq_getElem (by omega)))
    simpa [Addr.add] using hsp
  have each : ∀ i, i < len0 → ∃ c : SvV, At3 w a.block (a.off + i * 3) c ∧ SvOk w c := by
    intro i hi
    have hs := hspot (by omega)
    obtain ⟨cs', h1, h2⟩ := hx i (by omega)
    rw [save_cells] at h1
    obtain ⟨_, hlen, hcell⟩ := World.cells?_some h1
    obtain ⟨c, rfl, hfo⟩ := view_save h2
    have e0 := hcell 0 (by omega)
    have e1 := hcell 1 (by omega)
    have e2 := hcell 2 (by omega)
    obtain ⟨ab, ao, sp⟩ := a
    simp only at hs
    subst hs
    simp only [Addr.add_lit, Nat.add_zero] at e0 e1 e2
    exact ⟨c, ⟨e0.trans rfl, e1.trans rfl, e2.trans rfl⟩, hfo⟩
  have : ∀ k, k ≤ len0 → ∃ cs : List SvV, cs.length = k ∧ SvRow w a.block a.off cs ∧ ∀ c ∈ cs, SvOk w c := by
    intro k
    induction k with
    | zero => exact fun _ => ⟨[], rfl, fun i hi => by simp at hi, by simp⟩
    | succ k ih =>
      intro hk
      obtain ⟨cs, h1, h2, h3⟩ := ih (by omega)
      obtain ⟨y, hy, hyf⟩ := each k (by omega)
      refine ⟨cs ++ [y], by simp [h1], fun i hi => ?_, fun c hc => ?_⟩
      · by_cases hik : i < cs.length
        · rw [List.getElem_append_left hik]
          exact h2 i hik
        · have : i = k := by simp at hi; omega
          subst this
          have e : (cs ++ [y])[i]'hi = y := by
            rw [List.getElem_append_right (by omega)]
            simp [h1]
          rw [e]
          exact hy
      · rcases List.mem_append.1 hc with hc | hc
        · exact h3 c hc
        · simp at hc
          rw [hc]
          exact hyf
  obtain ⟨cs, h1, h2, h3⟩ := this len0 (Nat.le_refl _)
  refine ⟨some a, a.block, a.off, cap0, cs, by rw [h1], fun h0 => ?_, h3⟩
  obtain ⟨_, hat, _⟩ := each 0 (by omega)
  have hs := hspot (by omega)
  refine ⟨?_, h2, World.block_lt_of_cell? w ⟨a.block, a.off + 0 * 3, none⟩ hat.c0⟩
  obtain ⟨ab, ao, sp⟩ := a
  simp only at hs
  subst hs
  rfl
end

end Go.Proofs.YtnfnlfdplnekgaaDoor
