/-
  The document's list in memory: cells and heights, as two rows; its Get, From and Counts.
-/
import Derived.Test.YtijfmgpipnhkkaaSHts
import Derived.Test.YtijfmgpipnhkkaaSWks
import Derived.Deep.RegionLaw
namespace Go.Proofs.Ytijfmgpipnhkkaa
open Go.RowKit Go.BigFrame Go.Sort
attribute [local go_sem] size_bstr toList_bstr ls_def

/-- Numbers lie in a block. -/
def HRow (w : World) (g : Nat) (hs : List Nat) : Prop := ∀ i (h : i < hs.length), w.cell? ⟨g, i, none⟩ = some (.int .i64 (hs[i] : Int))
/-- The document's list L: its cells' row and its heights' row. -/
structure DA (w : World) (L : List (Cl × Nat)) (qc : Option Addr) (gc cc : Nat) (qh : Option Addr) (gh ch : Nat) : Prop where
  c : 0 < L.length → qc = some ⟨gc, 0, none⟩ ∧ CRow w gc 0 (L.map fun x => x.1) ∧ gc < w.heap.size
  h : 0 < L.length → qh = some ⟨gh, 0, none⟩ ∧ HRow w gh (L.map fun x => x.2) ∧ gh < w.heap.size
  lc : L.length ≤ cc
  lh : L.length ≤ ch
  nl : L.length = 0 → qc = none ∧ cc = 0 ∧ qh = none ∧ ch = 0
abbrev dV (L : List (Cl × Nat)) (qc : Option Addr) (cc : Nat) (qh : Option Addr) (ch : Nat) : Value := .agg #[.slice qc L.length cc, .slice qh L.length ch]
theorem HRow.block {w w' : World} {g : Nat} {hs : List Nat} (h : HRow w g hs) (hb : w'.heap[g]? = w.heap[g]?) : HRow w' g hs := fun i hi => (World.cell?_of_block (a := ⟨g, i, none⟩) hb).trans (h i hi)
theorem CRow.block {w w' : World} {g off : Nat} {cs : List Cl} (h : CRow w g off cs) (hb : w'.heap[g]? = w.heap[g]?) : CRow w' g off cs := h.same fun _ => World.cell?_of_block (a := ⟨g, _, none⟩) hb
theorem DA.kept {w w' : World} {L : List (Cl × Nat)} {qc : Option Addr} {gc cc : Nat} {qh : Option Addr} {gh ch : Nat} (h : DA w L qc gc cc qh gh ch) (hs : w.heap.size ≤ w'.heap.size) (hb : 0 < L.length → w'.heap[gc]? = w.heap[gc]? ∧ w'.heap[gh]? = w.heap[gh]?) : DA w' L qc gc cc qh gh ch :=
  ⟨fun h0 => ⟨(h.c h0).1, (h.c h0).2.1.block (hb h0).1, Nat.lt_of_lt_of_le (h.c h0).2.2 hs⟩, fun h0 => ⟨(h.h h0).1, (h.h h0).2.1.block (hb h0).2, Nat.lt_of_lt_of_le (h.h h0).2.2 hs⟩, h.lc, h.lh, h.nl⟩
theorem DA.below {w w' : World} {L : List (Cl × Nat)} {qc : Option Addr} {gc cc : Nat} {qh : Option Addr} {gh ch : Nat} (h : DA w L qc gc cc qh gh ch) (hb : Below w.heap.size w w') : DA w' L qc gc cc qh gh ch :=
  h.kept hb.size fun h0 => ⟨hb.block _ (h.c h0).2.2, hb.block _ (h.h h0).2.2⟩

/-- What Get answers. -/
def getR (cs : List Cl) (row col : List UInt8) : Option Cl := cs.find? fun c => (c.row == row) && (c.col == col)
def getV (o : Option Cl) : Value := match o with
  | some c => .tuple #[clV c, .bool true]
  | none => .tuple #[clV zC, .bool false]

set_option maxHeartbeats 4000000 in
set_option maxRecDepth 100000 in
theorem RGet_any (L : List (Cl × Nat)) (qc : Option Addr) (gc cc : Nat) (qh : Option Addr) (gh ch : Nat) (row col : List UInt8) (w : World) (hD : DA w L qc gc cc qh gh ch) (hn : L.length ≤ 1000000) :
    Calls Try.prog 8 #[dV L qc cc qh ch, .string (bstr row), .string (bstr col)] w fun e w' => e = .returned (getV (getR (L.map fun x => x.1) row col)) ∧ Below w.heap.size w w' := by
  obtain ⟨cs, hcs⟩ : ∃ cs, cs = L.map fun x => x.1 := ⟨_, rfl⟩
  have hcl : L.length = cs.length := by rw [hcs, List.length_map]
  obtain ⟨w0, hw0⟩ : ∃ w0, w0 = (w.alloc (.cells #[.slice qc cs.length cc, .slice qh cs.length ch] 28)).alloc (.cells #[.string ⟨#[]⟩, .string ⟨#[]⟩, .int .u64 0, .bool false, .string ⟨#[]⟩] 34) := ⟨_, rfl⟩
  have hb0 : Below w.heap.size w w0 := by rw [hw0]; exact ((Below.refl _ _).alloc (Nat.le_refl _) _).alloc (by simp) _
  have hl0 : w0.heap[w.heap.size]? = some (.cells #[.slice qc cs.length cc, .slice qh cs.length ch] 28 (0, 0)) := by rw [hw0]; exact (Below.heap_alloc _ _ _ (by simp)).trans (heap_alloc_new w _)
  have hz0 : w0.heap[w.heap.size + 1]? = some (.cells #[.string ⟨#[]⟩, .string ⟨#[]⟩, .int .u64 0, .bool false, .string ⟨#[]⟩] 34 (0, 0)) := by
    have := heap_alloc_new (w.alloc (.cells #[.slice qc cs.length cc, .slice qh cs.length ch] 28)) (.cells #[.string ⟨#[]⟩, .string ⟨#[]⟩, .int .u64 0, .bool false, .string ⟨#[]⟩] 34)
    rw [hw0]
    simpa using this
  have hC : 0 < cs.length → qc = some ⟨gc, 0, none⟩ ∧ CRow w0 gc 0 cs := fun h0 => by
    obtain ⟨a, b, c⟩ := hD.c (by omega)
    rw [← hcs] at b
    exact ⟨a, b.step hb0 c⟩
  have cl0 : w0.cell? ⟨w.heap.size, 0, none⟩ = some (.slice qc cs.length cc) := (cells_block hl0).1 0
  rw [← hcs]
  simp only [dV, hcl]
  rw [hcl] at hn
  have HCL : Hid _ := hcl
  clear hD hcs hcl
  go_enter Try.func8, Try.ntmps8
  go_wp2_with fail
  rw [← hw0]
  clear hw0
  have fin : ∀ {W' : World} {x0 x1 x2 x3 x4 : Value}, ((((w0.setCell ⟨w.heap.size + 1, 0, none⟩ x0).setCell ⟨w.heap.size + 1, 1, none⟩ x1).setCell ⟨w.heap.size + 1, 2, none⟩ x2).setCell ⟨w.heap.size + 1, 3, none⟩ x3).setCell ⟨w.heap.size + 1, 4, none⟩ x4 = W' → (W'.cell? ⟨w.heap.size + 1, 0, none⟩ = some x0 ∧ W'.cell? ⟨w.heap.size + 1, 1, none⟩ = some x1 ∧ W'.cell? ⟨w.heap.size + 1, 2, none⟩ = some x2 ∧ W'.cell? ⟨w.heap.size + 1, 3, none⟩ = some x3 ∧ W'.cell? ⟨w.heap.size + 1, 4, none⟩ = some x4) ∧ Below w.heap.size w W' := by
    intro W' x0 x1 x2 x3 x4 hW
    obtain ⟨r0, r1, r2, r3, r4, _⟩ := zero_cells hz0
    refine ⟨set5_reads r0 r1 r2 r3 r4 hW, ?_⟩
    rw [← hW]
    exact below_set5 _ _ _ _ _ hb0 (by omega)
  obtain ⟨r0, r1, r2, r3, r4, g0, g1, g2, g3, g4⟩ := zero_cells hz0
  go_loopw [8] (fun s8 wr => ∃ i : Nat, s8 = .int .i64 (i : Int) ∧ i ≤ cs.length ∧ (∀ j (h : j < cs.length), j < i → ((cs[j].row == row) && (cs[j].col == col)) = false) ∧ wr = w0) (fun s8 _ => cs.length - (intOf s8).toNat)
  case atStart => exact ⟨0, rfl, Nat.zero_le _, fun j _ hj => absurd hj (Nat.not_lt_zero j), rfl⟩
  case round =>
    obtain ⟨i, rfl, hil, hno, hwr⟩ := hrel
    rw [hwr]
    clear hwr
    by_cases hlt : i < cs.length
    · obtain ⟨rfl, hR⟩ := hC (by omega)
      have c1 : (i : Int) < (cs.length : Int) := by omega
      obtain ⟨d0, d1, d2, d3, d4⟩ := hR i hlt
      simp only [Nat.zero_add] at d0 d1 d2 d3 d4
      have hnx : ((cs[i].row == row) && (cs[i].col == col)) = false → ∀ j (h : j < cs.length), j < i + 1 → ((cs[j].row == row) && (cs[j].col == col)) = false := fun h0 j hj h1 => by
        by_cases e : j < i
        · exact hno j hj e
        · obtain rfl : j = i := by omega
          exact h0
      have hyes : ((cs[i].row == row) && (cs[i].col == col)) = true → getR cs row col = some cs[i] := fun h0 => by
        unfold getR
        rw [List.find?_eq_some_iff_getElem]
        exact ⟨h0, i, hlt, rfl, fun j hj => by rw [hno j (by omega) hj]; rfl⟩
      have HNX : Hid _ := hnx
      have HY : Hid _ := hyes
      clear hnx hyes hno hR
      generalize cs[i] = c at *
      obtain ⟨cr, ck, cv, cg, cx⟩ := c
      simp only at d0 d1 d2 d3 d4
      cases hr : (cr == row) with
      | false =>
        go_wp2
        go_roundw
        case rel => exact ⟨i + 1, by go_num, by omega, HNX.out (by simp [hr]), trivial⟩
        case measure => simp [intOf]; omega
      | true =>
        cases hc : (ck == col) with
        | false =>
          go_wp2
          go_roundw
          case rel => exact ⟨i + 1, by go_num, by omega, HNX.out (by simp [hc]), trivial⟩
          case measure => simp [intOf]; omega
        | true =>
          have hans := HY.out (by simp [hr, hc])
          have HAN : Hid _ := hans
          clear hans
          go_wp2
          generalize hW : ((((World.setCell _ ⟨w.heap.size + 1, 0, none⟩ _).setCell ⟨w.heap.size + 1, 1, none⟩ _).setCell ⟨w.heap.size + 1, 2, none⟩ _).setCell ⟨w.heap.size + 1, 3, none⟩ _).setCell ⟨w.heap.size + 1, 4, none⟩ _ = W'
          obtain ⟨⟨x0, x1, x2, x3, x4⟩, hB4⟩ := fin hW
          exact bodyPost_ret (v := .tuple #[clV ⟨cr, ck, cv, cg, cx⟩, .bool true]) (by simp [results, Try.results8, go_sem, x0, x1, x2, x3, x4]) rfl ⟨by rw [HAN.out]; rfl, hB4⟩
    · have c1 : ¬ (i : Int) < (cs.length : Int) := by omega
      have hans : Hid (getR cs row col = none) := by
        show _ = _
        unfold getR
        rw [List.find?_eq_none]
        intro c hc
        obtain ⟨j, hj, rfl⟩ := List.getElem_of_mem hc
        rw [hno j hj (by omega)]
        simp
      clear hno
      go_wp2
      generalize hW : ((((World.setCell _ ⟨w.heap.size + 1, 0, none⟩ _).setCell ⟨w.heap.size + 1, 1, none⟩ _).setCell ⟨w.heap.size + 1, 2, none⟩ _).setCell ⟨w.heap.size + 1, 3, none⟩ _).setCell ⟨w.heap.size + 1, 4, none⟩ _ = W'
      obtain ⟨⟨x0, x1, x2, x3, x4⟩, hB4⟩ := fin hW
      exact bodyPost_ret (v := .tuple #[clV zC, .bool false]) (by simp [results, Try.results8, go_sem, x0, x1, x2, x3, x4]; rfl) rfl ⟨by rw [hans.out]; rfl, hB4⟩

end Go.Proofs.Ytijfmgpipnhkkaa
