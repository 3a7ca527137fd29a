/-
  The document's Put.
-/
import Derived.Test.YtijfmgpipnhkkaaSR4
namespace Go.Proofs.Ytijfmgpipnhkkaa
open Go.RowKit Go.BigFrame Go.Sort
attribute [local go_sem] size_bstr toList_bstr ls_def

/-- The boxes with which the document's Put begins: the list, the cell, the list that it answers. -/
structure PB (w : World) (L : List (Cl × Nat)) (qc : Option Addr) (gc cc : Nat) (qh : Option Addr) (gh ch : Nat) (c : Cl) (W : World) : Prop where
  b0 : W.heap[w.heap.size]? = some (.cells #[.slice qc L.length cc, .slice qh L.length ch] 28 (0, 0))
  b1 : W.heap[w.heap.size + 1]? = some (.cells #[.string (bstr c.row), .string (bstr c.col), .int .u64 c.ver, .bool c.gone, .string (bstr c.val)] 34 (0, 0))
  b2 : W.heap[w.heap.size + 2]? = some (.cells #[.slice none 0 0, .slice none 0 0] 28 (0, 0))
  be : Below w.heap.size w W
theorem PB.abd {w : World} {L : List (Cl × Nat)} {qc : Option Addr} {gc cc : Nat} {qh : Option Addr} {gh ch : Nat} {c : Cl} {W W' : World} (h : PB w L qc gc cc qh gh ch c W) (hb : Below W.heap.size W W') : PB w L qc gc cc qh gh ch c W' :=
  ⟨(hb.block _ (blk_lt h.b0)).trans h.b0, (hb.block _ (blk_lt h.b1)).trans h.b1, (hb.block _ (blk_lt h.b2)).trans h.b2, below2 h.be hb⟩
theorem PB.drew {w : World} {L : List (Cl × Nat)} {qc : Option Addr} {gc cc : Nat} {qh : Option Addr} {gh ch : Nat} {c : Cl} {W : World} (h : PB w L qc gc cc qh gh ch c W) : PB w L qc gc cc qh gh ch c W.drew := ⟨h.b0, h.b1, h.b2, h.be.drew⟩
theorem PB.start (w : World) (L : List (Cl × Nat)) (qc : Option Addr) (gc cc : Nat) (qh : Option Addr) (gh ch : Nat) (c : Cl) : PB w L qc gc cc qh gh ch c (((w.alloc (.cells #[.slice qc L.length cc, .slice qh L.length ch] 28)).alloc (.cells #[.string (bstr c.row), .string (bstr c.col), .int .u64 c.ver, .bool c.gone, .string (bstr c.val)] 34)).alloc (.cells #[.slice none 0 0, .slice none 0 0] 28)) := by
  refine ⟨?_, ?_, ?_, (((Below.refl _ _).alloc (Nat.le_refl _) _).alloc (by simp) _).alloc (by simp; omega) _⟩
  · exact (Below.heap_alloc _ _ _ (by simp; omega)).trans ((Below.heap_alloc _ _ _ (by simp)).trans (heap_alloc_new w _))
  · refine (Below.heap_alloc _ _ _ (by simp)).trans ?_
    have := heap_alloc_new (w.alloc (.cells #[.slice qc L.length cc, .slice qh L.length ch] 28)) (.cells #[.string (bstr c.row), .string (bstr c.col), .int .u64 c.ver, .bool c.gone, .string (bstr c.val)] 34)
    rwa [World.size_alloc] at this
  · have := heap_alloc_new ((w.alloc (.cells #[.slice qc L.length cc, .slice qh L.length ch] 28)).alloc (.cells #[.string (bstr c.row), .string (bstr c.col), .int .u64 c.ver, .bool c.gone, .string (bstr c.val)] 34)) (.cells #[.slice none 0 0, .slice none 0 0] 28)
    rwa [World.size_alloc, World.size_alloc] at this
theorem RCell_cl (c : Cl) (w : World) : Calls Try.prog 16 #[clV c] w fun e w' => e = .returned (.int .i64 (if mayCl c = true then 0 else 2)) ∧ Below w.heap.size w w' := RCell_any c.row c.col c.ver c.gone c.val w
theorem RCmp_cl (a b : Cl) (w : World) : Calls Try.prog 17 #[clV a, clV b] w fun e w' => e = .returned (.int .i64 (ccl a b)) ∧ Below w.heap.size w w' := RCmp_any a.row a.col a.ver a.gone a.val b.row b.col b.ver b.gone b.val w

set_option maxHeartbeats 4000000 in
set_option maxRecDepth 100000 in
theorem RPut_arg (L : List (Cl × Nat)) (qc : Option Addr) (gc cc : Nat) (qh : Option Addr) (gh ch : Nat) (c : Cl) (h : Int) (w : World) (hbad : mayCl c = false ∨ h < 1 ∨ 12 < h) :
    Calls Try.prog 5 #[dV L qc cc qh ch, clV c, .int .i64 h] w fun e w' => e = .returned (.tuple #[dV L qc cc qh ch, .int .i64 2]) ∧ Below w.heap.size w w' := by
  have hP := PB.start w L qc gc cc qh gh ch c
  obtain ⟨W, hW⟩ : ∃ W, W = ((w.alloc (.cells #[.slice qc L.length cc, .slice qh L.length ch] 28)).alloc (.cells #[.string (bstr c.row), .string (bstr c.col), .int .u64 c.ver, .bool c.gone, .string (bstr c.val)] 34)).alloc (.cells #[.slice none 0 0, .slice none 0 0] 28) := ⟨_, rfl⟩
  rw [← hW] at hP
  have hce := RCell_cl c W
  obtain ⟨d0, d1, d2, d3, d4⟩ : W.cell? ⟨w.heap.size + 1, 0, none⟩ = some (.string (bstr c.row)) ∧ W.cell? ⟨w.heap.size + 1, 1, none⟩ = some (.string (bstr c.col)) ∧ W.cell? ⟨w.heap.size + 1, 2, none⟩ = some (.int .u64 c.ver) ∧ W.cell? ⟨w.heap.size + 1, 3, none⟩ = some (.bool c.gone) ∧ W.cell? ⟨w.heap.size + 1, 4, none⟩ = some (.string (bstr c.val)) := ⟨(cells_block hP.b1).1 0, (cells_block hP.b1).1 1, (cells_block hP.b1).1 2, (cells_block hP.b1).1 3, (cells_block hP.b1).1 4⟩
  simp only [dV, clV] at hce ⊢
  go_enter Try.func5, Try.ntmps5
  go_wp2_with fail
  rw [← hW]
  refine hce.mono ?_
  rintro e w1 ⟨rfl, hb1⟩
  have hP1 := hP.abd hb1
  have x0 : w1.cell? ⟨w.heap.size, 0, none⟩ = some (.slice qc L.length cc) := (cells_block hP1.b0).1 0
  have x1 : w1.cell? ⟨w.heap.size, 1, none⟩ = some (.slice qh L.length ch) := (cells_block hP1.b0).1 1
  have y0 : w1.cell? ⟨w.heap.size + 1 + 1, 0, none⟩ = some (.slice none 0 0) := (cells_block hP1.b2).1 0
  have y1 : w1.cell? ⟨w.heap.size + 1 + 1, 1, none⟩ = some (.slice none 0 0) := (cells_block hP1.b2).1 1
  have f0 : w1.frozen? ⟨w.heap.size + 1 + 1, 0, none⟩ = false := (cells_block hP1.b2).2 0
  have f1 : w1.frozen? ⟨w.heap.size + 1 + 1, 1, none⟩ = false := (cells_block hP1.b2).2 1
  have fin : ∀ {W' : World}, (w1.setCell ⟨w.heap.size + 1 + 1, 0, none⟩ (.slice qc L.length cc)).setCell ⟨w.heap.size + 1 + 1, 1, none⟩ (.slice qh L.length ch) = W' → W'.cell? ⟨w.heap.size + 1 + 1, 0, none⟩ = some (.slice qc L.length cc) ∧ W'.cell? ⟨w.heap.size + 1 + 1, 1, none⟩ = some (.slice qh L.length ch) ∧ Below w.heap.size w W' := by
    intro W' hW'
    have h1 := heap_set_same (heap_set_same hP1.b2 (o := 0) (.slice qc L.length cc)) (o := 1) (.slice qh L.length ch)
    rw [hW'] at h1
    refine ⟨(cells_block h1).1 0, (cells_block h1).1 1, ?_⟩
    rw [← hW']
    exact (hP1.be.setCell (p := ⟨w.heap.size + 1 + 1, 0, none⟩) (by show _ ≤ w.heap.size + 1 + 1; omega) _).setCell (p := ⟨w.heap.size + 1 + 1, 1, none⟩) (by show _ ≤ w.heap.size + 1 + 1; omega) _
  have FIN : Hid _ := @fin
  clear hce hW hP d0 d1 d2 d3 d4 hb1 fin
  cases hm : mayCl c with
  | false =>
    simp only [Bool.false_eq_true, if_false]
    go_wp2
    generalize hW' : (w1.setCell ⟨w.heap.size + 1 + 1, 0, none⟩ (.slice qc L.length cc)).setCell ⟨w.heap.size + 1 + 1, 1, none⟩ (.slice qh L.length ch) = W'
    obtain ⟨z0, z1, hB⟩ := FIN.out hW'
    exact bodyPost_ret (v := .tuple #[dV L qc cc qh ch, .int .i64 2]) (by simp [results, Try.results5, go_sem, z0, z1]) rfl ⟨rfl, hB⟩
  | true =>
    simp only [if_true]
    by_cases h1 : h < 1
    · go_wp2
      generalize hW' : (w1.setCell ⟨w.heap.size + 1 + 1, 0, none⟩ (.slice qc L.length cc)).setCell ⟨w.heap.size + 1 + 1, 1, none⟩ (.slice qh L.length ch) = W'
      obtain ⟨z0, z1, hB⟩ := FIN.out hW'
      exact bodyPost_ret (v := .tuple #[dV L qc cc qh ch, .int .i64 2]) (by simp [results, Try.results5, go_sem, z0, z1]) rfl ⟨rfl, hB⟩
    · have h2 : 12 < h := by
        rcases hbad with e | e | e
        · rw [hm] at e; cases e
        · omega
        · exact e
      go_wp2
      generalize hW' : (w1.setCell ⟨w.heap.size + 1 + 1, 0, none⟩ (.slice qc L.length cc)).setCell ⟨w.heap.size + 1 + 1, 1, none⟩ (.slice qh L.length ch) = W'
      obtain ⟨z0, z1, hB⟩ := FIN.out hW'
      exact bodyPost_ret (v := .tuple #[dV L qc cc qh ch, .int .i64 2]) (by simp [results, Try.results5, go_sem, z0, z1]) rfl ⟨rfl, hB⟩

end Go.Proofs.Ytijfmgpipnhkkaa
