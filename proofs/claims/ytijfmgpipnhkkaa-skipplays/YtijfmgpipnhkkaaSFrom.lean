/-
  From and All: the iterator that they hand back.
-/
import Derived.Test.YtijfmgpipnhkkaaSEnd
import Derived.Test.YtijfmgpipnhkkaaSCel
import Derived.Test.YtijfmgpipnhkkaaSBeg
namespace Go.Proofs.Ytijfmgpipnhkkaa
open Go.RowKit Go.BigFrame Go.Sort
attribute [local go_sem] size_bstr toList_bstr ls_def

/-- What the iterator has captured: the list, and a place. -/
structure Bx (w : World) (b : Nat) (pl : Option Addr) (row col : List UInt8) : Prop where
  a : w.heap[b]? = some (.cells #[.pointer pl] 23 (0, 0))
  r : w.heap[b + 1]? = some (.cells #[.string (bstr row)] 9 (0, 0))
  c : w.heap[b + 1 + 1]? = some (.cells #[.string (bstr col)] 9 (0, 0))
theorem Bx.lt {w : World} {b : Nat} {pl : Option Addr} {row col : List UInt8} (h : Bx w b pl row col) : b + 1 + 1 < w.heap.size := blk_lt h.c
theorem Bx.step {w w' : World} {b : Nat} {pl : Option Addr} {row col : List UInt8} (h : Bx w b pl row col) (hb : Below w.heap.size w w') : Bx w' b pl row col := by
  have := h.lt
  exact ⟨(hb.block _ (by omega)).trans h.a, (hb.block _ (by omega)).trans h.r, (hb.block _ this).trans h.c⟩
theorem Bx.drew {w : World} {b : Nat} {pl : Option Addr} {row col : List UInt8} (h : Bx w b pl row col) : Bx w.drew b pl row col := ⟨h.a, h.r, h.c⟩
theorem Bx.cells {w : World} {b : Nat} {pl : Option Addr} {row col : List UInt8} (h : Bx w b pl row col) : w.cell? ⟨b, 0, none⟩ = some (.pointer pl) ∧ w.cell? ⟨b + 1, 0, none⟩ = some (.string (bstr row)) ∧ w.cell? ⟨b + 1 + 1, 0, none⟩ = some (.string (bstr col)) ∧ w.frozen? ⟨b + 1, 0, none⟩ = false ∧ w.frozen? ⟨b + 1 + 1, 0, none⟩ = false := by
  have h1 := h.a
  have h2 := h.r
  have h3 := h.c
  refine ⟨?_, ?_, ?_, ?_, ?_⟩ <;> simp [World.cell?, World.frozen?, h1, h2, h3]
theorem Bx.still {w : World} {b : Nat} {pl : Option Addr} {row col : List UInt8} (h : Bx w b pl row col) : w.setCell ⟨b + 1, 0, none⟩ (.string (bstr row)) = w ∧ w.setCell ⟨b + 1 + 1, 0, none⟩ (.string (bstr col)) = w := by
  obtain ⟨_, c1, c2, _, _⟩ := h.cells
  exact ⟨setCell_noop c1, setCell_noop c2⟩
theorem Bx.start (w : World) (pl : Option Addr) (row col : List UInt8) : Bx (((w.alloc (.cells #[.pointer pl] 23)).alloc (.cells #[.string (bstr row)] 9)).alloc (.cells #[.string (bstr col)] 9)) w.heap.size pl row col := by
  refine ⟨?_, ?_, ?_⟩
  · exact (Below.heap_alloc _ _ _ (by simp; omega)).trans ((Below.heap_alloc _ _ _ (by simp)).trans (heap_alloc_new w _))
  · refine (Below.heap_alloc _ _ _ (by simp)).trans ?_
    have := heap_alloc_new (w.alloc (.cells #[.pointer pl] 23)) (.cells #[.string (bstr row)] 9)
    simpa using this
  · have := heap_alloc_new ((w.alloc (.cells #[.pointer pl] 23)).alloc (.cells #[.string (bstr row)] 9)) (.cells #[.string (bstr col)] 9)
    simpa using this

set_option maxHeartbeats 4000000 in
set_option maxRecDepth 100000 in
theorem From_any (pl : Option Addr) (row col : List UInt8) (w : World) (h1 : row.length ≤ 140737488351232) (h2 : col.length ≤ 140737488351232) :
    Calls Try.prog 25 #[.pointer pl, .string (bstr row), .string (bstr col)] w fun e w' => e = .returned (.func (.func 37) #[] #[.pointer (some ⟨w.heap.size, 0, none⟩), .pointer (some ⟨w.heap.size + 1, 0, none⟩), .pointer (some ⟨w.heap.size + 1 + 1, 0, none⟩)]) ∧ Bx w' w.heap.size pl row col ∧ Below w.heap.size w w' := by
  have hF := Bx.start w pl row col
  have hB : Below w.heap.size w (((w.alloc (.cells #[.pointer pl] 23)).alloc (.cells #[.string (bstr row)] 9)).alloc (.cells #[.string (bstr col)] 9)) := (((Below.refl _ _).alloc (Nat.le_refl _) _).alloc (by simp) _).alloc (by simp; omega) _
  have hmf : ∀ (fn : Fn) (first cap : Array Value) (w : World), (Instr.makeFunc fn first cap).run Try.prog w = .ok (.func fn first cap) w := fun _ _ _ _ => rfl
  go_enter Try.func25, Try.ntmps25
  go_wp2_with fail
  generalize ((w.alloc (.cells #[.pointer pl] 23)).alloc (.cells #[.string (bstr row)] 9)).alloc (.cells #[.string (bstr col)] 9) = W at *
  obtain ⟨_, c1, c4, f1, f4⟩ := hF.cells
  go_region_held3 (fun w' => w'.cell? ⟨w.heap.size + 1, 0, none⟩ = some (.string (bstr row)) ∧ w'.cell? ⟨w.heap.size + 1 + 1, 0, none⟩ = some (.string (bstr col))) (first | with_reducible exact ⟨c1, c4⟩ | go_keep)
    (first
      | (go_at_call 36; refine (CClone_any _ _ (by omega)).mono ?_; rintro e wf ⟨rfl, hbf⟩; replace hB := below2 hB.drew hbf; replace hF := hF.drew.step hbf; clear c1 c4 f1 f4; obtain ⟨_, c1, c4, f1, f4⟩ := hF.cells; obtain ⟨n1, n4⟩ := hF.still; clear hbf)
      | (go_at_call 36; refine (CClone_any _ _ (by omega)).mono ?_; rintro e wf ⟨rfl, hbf⟩; replace hB := below2 hB hbf; replace hF := hF.step hbf; clear c1 c4 f1 f4 n1 n4; obtain ⟨_, c1, c4, f1, f4⟩ := hF.cells; obtain ⟨n1, n4⟩ := hF.still; clear hbf))
  clear n1 n4 f1 f4
  go_wp2
  go_ret
  exact ⟨rfl, hF, hB⟩

set_option maxHeartbeats 1000000 in
theorem All_any (pl : Option Addr) (w : World) :
    Calls Try.prog 12 #[.pointer pl] w fun e w' => e = .returned (.func (.func 37) #[] #[.pointer (some ⟨w.heap.size, 0, none⟩), .pointer (some ⟨w.heap.size + 1, 0, none⟩), .pointer (some ⟨w.heap.size + 1 + 1, 0, none⟩)]) ∧ Bx w' w.heap.size pl [] [] ∧ Below w.heap.size w w' := by
  have hfr := From_any pl [] [] w (by simp) (by simp)
  go_enter Try.func12, Try.ntmps12
  go_wp2_with fail
  refine hfr.mono ?_
  rintro e w' ⟨rfl, hF, hB⟩
  go_wp2
  go_ret
  exact ⟨rfl, hF, hB⟩

end Go.Proofs.Ytijfmgpipnhkkaa
