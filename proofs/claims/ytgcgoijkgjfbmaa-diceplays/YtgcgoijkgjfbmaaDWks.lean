/-
  What the law's own works answers: true.
-/
import Derived.Test.YtgcgoijkgjfbmaaDNext
namespace Go.Proofs.Ytgcgoijkgjfbmaa
open Go.RowKit Go.BigFrame

/-- Literal bytes in a new block, as an argument. -/
theorem barg_new (w : World) (l : List UInt8) : BArg (w.alloc (.cells (l.map fun b => Value.int .u8 (b.toNat : Int)).toArray 5)) (some ⟨w.heap.size, 0, none⟩) l := fun _ => by
  refine ⟨w.heap.size, 0, rfl, fun i hi => ?_⟩
  rw [(cells_block (heap_alloc_new w _)).1]
  simp [hi]

set_option maxHeartbeats 2000000 in
set_option maxRecDepth 100000 in
theorem works_any (w : World) :
    Calls Try.prog 15 #[] w fun e w' => e = .returned (.bool true) ∧ Below w.heap.size w w' := by
  go_enter Try.func15, Try.ntmps15
  have hb0 : Below w.heap.size w (w.alloc (.cells #[.int .u8 7, .int .u8 255, .int .u8 1, .int .u8 2] 5)) := (Below.refl _ w).alloc (Nat.le_refl _) _
  have hA : BArg (w.alloc (.cells #[.int .u8 7, .int .u8 255, .int .u8 1, .int .u8 2] 5)) (some ⟨w.heap.size, 0, none⟩) [7, 255, 1, 2] := barg_new w [7, 255, 1, 2]
  go_wp2_with fail
  refine (New_any _ _ [7, 255, 1, 2] _ hA (by decide)).mono ?_
  rintro e w1 ⟨g, rfl, hd, hb1⟩
  have hb := b_step hb0 hb1 (Nat.le_refl _)
  have hgw : w.heap.size ≤ g := by have := hd.1; have := hb0.size; omega
  clear hb0 hA hb1
  generalize (w.alloc (.cells #[.int .u8 7, .int .u8 255, .int .u8 1, .int .u8 2] 5)).heap.size = B at *
  go_wp2_with fail
  refine (Next_any g _ _ 4 _ _ hd).mono ?_
  rw [show nxV 4 [7, 255, 1, 2] = 3 from by decide, show nxR 4 [7, 255, 1, 2] = [255, 1, 2] from by decide]
  rintro e w2 ⟨rfl, hd2, hg⟩
  have hb2 := b_grown hb hg (Nat.le_refl _) hgw
  clear hd hg hb
  go_wp2_with fail
  refine (Next_any g _ _ 1 _ _ hd2).mono ?_
  rw [show nxV 1 [255, 1, 2] = 0 from by decide, show nxR 1 [255, 1, 2] = [255, 1, 2] from by decide]
  rintro e w3 ⟨rfl, hd3, hg⟩
  have hb3 := b_grown hb2 hg (Nat.le_refl _) hgw
  clear hd2 hg hb2
  go_wp2_with fail
  refine (Next_any g _ _ 256 _ _ hd3).mono ?_
  rw [show nxV 256 [255, 1, 2] = 255 from by decide, show nxR 256 [255, 1, 2] = [1, 2] from by decide]
  rintro e w4 ⟨rfl, hd4, hg⟩
  have hb4 := b_grown hb3 hg (Nat.le_refl _) hgw
  clear hd3 hg hb3
  go_wp2_with fail
  refine (Next_any g _ _ 300 _ _ hd4).mono ?_
  rw [show nxV 300 [1, 2] = 258 from by decide, show nxR 300 [1, 2] = [] from by decide]
  rintro e w5 ⟨rfl, hd5, hg⟩
  have hb5 := b_grown hb4 hg (Nat.le_refl _) hgw
  clear hd4 hg hb4
  go_wp2_with fail
  refine (Left_any g _ _ _ _ hd5).mono ?_
  rintro e w6 ⟨rfl, rfl⟩
  go_wp2
  go_ret
  exact ⟨rfl, hb5⟩

end Go.Proofs.Ytgcgoijkgjfbmaa
