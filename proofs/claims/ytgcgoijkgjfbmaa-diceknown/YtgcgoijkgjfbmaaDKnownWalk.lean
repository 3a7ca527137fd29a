/-
  The walk of the law DiceKnown over this seat's translation: it returns true, and of what was there nothing has turned.
-/
import Derived.Test.YtgcgoijkgjfbmaaDLay
import Derived.Test.YtgcgoijkgjfbmaaDWks
namespace Go.Proofs.Ytgcgoijkgjfbmaa
open Go.RowKit Go.BigFrame
attribute [local go_sem] size_bstr toList_bstr

theorem iarg_new (w : World) (l : List Int) : IArg (w.alloc (.cells (l.map fun x => Value.int .i64 x).toArray 3)) (some ⟨w.heap.size, 0, none⟩) l := fun _ => by
  refine ⟨w.heap.size, 0, rfl, by simp, fun i hi => ?_⟩
  rw [(cells_block (heap_alloc_new w _)).1]
  simp [hi]

set_option maxHeartbeats 4000000 in
set_option maxRecDepth 100000 in
theorem known_walk (w : World) :
    Calls Try.prog 7 #[] w fun e w' => e = .returned (.bool true) ∧ Below w.heap.size w w' := by
  go_enter Try.func7, Try.ntmps7
  have hb0 : Below w.heap.size w (w.alloc (.cells #[.int .u8 7] 5)) := (Below.refl _ w).alloc (Nat.le_refl _) _
  have hA : BArg (w.alloc (.cells #[.int .u8 7] 5)) (some ⟨w.heap.size, 0, none⟩) [7] := barg_new w [7]
  go_wp2_with fail
  refine (New_any _ _ [7] _ hA (by decide)).mono ?_
  rintro e w1 ⟨ga, rfl, hda, hb1⟩
  have hba := b_step hb0 hb1 (Nat.le_refl _)
  have hga : w.heap.size ≤ ga := by have := hda.1; have := hb0.size; omega
  clear hb0 hA hb1
  generalize (w.alloc (.cells #[.int .u8 7] 5)).heap.size = Ba at *
  go_wp2_with fail
  refine (New_any none 0 [] _ (BArg.nil _ _) (by decide)).mono ?_
  rintro e w2 ⟨gb, rfl, hdb, hb2⟩
  have hbb := b_step hba hb2 (Nat.le_refl _)
  have hgb : w.heap.size ≤ gb := by have := hdb.1; have := hba.size; omega
  have hda2 := hda.below hb2 (Nat.le_refl _)
  clear hda hb2
  have hb3 : Below w2.heap.size w2 (w2.alloc (.cells #[.int .u8 255, .int .u8 255, .int .u8 255, .int .u8 255] 5)) := (Below.refl _ w2).alloc (Nat.le_refl _) _
  have hC : BArg (w2.alloc (.cells #[.int .u8 255, .int .u8 255, .int .u8 255, .int .u8 255] 5)) (some ⟨w2.heap.size, 0, none⟩) [255, 255, 255, 255] := barg_new w2 [255, 255, 255, 255]
  go_wp2_with fail
  refine (New_any _ _ [255, 255, 255, 255] _ hC (by decide)).mono ?_
  rintro e w3 ⟨gc, rfl, hdc, hb4⟩
  have hb5 := b_step hb3 hb4 (Nat.le_refl _)
  have hbc := b_step hbb hb5 (Nat.le_refl _)
  have hgc : w.heap.size ≤ gc := by have := hdc.1; have := hbb.size; have := hb3.size; omega
  have hda3 := hda2.below hb5 (by have := hda2.2.2.1; omega)
  have hdb3 := hdb.below hb5 (Nat.le_refl _)
  have hla := hda3.2.1
  have hsz12 : w1.heap.size ≤ w2.heap.size := hda2.2.2.1
  have hsz2 : w2.heap.size ≤ (w2.alloc (.cells #[.int .u8 255, .int .u8 255, .int .u8 255, .int .u8 255] 5)).heap.size := hb3.size
  clear hda2 hdb hb3 hb4 hb5 hC hbb hba
  generalize (w2.alloc (.cells #[.int .u8 255, .int .u8 255, .int .u8 255, .int .u8 255] 5)).heap.size = Bc at *
  go_wp2_with fail
  refine (Next_any ga _ _ 300 _ _ hda3).mono ?_
  rw [show nxV 300 [7] = 0 from by decide, show nxR 300 [7] = [] from by decide]
  rintro e w4 ⟨rfl, hda4, hg⟩
  have hb6 := b_grown hbc hg (Nat.le_refl _) hga
  have hdb4 := hdb3.kept hg (.inl (by omega))
  have hdc4 := hdc.kept hg (.inl (by omega))
  clear hda3 hdb3 hdc hg hbc
  go_wp2_with fail
  refine (Left_any ga _ _ _ _ hda4).mono ?_
  rintro e w5 ⟨rfl, rfl⟩
  go_wp2_with fail
  refine (Next_any gb _ _ 5 _ _ hdb4).mono ?_
  rw [show nxV 5 [] = 0 from by decide, show nxR 5 [] = [] from by decide]
  rintro e w6 ⟨rfl, hdb6, hg⟩
  have hb7 := b_grown hb6 hg (Nat.le_refl _) hgb
  have hdc6 := hdc4.kept hg (.inl (by have := hdb4.2.1; omega))
  clear hda4 hdb4 hdc4 hg hb6 hdb6
  go_wp2_with fail
  refine (Next_any gc _ _ 65536 _ _ hdc6).mono ?_
  rw [show nxV 65536 [255, 255, 255, 255] = 65535 from by decide, show nxR 65536 [255, 255, 255, 255] = [255, 255] from by decide]
  rintro e w7 ⟨rfl, hdc7, hg⟩
  have hb8 := b_grown hb7 hg (Nat.le_refl _) hgc
  clear hdc6 hg hb7
  go_wp2_with fail
  refine (Next_any gc _ _ 1099511627776 _ _ hdc7).mono ?_
  rw [show nxV 1099511627776 [255, 255] = 65535 from by decide, show nxR 1099511627776 [255, 255] = [] from by decide]
  rintro e w8 ⟨rfl, hdc8, hg⟩
  have hb9 := b_grown hb8 hg (Nat.le_refl _) hgc
  clear hdc7 hg hb8 hdc8
  have hI : IArg (w8.alloc (.cells #[.int .i64 1, .int .i64 256, .int .i64 (-1), .int .i64 300] 3)) (some ⟨w8.heap.size, 0, none⟩) [1, 256, -1, 300] := iarg_new w8 [1, 256, -1, 300]
  have hb10 := hb9.alloc hb9.size (.cells #[.int .i64 1, .int .i64 256, .int .i64 (-1), .int .i64 300] 3)
  go_wp2_with fail
  refine (Lay_any _ _ [1, 256, -1, 300] _ hI (by decide)).mono ?_
  rintro e w9 ⟨v9, rfl, ho9, hb11⟩
  have hb12 := b_step hb10 hb11 (Nat.le_refl _)
  have k1 := run_convert_own (P := Try.prog) (src := 22) (dst := 9) ho9 Try.underlying22 Try.underlying5 Try.underlying9
  rw [show bstr (([1, 256, -1, 300] : List Int).map byt) = ⟨#[1, 0, 255, 44]⟩ from rfl] at k1
  clear hI hb10 hb9 hb11 ho9
  go_wp2_with fail
  refine (Lay_any none 0 [] _ (fun h => absurd h (by simp)) (by decide)).mono ?_
  rintro e w10 ⟨v10, rfl, ho10, hb13⟩
  have hb14 := b_step hb12 hb13 (Nat.le_refl _)
  obtain ⟨q10, cap10, rfl, _, _, _, _, _⟩ := own_barg ho10
  clear ho10 hb13 hb12 k1
  go_wp2_with fail
  refine (Next_nil 9 _).mono ?_
  rintro e w11 ⟨rfl, rfl⟩
  go_wp2_with fail
  refine (Left_nil _).mono ?_
  rintro e w12 ⟨rfl, rfl⟩
  go_wp2_with fail
  refine (Copy_nil _).mono ?_
  rintro e w13 ⟨rfl, rfl⟩
  go_wp2_with fail
  refine (works_any _).mono ?_
  rintro e w14 ⟨rfl, hb15⟩
  have hb16 := b_step hb14 hb15 (Nat.le_refl _)
  go_wp2
  go_ret
  exact ⟨rfl, hb16⟩

end Go.Proofs.Ytgcgoijkgjfbmaa
