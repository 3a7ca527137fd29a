/-
  quorum's laws: lists in memory of their own; three members.
-/
import Derived.Test.YtdoiknfpgmglaabUWin
import Derived.Test.YtdoiknfpgmglaabUCom
import Derived.Test.YtdoiknfpgmglaabUChg
namespace Go.Proofs.Ytdoiknfpgmglaab
open Go.RowKit Go.BigFrame

theorem iarg_new (w : World) (l : List Int) (t : TypeId) : IArg (w.alloc (.cells (icells l).toArray t)) (some ⟨w.heap.size, 0, none⟩) l := fun _ => ⟨_, 0, rfl, fun i hi => by
  rw [(mcells (heap_alloc_new w _)).1]
  simp [icells, hi]⟩
theorem uarg_new (w : World) (l : List Nat) (t : TypeId) : UArg (w.alloc (.cells (ucells l).toArray t)) (some ⟨w.heap.size, 0, none⟩) l := fun _ => ⟨_, 0, rfl, fun i hi => by
  rw [(mcells (heap_alloc_new w _)).1]
  simp [ucells, hi]⟩
theorem icells_one (l : List Int) : ∀ u ∈ icells l, u.oneCell' = true := by
  intro u hu
  obtain ⟨x, _, rfl⟩ := List.mem_map.1 hu
  rfl
theorem ucells_one (l : List Nat) : ∀ u ∈ ucells l, u.oneCell' = true := by
  intro u hu
  obtain ⟨x, _, rfl⟩ := List.mem_map.1 hu
  rfl
theorem IArg.take {w : World} {q : Option Addr} {l : List Int} (h : IArg w q l) (k : Nat) : IArg w q (l.take k) := fun h0 => by
  obtain ⟨b, off, hq, hr⟩ := h (by rw [List.length_take] at h0; omega)
  exact ⟨b, off, hq, fun i hi => by rw [List.getElem_take]; exact hr i (by rw [List.length_take] at hi; omega)⟩
theorem UArg.take {w : World} {q : Option Addr} {l : List Nat} (h : UArg w q l) (k : Nat) : UArg w q (l.take k) := fun h0 => by
  obtain ⟨b, off, hq, hr⟩ := h (by rw [List.length_take] at h0; omega)
  exact ⟨b, off, hq, fun i hi => by rw [List.getElem_take]; exact hr i (by rw [List.length_take] at hi; omega)⟩
theorem IRow.news {w : World} {b off : Nat} {l : List Int} (h : IRow w b off l) : ∀ j u, (icells l)[j]? = some u → w.cell? ((⟨b, off, none⟩ : Addr).add j) = some u := by
  intro j u hj
  rw [Addr.add_lit]
  obtain ⟨hj1, hj2⟩ := List.getElem?_eq_some_iff.1 hj
  have hj3 : j < l.length := by simpa [icells] using hj1
  rw [h j hj3, ← hj2]
  simp [icells]
theorem URow.news {w : World} {b off : Nat} {l : List Nat} (h : URow w b off l) : ∀ j u, (ucells l)[j]? = some u → w.cell? ((⟨b, off, none⟩ : Addr).add j) = some u := by
  intro j u hj
  rw [Addr.add_lit]
  obtain ⟨hj1, hj2⟩ := List.getElem?_eq_some_iff.1 hj
  have hj3 : j < l.length := by simpa [ucells] using hj1
  rw [h j hj3, ← hj2]
  simp [ucells]

set_option maxHeartbeats 4000000 in
set_option maxRecDepth 100000 in
theorem works_any (w : World) : Calls Try.prog 10 #[] w fun e w' => e = .returned (.bool true) ∧ Below w.heap.size w w' := by
  have hI : IArg (w.alloc (.cells #[.int .i64 0, .int .i64 1, .int .i64 2] 3)) (some ⟨w.heap.size, 0, none⟩) [0, 1, 2] := iarg_new w [0, 1, 2] 3
  have hb := bel_alloc (Below.refl w.heap.size w) (Nat.le_refl _) (.cells #[.int .i64 0, .int .i64 1, .int .i64 2] 3)
  have hC := Check_any (some ⟨w.heap.size, 0, none⟩) 3 [0, 1, 2] _ hI (by simp)
  rw [show chk [0, 1, 2] = true from by decide +kernel] at hC
  go_enter Try.func10, Try.ntmps10
  go_wp2_with fail
  refine hC.mono ?_
  rintro e w1 ⟨rfl, hb1⟩
  have hI1 := hI.below hb1
  have hB1 := below2 hb hb1
  clear hC hI hb hb1
  go_wp2_with fail
  refine (Most_any (some ⟨w.heap.size, 0, none⟩) 3 [0, 1, 2] w1 (by simp)).mono ?_
  rintro e w2 ⟨rfl, rfl⟩
  rw [show most [0, 1, 2] = 2 from rfl]
  have hJ : IArg (w2.alloc (.cells #[.int .i64 2, .int .i64 0] 3)) (some ⟨w2.heap.size, 0, none⟩) [2, 0] := iarg_new w2 [2, 0] 3
  have hb2 := bel_alloc (Below.refl w2.heap.size w2) (Nat.le_refl _) (.cells #[.int .i64 2, .int .i64 0] 3)
  have hW := Wins_any (some ⟨w.heap.size, 0, none⟩) 3 [0, 1, 2] (some ⟨w2.heap.size, 0, none⟩) 2 [2, 0] _ (hI1.below hb2) (by simp) hJ (by simp)
  rw [show win [0, 1, 2] [2, 0] = true from by decide +kernel] at hW
  go_wp2_with fail
  refine hW.mono ?_
  rintro e w3 ⟨rfl, hb3⟩
  have hI3 := (hI1.below hb2).below hb3
  have hB3 := below2 hB1 (below2 hb2 hb3)
  clear hW hJ hb2 hb3 hI1 hB1
  have hJ : IArg (w3.alloc (.cells #[.int .i64 2, .int .i64 2] 3)) (some ⟨w3.heap.size, 0, none⟩) [2, 2] := iarg_new w3 [2, 2] 3
  have hb2 := bel_alloc (Below.refl w3.heap.size w3) (Nat.le_refl _) (.cells #[.int .i64 2, .int .i64 2] 3)
  have hW := Wins_any (some ⟨w.heap.size, 0, none⟩) 3 [0, 1, 2] (some ⟨w3.heap.size, 0, none⟩) 2 [2, 2] _ (hI3.below hb2) (by simp) hJ (by simp)
  rw [show win [0, 1, 2] [2, 2] = false from by decide +kernel] at hW
  go_wp2_with fail
  refine hW.mono ?_
  rintro e w4 ⟨rfl, hb4⟩
  have hI4 := (hI3.below hb2).below hb4
  have hB4 := below2 hB3 (below2 hb2 hb4)
  clear hW hJ hb2 hb4 hI3 hB3
  have hJ : UArg (w4.alloc (.cells #[.int .u64 5, .int .u64 3, .int .u64 9] 29)) (some ⟨w4.heap.size, 0, none⟩) [5, 3, 9] := uarg_new w4 [5, 3, 9] 29
  have hb2 := bel_alloc (Below.refl w4.heap.size w4) (Nat.le_refl _) (.cells #[.int .u64 5, .int .u64 3, .int .u64 9] 29)
  have hW := Commit_any (some ⟨w.heap.size, 0, none⟩) 3 [0, 1, 2] (some ⟨w4.heap.size, 0, none⟩) 3 [5, 3, 9] _ (hI4.below hb2) (by simp) hJ
  go_wp2_with fail
  refine hW.mono ?_
  rintro e w5 ⟨⟨c, rfl, _, hc⟩, hb5⟩
  have hcc : c = 5 := (hc (by decide +kernel)).eq (d := 5) (by unfold IsCom; decide +kernel)
  have hB5 := below2 hB4 (below2 hb2 hb5)
  clear hW hJ hb2 hb5 hc
  subst hcc
  go_wp2
  go_ret
  exact ⟨rfl, hB5⟩

end Go.Proofs.Ytdoiknfpgmglaab
