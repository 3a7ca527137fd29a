/-
  The law QuorumKnown.
-/
import Derived.Test.YtdoiknfpgmglaabULaw
namespace Go.Proofs.Ytdoiknfpgmglaab
open Go.RowKit Go.BigFrame

def bads : List (List Int) := [[], [1, 0], [0, 0], [5], [-1]]
theorem bad_chk : ∀ i (h : i < bads.length), chk bads[i] = false := by decide +kernel
theorem chg_bad {l : List Int} (h : chk l = false) (x y : Int) : chgL l x y = [] ∧ chgE l x y = 2 := by
  have hk : chgK l x y = false := by unfold chgK; simp [h]
  constructor
  · unfold chgL; simp [hk]
  · unfold chgE; simp [hk]
theorem win_bad {l : List Int} (h : chk l = false) (y : List Int) : win l y = false := by unfold win; simp [h]
theorem meet_bad {l : List Int} (h : chk l = false) (y : List Int) : meet l y = false ∧ meet y l = false := by
  constructor
  · unfold meet; simp [h]
  · unfold meet; simp [h]
def badLL (n : Nat) : List LL := [(none, 0, []), (some ⟨n, 0, none⟩, 2, [1, 0]), (some ⟨n + 1, 0, none⟩, 2, [0, 0]), (some ⟨n + 1 + 1, 0, none⟩, 1, [5]), (some ⟨n + 1 + 1 + 1, 0, none⟩, 1, [-1])]
theorem badLL_get (n i : Nat) (h : i < (badLL n).length) (h2 : i < bads.length) : (badLL n)[i].2.2 = bads[i] := by
  rcases (by simp [badLL] at h; omega : i = 0 ∨ i = 1 ∨ i = 2 ∨ i = 3 ∨ i = 4) with rfl | rfl | rfl | rfl | rfl <;> rfl
theorem bad_lla (w : World) : LLA (((((w.alloc (.cells #[.int .i64 1, .int .i64 0] 3)).alloc (.cells #[.int .i64 0, .int .i64 0] 3)).alloc (.cells #[.int .i64 5] 3)).alloc (.cells #[.int .i64 (-1)] 3)).alloc (.cells #[.slice none 0 0, .slice (some ⟨w.heap.size, 0, none⟩) 2 2, .slice (some ⟨w.heap.size + 1, 0, none⟩) 2 2, .slice (some ⟨w.heap.size + 1 + 1, 0, none⟩) 1 1, .slice (some ⟨w.heap.size + 1 + 1 + 1, 0, none⟩) 1 1] 22)) (w.heap.size + 1 + 1 + 1 + 1) (badLL w.heap.size) := by
  have i1 : IArg (w.alloc (.cells #[.int .i64 1, .int .i64 0] 3)) (some ⟨w.heap.size, 0, none⟩) [1, 0] := iarg_new w [1, 0] 3
  generalize hw1 : w.alloc (.cells #[.int .i64 1, .int .i64 0] 3) = w1 at *
  have s1 : w1.heap.size = w.heap.size + 1 := by rw [← hw1]; simp
  have i2 : IArg (w1.alloc (.cells #[.int .i64 0, .int .i64 0] 3)) (some ⟨w1.heap.size, 0, none⟩) [0, 0] := iarg_new w1 [0, 0] 3
  have i1 := i1.below ((Below.refl _ _).alloc (Nat.le_refl _) (.cells #[.int .i64 0, .int .i64 0] 3))
  generalize hw2 : w1.alloc (.cells #[.int .i64 0, .int .i64 0] 3) = w2 at *
  have s2 : w2.heap.size = w.heap.size + 1 + 1 := by rw [← hw2]; simp [s1]
  have i3 : IArg (w2.alloc (.cells #[.int .i64 5] 3)) (some ⟨w2.heap.size, 0, none⟩) [5] := iarg_new w2 [5] 3
  have i1 := i1.below ((Below.refl _ _).alloc (Nat.le_refl _) (.cells #[.int .i64 5] 3))
  have i2 := i2.below ((Below.refl _ _).alloc (Nat.le_refl _) (.cells #[.int .i64 5] 3))
  generalize hw3 : w2.alloc (.cells #[.int .i64 5] 3) = w3 at *
  have s3 : w3.heap.size = w.heap.size + 1 + 1 + 1 := by rw [← hw3]; simp [s2]
  have i4 : IArg (w3.alloc (.cells #[.int .i64 (-1)] 3)) (some ⟨w3.heap.size, 0, none⟩) [-1] := iarg_new w3 [-1] 3
  have i1 := i1.below ((Below.refl _ _).alloc (Nat.le_refl _) (.cells #[.int .i64 (-1)] 3))
  have i2 := i2.below ((Below.refl _ _).alloc (Nat.le_refl _) (.cells #[.int .i64 (-1)] 3))
  have i3 := i3.below ((Below.refl _ _).alloc (Nat.le_refl _) (.cells #[.int .i64 (-1)] 3))
  generalize hw4 : w3.alloc (.cells #[.int .i64 (-1)] 3) = w4 at *
  have s4 : w4.heap.size = w.heap.size + 1 + 1 + 1 + 1 := by rw [← hw4]; simp [s3]
  rw [s1] at i2
  rw [s2] at i3
  rw [s3] at i4
  have hm := (mcells (heap_alloc_new w4 (.cells #[.slice none 0 0, .slice (some ⟨w.heap.size, 0, none⟩) 2 2, .slice (some ⟨w.heap.size + 1, 0, none⟩) 2 2, .slice (some ⟨w.heap.size + 1 + 1, 0, none⟩) 1 1, .slice (some ⟨w.heap.size + 1 + 1 + 1, 0, none⟩) 1 1] 22))).1
  have hb := (Below.refl w4.heap.size w4).alloc (Nat.le_refl _) (.cells #[.slice none 0 0, .slice (some ⟨w.heap.size, 0, none⟩) 2 2, .slice (some ⟨w.heap.size + 1, 0, none⟩) 2 2, .slice (some ⟨w.heap.size + 1 + 1, 0, none⟩) 1 1, .slice (some ⟨w.heap.size + 1 + 1 + 1, 0, none⟩) 1 1] 22)
  rw [s4] at hm
  intro i hi
  rcases (by simp [badLL] at hi; omega : i = 0 ∨ i = 1 ∨ i = 2 ∨ i = 3 ∨ i = 4) with rfl | rfl | rfl | rfl | rfl
  · exact ⟨hm 0, IArg.nil _ _, by simp [badLL]⟩
  · exact ⟨hm 1, i1.below hb, by simp [badLL]⟩
  · exact ⟨hm 2, i2.below hb, by simp [badLL]⟩
  · exact ⟨hm 3, i3.below hb, by simp [badLL]⟩
  · exact ⟨hm 4, i4.below hb, by simp [badLL]⟩

def prs : List (Int × Int) := [(-1, 0), (0, -1), (2, 0), (-1, -1), (5, -1), (-2, 0), (1, -2)]
theorem prs_chg : ∀ i (h : i < prs.length), chgE [0] prs[i].1 prs[i].2 = 2 := by decide +kernel
theorem prs_cells (w : World) : ∀ i (h : i < prs.length), (w.alloc (.cells #[.int .i64 (-1), .int .i64 0, .int .i64 0, .int .i64 (-1), .int .i64 2, .int .i64 0, .int .i64 (-1), .int .i64 (-1), .int .i64 5, .int .i64 (-1), .int .i64 (-2), .int .i64 0, .int .i64 1, .int .i64 (-2)] 33)).cell? ⟨w.heap.size, i * 2, none⟩ = some (.int .i64 prs[i].1) ∧ (w.alloc (.cells #[.int .i64 (-1), .int .i64 0, .int .i64 0, .int .i64 (-1), .int .i64 2, .int .i64 0, .int .i64 (-1), .int .i64 (-1), .int .i64 5, .int .i64 (-1), .int .i64 (-2), .int .i64 0, .int .i64 1, .int .i64 (-2)] 33)).cell? ⟨w.heap.size, i * 2 + 1, none⟩ = some (.int .i64 prs[i].2) := by
  intro i hi
  have hm := (mcells (heap_alloc_new w (.cells #[.int .i64 (-1), .int .i64 0, .int .i64 0, .int .i64 (-1), .int .i64 2, .int .i64 0, .int .i64 (-1), .int .i64 (-1), .int .i64 5, .int .i64 (-1), .int .i64 (-2), .int .i64 0, .int .i64 1, .int .i64 (-2)] 33))).1
  rw [hm, hm]
  rcases (by simp [prs] at hi; omega : i = 0 ∨ i = 1 ∨ i = 2 ∨ i = 3 ∨ i = 4 ∨ i = 5 ∨ i = 6) with rfl | rfl | rfl | rfl | rfl | rfl | rfl <;> exact ⟨rfl, rfl⟩

set_option maxHeartbeats 16000000 in
set_option maxRecDepth 100000 in
theorem QKnown_any (w : World) : Calls Try.prog 3 #[] w fun e w' => e = .returned (.bool true) ∧ Below w.heap.size w w' := by
  have hL := bad_lla w
  have hb0 := bel_alloc (bel_alloc (bel_alloc (bel_alloc (bel_alloc (Below.refl w.heap.size w) (Nat.le_refl _) (.cells #[.int .i64 1, .int .i64 0] 3)) (Nat.le_refl _) (.cells #[.int .i64 0, .int .i64 0] 3)) (Nat.le_refl _) (.cells #[.int .i64 5] 3)) (Nat.le_refl _) (.cells #[.int .i64 (-1)] 3)) (Nat.le_refl _) (.cells #[.slice none 0 0, .slice (some ⟨w.heap.size, 0, none⟩) 2 2, .slice (some ⟨w.heap.size + 1, 0, none⟩) 2 2, .slice (some ⟨w.heap.size + 1 + 1, 0, none⟩) 1 1, .slice (some ⟨w.heap.size + 1 + 1 + 1, 0, none⟩) 1 1] 22)
  go_enter Try.func3, Try.ntmps3
  go_wp2
  generalize ((((w.alloc (.cells #[.int .i64 1, .int .i64 0] 3)).alloc (.cells #[.int .i64 0, .int .i64 0] 3)).alloc (.cells #[.int .i64 5] 3)).alloc (.cells #[.int .i64 (-1)] 3)).alloc (.cells #[.slice none 0 0, .slice (some ⟨w.heap.size, 0, none⟩) 2 2, .slice (some ⟨w.heap.size + 1, 0, none⟩) 2 2, .slice (some ⟨w.heap.size + 1 + 1, 0, none⟩) 1 1, .slice (some ⟨w.heap.size + 1 + 1 + 1, 0, none⟩) 1 1] 22) = W at *
  obtain ⟨N, hN⟩ : ∃ N, N = w.heap.size := ⟨_, rfl⟩
  go_loopw [2] (fun s2 wr => ∃ i : Nat, s2 = .int .i64 (i : Int) ∧ i ≤ 5 ∧ Below w.heap.size w wr ∧ LLA wr (w.heap.size + 1 + 1 + 1 + 1) (badLL w.heap.size)) (fun s2 _ => 5 - (intOf s2).toNat)
  case atStart => exact ⟨0, rfl, Nat.zero_le _, hb0, hL⟩
  case round =>
    obtain ⟨i, rfl, hi, hbr, hLr⟩ := hrel
    clear hL hb0
    by_cases hlt : i < 5
    · have hi1 : (i : Int) < 5 := by omega
      have hch := bad_chk i hlt
      obtain ⟨c0, hI, hll⟩ := hLr i hlt
      have hg := badLL_get w.heap.size i hlt hlt
      obtain ⟨t, ht⟩ : ∃ t, t = (badLL w.heap.size)[i] := ⟨_, rfl⟩
      rw [← ht] at c0 hI hll hg
      obtain ⟨q, cq, l⟩ := t
      dsimp only at c0 hI hll hg
      rw [← hg] at hch
      have HLR : Hid _ := hLr
      clear ht hg hLr
      obtain ⟨hcl, hce⟩ := chg_bad hch 3 (-1)
      have hC := Change_any q cq l 3 (-1) wr hI hll
      unfold ChgQ at hC
      rw [hcl, hce] at hC
      go_wp2_with fail
      refine hC.mono ?_
      rintro e w1 ⟨⟨q1, k1, rfl, hI1⟩, hb1⟩
      have hI := hI.below hb1
      have c1 := cell_below hb1 c0
      have hB1 := below2 hbr hb1
      have hZ1 := hb1
      have hK := Check_any q cq l w1 hI hll
      rw [hch, if_neg (by simp)] at hK
      clear hC hI1 hcl hce
      go_wp2_with fail
      refine hK.mono ?_
      rintro e w2 ⟨rfl, hb2⟩
      have hI := hI.below hb2
      have c2 := cell_below hb2 c1
      have hB2 := below2 hB1 hb2
      have hZ2 := below2 hZ1 hb2
      clear hK c1 hb1 hB1
      have hJ : IArg (w2.alloc (.cells #[.int .i64 0, .int .i64 1, .int .i64 5, .int .i64 (-1)] 3)) (some ⟨w2.heap.size, 0, none⟩) [0, 1, 5, -1] := iarg_new w2 [0, 1, 5, -1] 3
      have hba := bel_alloc (Below.refl w2.heap.size w2) (Nat.le_refl _) (.cells #[.int .i64 0, .int .i64 1, .int .i64 5, .int .i64 (-1)] 3)
      have hW := Wins_any q cq l (some ⟨w2.heap.size, 0, none⟩) 4 [0, 1, 5, -1] _ (hI.below hba) hll hJ (by simp)
      rw [win_bad hch] at hW
      go_wp2_with fail
      refine hW.mono ?_
      rintro e w3 ⟨rfl, hb3⟩
      have hI := (hI.below hba).below hb3
      have c3 := cell_below hb3 (cell_below hba c2)
      have hB3 := below2 hB2 (below2 hba hb3)
      have hZ3 := below2 hZ2 (below2 hba hb3)
      clear hW hJ c2 hB2 hba hb3
      have hJ : UArg (w3.alloc (.cells #[.int .u64 7, .int .u64 7] 29)) (some ⟨w3.heap.size, 0, none⟩) [7, 7] := uarg_new w3 [7, 7] 29
      have hba := bel_alloc (Below.refl w3.heap.size w3) (Nat.le_refl _) (.cells #[.int .u64 7, .int .u64 7] 29)
      have hW := Commit_any q cq l (some ⟨w3.heap.size, 0, none⟩) 2 [7, 7] _ (hI.below hba) hll hJ
      go_wp2_with fail
      refine hW.mono ?_
      rintro e w4 ⟨⟨k, rfl, hk, _⟩, hb4⟩
      obtain rfl : k = 0 := hk hch
      have hI := (hI.below hba).below hb4
      have c4 := cell_below hb4 (cell_below hba c3)
      have hB4 := below2 hB3 (below2 hba hb4)
      have hZ4 := below2 hZ3 (below2 hba hb4)
      clear hW hJ c3 hB3 hba hb4 hk
      have hJ : IArg (w4.alloc (.cells #[.int .i64 0] 3)) (some ⟨w4.heap.size, 0, none⟩) [0] := iarg_new w4 [0] 3
      have hba := bel_alloc (Below.refl w4.heap.size w4) (Nat.le_refl _) (.cells #[.int .i64 0] 3)
      have hW := Meet_any q cq l (some ⟨w4.heap.size, 0, none⟩) 1 [0] _ (hI.below hba) hll hJ (by simp)
      rw [(meet_bad hch [0]).1] at hW
      go_wp2_with fail
      refine hW.mono ?_
      rintro e w5 ⟨rfl, hb5⟩
      have hI := (hI.below hba).below hb5
      have c5 := cell_below hb5 (cell_below hba c4)
      have hB5 := below2 hB4 (below2 hba hb5)
      have hZ5 := below2 hZ4 (below2 hba hb5)
      clear hW hJ c4 hB4 hba hb5
      have hJ : IArg (w5.alloc (.cells #[.int .i64 0] 3)) (some ⟨w5.heap.size, 0, none⟩) [0] := iarg_new w5 [0] 3
      have hba := bel_alloc (Below.refl w5.heap.size w5) (Nat.le_refl _) (.cells #[.int .i64 0] 3)
      have c6 := cell_below hba c5
      have hW := Meet_any (some ⟨w5.heap.size, 0, none⟩) 1 [0] q cq l _ hJ (by simp) (hI.below hba) hll
      rw [(meet_bad hch [0]).2] at hW
      go_wp2_with fail
      refine hW.mono ?_
      rintro e w6 ⟨rfl, hb6⟩
      have hB6 := below2 hB5 (below2 hba hb6)
      have hLz : Hid (Below wr.heap.size wr w6) := below2 hZ5 (below2 hba hb6)
      clear hW hJ c5 c6 hba hb6
      go_wp2
      go_roundw
      case rel => exact ⟨i + 1, by go_num, by omega, hB6, LLA.below HLR.out hLz.out⟩
      case measure => simp [intOf]; omega
    · obtain rfl : i = 5 := by omega
      clear hLr
      have hba := bel_alloc hbr (Nat.le_refl _) (.cells #[.int .i64 0, .int .i64 1] 3)
      have hW := fun q c w => Most_any q c [0, 1] w (by simp)
      rw [show most [0, 1] = 2 from rfl] at hW
      go_wp2_with fail
      refine (hW _ _ _).mono ?_
      rintro e v21 ⟨rfl, hv⟩
      have hV21 : Below w.heap.size w v21 := by rw [hv]; exact hba
      clear hW hba hv hbr
      have hba := bel_alloc hV21 (Nat.le_refl _) (.cells #[.int .i64 0] 3)
      have hW := fun q c w => Most_any q c [0] w (by simp)
      rw [show most [0] = 1 from rfl] at hW
      go_wp2_with fail
      refine (hW _ _ _).mono ?_
      rintro e v22 ⟨rfl, hv⟩
      have hV22 : Below w.heap.size w v22 := by rw [hv]; exact hba
      clear hW hba hv hV21
      have hW := fun q c w => Most_any q c [] w (by simp)
      rw [show most [] = 1 from rfl] at hW
      go_wp2_with fail
      refine (hW _ _ _).mono ?_
      rintro e v23 ⟨rfl, hv⟩
      have hV23 : Below w.heap.size w v23 := by rw [hv]; exact hV22
      clear hW hv hV22
      have hA : IArg (v23.alloc (.cells #[.int .i64 0] 3)) (some ⟨v23.heap.size, 0, none⟩) [0] := iarg_new v23 [0] 3
      have hba := bel_alloc (Below.refl v23.heap.size v23) (Nat.le_refl _) (.cells #[.int .i64 0] 3)
      have hes : (v23.alloc (.cells #[.int .i64 0] 3)).heap.size = v23.heap.size + 1 := by simp
      have hB : IArg ((v23.alloc (.cells #[.int .i64 0] 3)).alloc (.cells #[.int .i64 0] 3)) (some ⟨(v23.alloc (.cells #[.int .i64 0] 3)).heap.size, 0, none⟩) [0] := iarg_new (v23.alloc (.cells #[.int .i64 0] 3)) [0] 3
      rw [hes] at hB
      have hbb := bel_alloc hba (Nat.le_refl _) (.cells #[.int .i64 0] 3)
      have hA := hA.below ((Below.refl _ _).alloc (Nat.le_refl _) (.cells #[.int .i64 0] 3))
      have hW := Wins_any (some ⟨v23.heap.size, 0, none⟩) 1 [0] (some ⟨v23.heap.size + 1, 0, none⟩) 1 [0] _ hA (by simp) hB (by simp)
      rw [show win [0] [0] = true from by decide +kernel] at hW
      go_wp2_with fail
      refine hW.mono ?_
      rintro e v24 ⟨rfl, hb⟩
      have hV24 := below2 hV23 (below2 hbb hb)
      clear hW hA hB hba hbb hes hb hV23
      have hA : IArg (v24.alloc (.cells #[.int .i64 0, .int .i64 1, .int .i64 2] 3)) (some ⟨v24.heap.size, 0, none⟩) [0, 1, 2] := iarg_new v24 [0, 1, 2] 3
      have hba := bel_alloc (Below.refl v24.heap.size v24) (Nat.le_refl _) (.cells #[.int .i64 0, .int .i64 1, .int .i64 2] 3)
      have hes : (v24.alloc (.cells #[.int .i64 0, .int .i64 1, .int .i64 2] 3)).heap.size = v24.heap.size + 1 := by simp
      have hB : IArg ((v24.alloc (.cells #[.int .i64 0, .int .i64 1, .int .i64 2] 3)).alloc (.cells #[.int .i64 3, .int .i64 4] 3)) (some ⟨(v24.alloc (.cells #[.int .i64 0, .int .i64 1, .int .i64 2] 3)).heap.size, 0, none⟩) [3, 4] := iarg_new (v24.alloc (.cells #[.int .i64 0, .int .i64 1, .int .i64 2] 3)) [3, 4] 3
      rw [hes] at hB
      have hbb := bel_alloc hba (Nat.le_refl _) (.cells #[.int .i64 3, .int .i64 4] 3)
      have hA := hA.below ((Below.refl _ _).alloc (Nat.le_refl _) (.cells #[.int .i64 3, .int .i64 4] 3))
      have hW := Wins_any (some ⟨v24.heap.size, 0, none⟩) 3 [0, 1, 2] (some ⟨v24.heap.size + 1, 0, none⟩) 2 [3, 4] _ hA (by simp) hB (by simp)
      rw [show win [0, 1, 2] [3, 4] = false from by decide +kernel] at hW
      go_wp2_with fail
      refine hW.mono ?_
      rintro e v25 ⟨rfl, hb⟩
      have hV25 := below2 hV24 (below2 hbb hb)
      clear hW hA hB hba hbb hes hb hV24
      have hA : IArg (v25.alloc (.cells #[.int .i64 0, .int .i64 1] 3)) (some ⟨v25.heap.size, 0, none⟩) [0, 1] := iarg_new v25 [0, 1] 3
      have hba := bel_alloc (Below.refl v25.heap.size v25) (Nat.le_refl _) (.cells #[.int .i64 0, .int .i64 1] 3)
      have hes : (v25.alloc (.cells #[.int .i64 0, .int .i64 1] 3)).heap.size = v25.heap.size + 1 := by simp
      have hB : UArg ((v25.alloc (.cells #[.int .i64 0, .int .i64 1] 3)).alloc (.cells #[.int .u64 5, .int .u64 3] 29)) (some ⟨(v25.alloc (.cells #[.int .i64 0, .int .i64 1] 3)).heap.size, 0, none⟩) [5, 3] := uarg_new (v25.alloc (.cells #[.int .i64 0, .int .i64 1] 3)) [5, 3] 29
      rw [hes] at hB
      have hbb := bel_alloc hba (Nat.le_refl _) (.cells #[.int .u64 5, .int .u64 3] 29)
      have hA := hA.below ((Below.refl _ _).alloc (Nat.le_refl _) (.cells #[.int .u64 5, .int .u64 3] 29))
      have hW := Commit_any (some ⟨v25.heap.size, 0, none⟩) 2 [0, 1] (some ⟨v25.heap.size + 1, 0, none⟩) 2 [5, 3] _ hA (by simp) hB
      go_wp2_with fail
      refine hW.mono ?_
      rintro e v26 ⟨⟨c, rfl, _, hc⟩, hb⟩
      have hcc : c = 3 := (hc (by decide +kernel)).eq (d := 3) (by unfold IsCom; decide +kernel)
      clear hc
      subst hcc
      have hV26 := below2 hV25 (below2 hbb hb)
      clear hW hA hB hba hbb hes hb hV25
      have hA : IArg (v26.alloc (.cells #[.int .i64 0, .int .i64 1, .int .i64 2] 3)) (some ⟨v26.heap.size, 0, none⟩) [0, 1, 2] := iarg_new v26 [0, 1, 2] 3
      have hba := bel_alloc (Below.refl v26.heap.size v26) (Nat.le_refl _) (.cells #[.int .i64 0, .int .i64 1, .int .i64 2] 3)
      have hes : (v26.alloc (.cells #[.int .i64 0, .int .i64 1, .int .i64 2] 3)).heap.size = v26.heap.size + 1 := by simp
      have hB : UArg ((v26.alloc (.cells #[.int .i64 0, .int .i64 1, .int .i64 2] 3)).alloc (.cells #[.int .u64 7] 29)) (some ⟨(v26.alloc (.cells #[.int .i64 0, .int .i64 1, .int .i64 2] 3)).heap.size, 0, none⟩) [7] := uarg_new (v26.alloc (.cells #[.int .i64 0, .int .i64 1, .int .i64 2] 3)) [7] 29
      rw [hes] at hB
      have hbb := bel_alloc hba (Nat.le_refl _) (.cells #[.int .u64 7] 29)
      have hA := hA.below ((Below.refl _ _).alloc (Nat.le_refl _) (.cells #[.int .u64 7] 29))
      have hW := Commit_any (some ⟨v26.heap.size, 0, none⟩) 3 [0, 1, 2] (some ⟨v26.heap.size + 1, 0, none⟩) 1 [7] _ hA (by simp) hB
      go_wp2_with fail
      refine hW.mono ?_
      rintro e v27 ⟨⟨c, rfl, _, hc⟩, hb⟩
      have hcc : c = 0 := (hc (by decide +kernel)).eq (d := 0) (by unfold IsCom; decide +kernel)
      clear hc
      subst hcc
      have hV27 := below2 hV26 (below2 hbb hb)
      clear hW hA hB hba hbb hes hb hV26
      have hA : IArg (v27.alloc (.cells #[.int .i64 0] 3)) (some ⟨v27.heap.size, 0, none⟩) [0] := iarg_new v27 [0] 3
      have hba := bel_alloc (Below.refl v27.heap.size v27) (Nat.le_refl _) (.cells #[.int .i64 0] 3)
      have hes : (v27.alloc (.cells #[.int .i64 0] 3)).heap.size = v27.heap.size + 1 := by simp
      have hB : UArg ((v27.alloc (.cells #[.int .i64 0] 3)).alloc (.cells #[.int .u64 7, .int .u64 9] 29)) (some ⟨(v27.alloc (.cells #[.int .i64 0] 3)).heap.size, 0, none⟩) [7, 9] := uarg_new (v27.alloc (.cells #[.int .i64 0] 3)) [7, 9] 29
      rw [hes] at hB
      have hbb := bel_alloc hba (Nat.le_refl _) (.cells #[.int .u64 7, .int .u64 9] 29)
      have hA := hA.below ((Below.refl _ _).alloc (Nat.le_refl _) (.cells #[.int .u64 7, .int .u64 9] 29))
      have hW := Commit_any (some ⟨v27.heap.size, 0, none⟩) 1 [0] (some ⟨v27.heap.size + 1, 0, none⟩) 2 [7, 9] _ hA (by simp) hB
      go_wp2_with fail
      refine hW.mono ?_
      rintro e v28 ⟨⟨c, rfl, _, hc⟩, hb⟩
      have hcc : c = 7 := (hc (by decide +kernel)).eq (d := 7) (by unfold IsCom; decide +kernel)
      clear hc
      subst hcc
      have hV28 := below2 hV27 (below2 hbb hb)
      clear hW hA hB hba hbb hes hb hV27
      go_wp2
      have hPS := prs_cells v28
      have hV29 := bel_alloc hV28 (Nat.le_refl _) (.cells #[.int .i64 (-1), .int .i64 0, .int .i64 0, .int .i64 (-1), .int .i64 2, .int .i64 0, .int .i64 (-1), .int .i64 (-1), .int .i64 5, .int .i64 (-1), .int .i64 (-2), .int .i64 0, .int .i64 1, .int .i64 (-2)] 33)
      generalize v28.alloc (.cells #[.int .i64 (-1), .int .i64 0, .int .i64 0, .int .i64 (-1), .int .i64 2, .int .i64 0, .int .i64 (-1), .int .i64 (-1), .int .i64 5, .int .i64 (-1), .int .i64 (-2), .int .i64 0, .int .i64 1, .int .i64 (-2)] 33) = V at *
      go_loopw [127] (fun s127 wr => ∃ i : Nat, s127 = .int .i64 (i : Int) ∧ i ≤ 7 ∧ Below V.heap.size V wr) (fun s127 _ => 7 - (intOf s127).toNat)
      case atStart => exact ⟨0, rfl, Nat.zero_le _, Below.refl _ _⟩
      case round =>
        obtain ⟨i, rfl, hi, hbr⟩ := hrel
        by_cases hlt : i < 7
        · have hi1 : (i : Int) < 7 := by omega
          obtain ⟨d0, d1⟩ := hPS i hlt
          have d0 := cell_below hbr d0
          have d1 := cell_below hbr d1
          have hE := prs_chg i hlt
          obtain ⟨x, hx⟩ : ∃ x, x = prs[i].1 := ⟨_, rfl⟩
          obtain ⟨y, hy⟩ : ∃ y, y = prs[i].2 := ⟨_, rfl⟩
          rw [← hx] at d0 hE
          rw [← hy] at d1 hE
          clear hx hy
          have hm0 := (mcells (heap_alloc_new wr (.cells #[.int .i64 x, .int .i64 y] 33))).1 0
          have hm1 := (mcells (heap_alloc_new wr (.cells #[.int .i64 x, .int .i64 y] 33))).1 1
          have hz0 := (mcells (heap_alloc_new wr (.cells #[.int .i64 0, .int .i64 0] 33))).1 0
          have hz1 := (mcells (heap_alloc_new wr (.cells #[.int .i64 0, .int .i64 0] 33))).1 1
          have hzf := (mcells (heap_alloc_new wr (.cells #[.int .i64 0, .int .i64 0] 33))).2
          have hba := bel_alloc hbr (Nat.le_refl _) (.cells #[.int .i64 x, .int .i64 y] 33)
          have hA : IArg ((wr.alloc (.cells #[.int .i64 x, .int .i64 y] 33)).alloc (.cells #[.int .i64 0] 3)) (some ⟨(wr.alloc (.cells #[.int .i64 x, .int .i64 y] 33)).heap.size, 0, none⟩) [0] := iarg_new (wr.alloc (.cells #[.int .i64 x, .int .i64 y] 33)) [0] 3
          have hes : (wr.alloc (.cells #[.int .i64 x, .int .i64 y] 33)).heap.size = wr.heap.size + 1 := by simp
          rw [hes] at hA
          have hbb := bel_alloc hba (Nat.le_refl _) (.cells #[.int .i64 0] 3)
          have hp0 := cell_old (x := .cells #[.int .i64 0] 3) hm0
          have hp1 := cell_old (x := .cells #[.int .i64 0] 3) hm1
          have hC := Change_any (some ⟨wr.heap.size + 1, 0, none⟩) 1 [0] x y _ hA (by simp)
          unfold ChgQ at hC
          rw [hE] at hC
          clear hE
          go_wp2_with fail
          refine hC.mono ?_
          rintro e w1 ⟨⟨q1, k1, rfl, hI1⟩, hb1⟩
          have hB1 := below2 hbb hb1
          clear hC hA hm0 hm1 hz0 hz1 hzf hp0 hp1 hba hbb hb1 d0 d1 hI1
          go_wp2
          go_roundw
          case rel => exact ⟨i + 1, by go_num, by omega, hB1⟩
          case measure => simp [intOf]; omega
        · obtain rfl : i = 7 := by omega
          have hV40 := below2 hV29 hbr
          clear hbr hPS hV29
          obtain ⟨v40, hv40⟩ : ∃ v40, v40 = wr := ⟨_, rfl⟩
          rw [← hv40] at hV40 ⊢
          clear hv40
          have hA : IArg (v40.alloc (.cells #[.int .i64 0, .int .i64 1, .int .i64 2] 3)) (some ⟨v40.heap.size, 0, none⟩) [0, 1, 2] := iarg_new v40 [0, 1, 2] 3
          have hba := bel_alloc (Below.refl v40.heap.size v40) (Nat.le_refl _) (.cells #[.int .i64 0, .int .i64 1, .int .i64 2] 3)
          have hes : (v40.alloc (.cells #[.int .i64 0, .int .i64 1, .int .i64 2] 3)).heap.size = v40.heap.size + 1 := by simp
          have hB : IArg ((v40.alloc (.cells #[.int .i64 0, .int .i64 1, .int .i64 2] 3)).alloc (.cells #[.int .i64 0, .int .i64 1, .int .i64 2, .int .i64 3] 3)) (some ⟨(v40.alloc (.cells #[.int .i64 0, .int .i64 1, .int .i64 2] 3)).heap.size, 0, none⟩) [0, 1, 2, 3] := iarg_new (v40.alloc (.cells #[.int .i64 0, .int .i64 1, .int .i64 2] 3)) [0, 1, 2, 3] 3
          rw [hes] at hB
          have hbb := bel_alloc hba (Nat.le_refl _) (.cells #[.int .i64 0, .int .i64 1, .int .i64 2, .int .i64 3] 3)
          have hA := hA.below ((Below.refl _ _).alloc (Nat.le_refl _) (.cells #[.int .i64 0, .int .i64 1, .int .i64 2, .int .i64 3] 3))
          have hW := Meet_any (some ⟨v40.heap.size, 0, none⟩) 3 [0, 1, 2] (some ⟨v40.heap.size + 1, 0, none⟩) 4 [0, 1, 2, 3] _ hA (by simp) hB (by simp)
          rw [show meet [0, 1, 2] [0, 1, 2, 3] = true from by decide +kernel] at hW
          go_wp2_with fail
          refine hW.mono ?_
          rintro e v41 ⟨rfl, hb⟩
          have hV41 := below2 hV40 (below2 hbb hb)
          clear hW hA hB hba hbb hes hb hV40
          have hA : IArg (v41.alloc (.cells #[.int .i64 0, .int .i64 1] 3)) (some ⟨v41.heap.size, 0, none⟩) [0, 1] := iarg_new v41 [0, 1] 3
          have hba := bel_alloc (Below.refl v41.heap.size v41) (Nat.le_refl _) (.cells #[.int .i64 0, .int .i64 1] 3)
          have hes : (v41.alloc (.cells #[.int .i64 0, .int .i64 1] 3)).heap.size = v41.heap.size + 1 := by simp
          have hB : IArg ((v41.alloc (.cells #[.int .i64 0, .int .i64 1] 3)).alloc (.cells #[.int .i64 2, .int .i64 3] 3)) (some ⟨(v41.alloc (.cells #[.int .i64 0, .int .i64 1] 3)).heap.size, 0, none⟩) [2, 3] := iarg_new (v41.alloc (.cells #[.int .i64 0, .int .i64 1] 3)) [2, 3] 3
          rw [hes] at hB
          have hbb := bel_alloc hba (Nat.le_refl _) (.cells #[.int .i64 2, .int .i64 3] 3)
          have hA := hA.below ((Below.refl _ _).alloc (Nat.le_refl _) (.cells #[.int .i64 2, .int .i64 3] 3))
          have hW := Meet_any (some ⟨v41.heap.size, 0, none⟩) 2 [0, 1] (some ⟨v41.heap.size + 1, 0, none⟩) 2 [2, 3] _ hA (by simp) hB (by simp)
          rw [show meet [0, 1] [2, 3] = false from by decide +kernel] at hW
          go_wp2_with fail
          refine hW.mono ?_
          rintro e v42 ⟨rfl, hb⟩
          have hV42 := below2 hV41 (below2 hbb hb)
          clear hW hA hB hba hbb hes hb hV41
          have hA : IArg (v42.alloc (.cells #[.int .i64 0, .int .i64 1, .int .i64 2] 3)) (some ⟨v42.heap.size, 0, none⟩) [0, 1, 2] := iarg_new v42 [0, 1, 2] 3
          have hba := bel_alloc (Below.refl v42.heap.size v42) (Nat.le_refl _) (.cells #[.int .i64 0, .int .i64 1, .int .i64 2] 3)
          have hes : (v42.alloc (.cells #[.int .i64 0, .int .i64 1, .int .i64 2] 3)).heap.size = v42.heap.size + 1 := by simp
          have hB : IArg ((v42.alloc (.cells #[.int .i64 0, .int .i64 1, .int .i64 2] 3)).alloc (.cells #[.int .i64 2, .int .i64 3, .int .i64 4] 3)) (some ⟨(v42.alloc (.cells #[.int .i64 0, .int .i64 1, .int .i64 2] 3)).heap.size, 0, none⟩) [2, 3, 4] := iarg_new (v42.alloc (.cells #[.int .i64 0, .int .i64 1, .int .i64 2] 3)) [2, 3, 4] 3
          rw [hes] at hB
          have hbb := bel_alloc hba (Nat.le_refl _) (.cells #[.int .i64 2, .int .i64 3, .int .i64 4] 3)
          have hA := hA.below ((Below.refl _ _).alloc (Nat.le_refl _) (.cells #[.int .i64 2, .int .i64 3, .int .i64 4] 3))
          have hW := Meet_any (some ⟨v42.heap.size, 0, none⟩) 3 [0, 1, 2] (some ⟨v42.heap.size + 1, 0, none⟩) 3 [2, 3, 4] _ hA (by simp) hB (by simp)
          rw [show meet [0, 1, 2] [2, 3, 4] = false from by decide +kernel] at hW
          go_wp2_with fail
          refine hW.mono ?_
          rintro e v43 ⟨rfl, hb⟩
          have hV43 := below2 hV42 (below2 hbb hb)
          clear hW hA hB hba hbb hes hb hV42
          have hA : IArg (v43.alloc (.cells #[.int .i64 0] 3)) (some ⟨v43.heap.size, 0, none⟩) [0] := iarg_new v43 [0] 3
          have hba := bel_alloc (Below.refl v43.heap.size v43) (Nat.le_refl _) (.cells #[.int .i64 0] 3)
          have hes : (v43.alloc (.cells #[.int .i64 0] 3)).heap.size = v43.heap.size + 1 := by simp
          have hB : IArg ((v43.alloc (.cells #[.int .i64 0] 3)).alloc (.cells #[.int .i64 0, .int .i64 1] 3)) (some ⟨(v43.alloc (.cells #[.int .i64 0] 3)).heap.size, 0, none⟩) [0, 1] := iarg_new (v43.alloc (.cells #[.int .i64 0] 3)) [0, 1] 3
          rw [hes] at hB
          have hbb := bel_alloc hba (Nat.le_refl _) (.cells #[.int .i64 0, .int .i64 1] 3)
          have hA := hA.below ((Below.refl _ _).alloc (Nat.le_refl _) (.cells #[.int .i64 0, .int .i64 1] 3))
          have hW := Meet_any (some ⟨v43.heap.size, 0, none⟩) 1 [0] (some ⟨v43.heap.size + 1, 0, none⟩) 2 [0, 1] _ hA (by simp) hB (by simp)
          rw [show meet [0] [0, 1] = true from by decide +kernel] at hW
          go_wp2_with fail
          refine hW.mono ?_
          rintro e v44 ⟨rfl, hb⟩
          have hV44 := below2 hV43 (below2 hbb hb)
          clear hW hA hB hba hbb hes hb hV43
          go_wp2_with fail
          refine (works_any v44).mono ?_
          rintro e v99 ⟨rfl, hb⟩
          have hV99 := below2 hV44 hb
          go_wp2
          go_ret
          exact ⟨rfl, hV99⟩

end Go.Proofs.Ytdoiknfpgmglaab
