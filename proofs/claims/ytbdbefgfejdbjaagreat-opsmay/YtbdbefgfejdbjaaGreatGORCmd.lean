/-
  The document's Cmd, for some kinds. Written by mkorcmd.py.
  The document's Cmd: may a command be?
-/
import Derived.Test.YtbdbefgfejdbjaaGreatGORCm1
import Derived.Test.YtbdbefgfejdbjaaGreatORCm3
import Derived.Test.YtbdbefgfejdbjaaGreatORCm5
namespace Go.Proofs.YtbdbefgfejdbjaaGreat
open Go.RowKit Go.BigFrame
attribute [local go_sem] size_bstr toList_bstr

set_option maxHeartbeats 16000000 in
set_option maxRecDepth 100000 in
theorem RCmdO_any (c : Cm) (w : World) (HK : Hid (c.k ≠ 1 ∧ c.k ≠ 3 ∧ c.k ≠ 5)) : Calls Tryz.prog 11 #[cmV c] w fun e w' => e = .returned (.int .i64 (if okC c then 0 else 2)) ∧ Below w.heap.size w w' := by
  obtain ⟨k, cl, sq, ep, op, pr, st, key, val, gr, wt⟩ := c
  obtain ⟨ok, hok⟩ : ∃ ok, ok = okC ⟨k, cl, sq, ep, op, pr, st, key, val, gr, wt⟩ := ⟨_, rfl⟩
  rw [← hok]
  have HOK : Hid (ok = (goodC ⟨k, cl, sq, ep, op, pr, st, key, val, gr, wt⟩ && decide (keepC ⟨k, cl, sq, ep, op, pr, st, key, val, gr, wt⟩ = ⟨k, cl, sq, ep, op, pr, st, key, val, gr, wt⟩))) := by
    show _ = _
    rw [hok, ← keep_rest]
    rfl
  clear hok
  have hA : Below w.heap.size w ((w.alloc (.cells (cmC ⟨k, cl, sq, ep, op, pr, st, key, val, gr, wt⟩).toArray 28)).alloc (.cells #[.int .i64 0, .int .i64 0, .int .u64 0, .int .u64 0, .int .i64 0, .string ⟨#[]⟩, .string ⟨#[]⟩, .string ⟨#[]⟩, .bool false, .string ⟨#[]⟩, .int .u64 0, .int .i64 0, .string ⟨#[]⟩, .string ⟨#[]⟩, .int .i64 0, .bool false, .int .i64 0, .string ⟨#[]⟩, .int .i64 0, .int .i64 0] 28)) := ((Below.refl _ _).alloc (Nat.le_refl _) _).alloc (by simp) _
  have hz : Blk ((w.alloc (.cells (cmC ⟨k, cl, sq, ep, op, pr, st, key, val, gr, wt⟩).toArray 28)).alloc (.cells #[.int .i64 0, .int .i64 0, .int .u64 0, .int .u64 0, .int .i64 0, .string ⟨#[]⟩, .string ⟨#[]⟩, .string ⟨#[]⟩, .bool false, .string ⟨#[]⟩, .int .u64 0, .int .i64 0, .string ⟨#[]⟩, .string ⟨#[]⟩, .int .i64 0, .bool false, .int .i64 0, .string ⟨#[]⟩, .int .i64 0, .int .i64 0] 28)) (w.heap.size + 1) 28 #[.int .i64 0, .int .i64 0, .int .u64 0, .int .u64 0, .int .i64 0, .string ⟨#[]⟩, .string ⟨#[]⟩, .string ⟨#[]⟩, .bool false, .string ⟨#[]⟩, .int .u64 0, .int .i64 0, .string ⟨#[]⟩, .string ⟨#[]⟩, .int .i64 0, .bool false, .int .i64 0, .string ⟨#[]⟩, .int .i64 0, .int .i64 0] := by
    have := blk_new (w.alloc (.cells (cmC ⟨k, cl, sq, ep, op, pr, st, key, val, gr, wt⟩).toArray 28)) 28 #[.int .i64 0, .int .i64 0, .int .u64 0, .int .u64 0, .int .i64 0, .string ⟨#[]⟩, .string ⟨#[]⟩, .string ⟨#[]⟩, .bool false, .string ⟨#[]⟩, .int .u64 0, .int .i64 0, .string ⟨#[]⟩, .string ⟨#[]⟩, .int .i64 0, .bool false, .int .i64 0, .string ⟨#[]⟩, .int .i64 0, .int .i64 0]
    rw [World.size_alloc] at this
    exact this
  obtain ⟨w1, hw1⟩ : ∃ w1, w1 = ((w.alloc (.cells (cmC ⟨k, cl, sq, ep, op, pr, st, key, val, gr, wt⟩).toArray 28)).alloc (.cells #[.int .i64 0, .int .i64 0, .int .u64 0, .int .u64 0, .int .i64 0, .string ⟨#[]⟩, .string ⟨#[]⟩, .string ⟨#[]⟩, .bool false, .string ⟨#[]⟩, .int .u64 0, .int .i64 0, .string ⟨#[]⟩, .string ⟨#[]⟩, .int .i64 0, .bool false, .int .i64 0, .string ⟨#[]⟩, .int .i64 0, .int .i64 0] 28)).setCells (w.heap.size + 1) 0 (#[.int .i64 k, .int .i64 0, .int .u64 0, .int .u64 0, .int .i64 0, .string ⟨#[]⟩, .string ⟨#[]⟩, .string ⟨#[]⟩, .bool false, .string ⟨#[]⟩, .int .u64 0, .int .i64 0, .string ⟨#[]⟩, .string ⟨#[]⟩, .int .i64 0, .bool false, .int .i64 0, .string ⟨#[]⟩, .int .i64 0, .int .i64 0] : Array Value).toList := ⟨_, rfl⟩
  have hb1 : Below w.heap.size w w1 := by rw [hw1]; exact bel_cells (Nat.le_succ _) _ _ hA
  have hy1 : Blk w1 (w.heap.size + 1) 28 (cmC ⟨k, 0, 0, 0, oq0, 0, 0, [], [], 0, wt0⟩).toArray := by
    rw [hw1]
    have h5 := blk_cells [.int .i64 k, .int .i64 0, .int .u64 0, .int .u64 0, .int .i64 0, .string ⟨#[]⟩, .string ⟨#[]⟩, .string ⟨#[]⟩, .bool false, .string ⟨#[]⟩, .int .u64 0, .int .i64 0, .string ⟨#[]⟩, .string ⟨#[]⟩, .int .i64 0, .bool false, .int .i64 0, .string ⟨#[]⟩, .int .i64 0, .int .i64 0] 0 hz
    rw [setL_all (vs := [.int .i64 k, .int .i64 0, .int .u64 0, .int .u64 0, .int .i64 0, .string ⟨#[]⟩, .string ⟨#[]⟩, .string ⟨#[]⟩, .bool false, .string ⟨#[]⟩, .int .u64 0, .int .i64 0, .string ⟨#[]⟩, .string ⟨#[]⟩, .int .i64 0, .bool false, .int .i64 0, .string ⟨#[]⟩, .int .i64 0, .int .i64 0]) (cs := #[.int .i64 0, .int .i64 0, .int .u64 0, .int .u64 0, .int .i64 0, .string ⟨#[]⟩, .string ⟨#[]⟩, .string ⟨#[]⟩, .bool false, .string ⟨#[]⟩, .int .u64 0, .int .i64 0, .string ⟨#[]⟩, .string ⟨#[]⟩, .int .i64 0, .bool false, .int .i64 0, .string ⟨#[]⟩, .int .i64 0, .int .i64 0]) rfl] at h5
    exact h5
  have hx1 : Blk w1 w.heap.size 28 (cmC ⟨k, cl, sq, ep, op, pr, st, key, val, gr, wt⟩).toArray := by
    rw [hw1]
    have h2 : ∀ (vs : List Value) (o : Nat) (W : World), (W.setCells (w.heap.size + 1) o vs).heap[w.heap.size]? = W.heap[w.heap.size]? := by
      intro vs
      induction vs with
      | nil => intro o W; rfl
      | cons v r ih => intro o W; rw [World.setCells, ih]; exact heap_set_other v (by omega)
    refine (h2 _ _ _).trans ?_
    exact (Below.heap_alloc _ _ _ (by simp)).trans (blk_new w _ _)
  have ck : (w.alloc (.cells (cmC ⟨k, cl, sq, ep, op, pr, st, key, val, gr, wt⟩).toArray 28)).cell? ⟨w.heap.size, 0, none⟩ = some (.int .i64 k) := (mcells (blk_new w 28 (cmC ⟨k, cl, sq, ep, op, pr, st, key, val, gr, wt⟩).toArray)).1 0
  have HW1 : Hid _ := hw1
  have HX1 : Hid (Blk w1 w.heap.size 28 (cmC ⟨k, cl, sq, ep, op, pr, st, key, val, gr, wt⟩).toArray) := hx1
  have HY1 : Hid (Blk w1 (w.heap.size + 1) 28 (cmC ⟨k, 0, 0, 0, oq0, 0, 0, [], [], 0, wt0⟩).toArray) := hy1
  have HB1 : Hid _ := hb1
  clear hw1 hx1 hy1 hb1 hA
  go_enter Tryz.func11, Tryz.ntmps11
  go_upto_region 2 with (first | refine wpList_store_mid rfl 28 _ _ rfl (w.heap.size + 1) 0 #[.int .i64 k, .int .i64 0, .int .u64 0, .int .u64 0, .int .i64 0, .string ⟨#[]⟩, .string ⟨#[]⟩, .string ⟨#[]⟩, .bool false, .string ⟨#[]⟩, .int .u64 0, .int .i64 0, .string ⟨#[]⟩, .string ⟨#[]⟩, .int .i64 0, .bool false, .int .i64 0, .string ⟨#[]⟩, .int .i64 0, .int .i64 0] rfl rfl (blk_there hz rfl) (by kernel_rfl) (by kernel_rfl) ?_ | fail)
  have hw1 := HW1.out
  rw [← hw1]
  clear hw1 HW1 ck hz
  go_upto_region 3 with fail
  have hx1 := HX1.out
  have hy1 := HY1.out
  have hb1 := HB1.out
  have cx0 : w1.cell? ⟨w.heap.size, 0, none⟩ = some (.int .i64 k) := (mcells hx1).1 0
  clear hx1 hy1
  go_upto_block 0 with fail
  go_cut [4] from 10 to 153 (fun s4 wx => s4 = .bool (goodC ⟨k, cl, sq, ep, op, pr, st, key, val, gr, wt⟩) ∧ Blk wx (w.heap.size + 1) 28 (cmC (keepC ⟨k, cl, sq, ep, op, pr, st, key, val, gr, wt⟩)).toArray ∧ Blk wx w.heap.size 28 (cmC ⟨k, cl, sq, ep, op, pr, st, key, val, gr, wt⟩).toArray ∧ Below w.heap.size w wx)
  case first =>
    have hx1 := HX1.out
    have hy1 := HY1.out
    clear HX1 HY1 cx0
    by_cases k0 : k = 0
    case pos =>
      subst k0
      go_wp2
      go_meet
      case rel => exact ⟨rfl, hy1, hx1, hb1⟩
    case neg =>
    by_cases k1 : k = 1
    case pos => exact absurd k1 HK.out.1
    case neg =>
    by_cases k2 : k = 2
    case pos =>
      subst k2
      have d10 : w1.cell? ⟨w.heap.size + 1, 10, none⟩ = some (.int .u64 0) := (mcells hy1).1 10
      have e10 : w1.cell? ⟨w.heap.size, 10, none⟩ = some (.int .u64 pr) := (mcells hx1).1 10
      have d11 : w1.cell? ⟨w.heap.size + 1, 11, none⟩ = some (.int .i64 0) := (mcells hy1).1 11
      have e11 : w1.cell? ⟨w.heap.size, 11, none⟩ = some (.int .i64 st) := (mcells hx1).1 11
      have d3 : w1.cell? ⟨w.heap.size + 1, 3, none⟩ = some (.int .u64 0) := (mcells hy1).1 3
      have e3 : w1.cell? ⟨w.heap.size, 3, none⟩ = some (.int .u64 ep) := (mcells hx1).1 3
      have fy := (mcells hy1).2
      obtain ⟨w2, hw2⟩ : ∃ w2, w2 = (((w1.setCell ⟨w.heap.size + 1, 10, none⟩ (.int .u64 pr)).setCell ⟨w.heap.size + 1, 11, none⟩ (.int .i64 st)).setCell ⟨w.heap.size + 1, 3, none⟩ (.int .u64 ep)) := ⟨_, rfl⟩
      have y2 : Blk w2 (w.heap.size + 1) 28 (cmC (keepC ⟨2, cl, sq, ep, op, pr, st, key, val, gr, wt⟩)).toArray := by rw [hw2]; have h9 := (heap_set_same (heap_set_same (heap_set_same hy1 (o := 10) (.int .u64 pr)) (o := 11) (.int .i64 st)) (o := 3) (.int .u64 ep)); refine h9.trans ?_; kernel_rfl
      have x2 : Blk w2 w.heap.size 28 (cmC ⟨2, cl, sq, ep, op, pr, st, key, val, gr, wt⟩).toArray := by rw [hw2]; exact (blk_other (blk_other (blk_other hx1 (by omega)) (by omega)) (by omega))
      have b2 : Below w.heap.size w w2 := by rw [hw2]; exact (bel_set (bel_set (bel_set hb1 (Nat.le_succ _)) (Nat.le_succ _)) (Nat.le_succ _))
      have HY2 : Hid (Blk w2 (w.heap.size + 1) 28 (cmC (keepC ⟨2, cl, sq, ep, op, pr, st, key, val, gr, wt⟩)).toArray) := y2
      have HX2 : Hid (Blk w2 w.heap.size 28 (cmC ⟨2, cl, sq, ep, op, pr, st, key, val, gr, wt⟩).toArray) := x2
      have HB2 : Hid _ := b2
      have HW2 : Hid _ := hw2
      clear y2 x2 b2 hw2 hx1 hy1 hb1
      go_upto_region 17 with fail
      have hw2 := HW2.out
      rw [← hw2]
      clear hw2 HW2 d10 d11 d3 e10 e11 e3 fy
      have c3 : w2.cell? ⟨w.heap.size, 3, none⟩ = some (.int .u64 ep) := (mcells HX2.out).1 3
      have Y2 := HY2.out
      have X2 := HX2.out
      have B2 := HB2.out
      clear HY2 HX2 HB2
      have hgd : ∀ b, b = stepB pr st → goodC ⟨2, cl, sq, ep, op, pr, st, key, val, gr, wt⟩ = (b && decide (ep ≤ 1099511627776)) := by rintro b rfl; rfl
      have K1 := fun W : World => (show Calls Tryz.prog _ _ W (fun e w' => e = .returned (.bool (stepB pr st)) ∧ Below W.heap.size W w') from RStep_any ⟨2, cl, sq, ep, op, pr, st, key, val, gr, wt⟩ W)
      generalize stepB pr st = b at *
      have HG : Hid _ := hgd b rfl
      clear hgd
      have hr : w2.rangeAt w.heap.size 0 (cmC ⟨2, cl, sq, ep, op, pr, st, key, val, gr, wt⟩) := range_of_block X2 [] _ [] (by simp)
      go_wp2_with (first | refine wpList_load_w (by kernel_rfl) 28 _ rfl w.heap.size 0 rfl (cmC ⟨2, cl, sq, ep, op, pr, st, key, val, gr, wt⟩) _ hr Tryz.underlying28 rfl (by kernel_rfl) ?_ | fail)
      refine (K1 _).mono ?_
      rintro e w3 ⟨rfl, hb3⟩
      have Y3 := blk_below Y2 hb3
      have X3 := blk_below X2 hb3
      have B3 := below2 B2 hb3
      replace c3 := cell_below hb3 c3
      clear hb3 K1 Y2 X2 B2 hr
      cases b
      case false =>
        go_wp2
        go_meet
        case rel => exact ⟨congrArg Value.bool (by first | exact HG.out.symm | (refine Eq.trans ?_ HG.out.symm; first | rfl | (simp; done) | (rw [Bool.true_and]; exact decide_eq_decide.2 (by omega)) | (simp; omega) | (simp_all; done) | (simp_all; omega))), Y3, X3, B3⟩
      case true =>
        go_wp2
        go_meet
        case rel => exact ⟨congrArg Value.bool (by first | exact HG.out.symm | (refine Eq.trans ?_ HG.out.symm; first | rfl | (simp; done) | (rw [Bool.true_and]; exact decide_eq_decide.2 (by omega)) | (simp; omega) | (simp_all; done) | (simp_all; omega))), Y3, X3, B3⟩
    case neg =>
    by_cases k3 : k = 3
    case pos => exact absurd k3 HK.out.2.1
    case neg =>
    by_cases k4 : k = 4
    case pos =>
      subst k4
      have d10 : w1.cell? ⟨w.heap.size + 1, 10, none⟩ = some (.int .u64 0) := (mcells hy1).1 10
      have e10 : w1.cell? ⟨w.heap.size, 10, none⟩ = some (.int .u64 pr) := (mcells hx1).1 10
      have d11 : w1.cell? ⟨w.heap.size + 1, 11, none⟩ = some (.int .i64 0) := (mcells hy1).1 11
      have e11 : w1.cell? ⟨w.heap.size, 11, none⟩ = some (.int .i64 st) := (mcells hx1).1 11
      have d3 : w1.cell? ⟨w.heap.size + 1, 3, none⟩ = some (.int .u64 0) := (mcells hy1).1 3
      have e3 : w1.cell? ⟨w.heap.size, 3, none⟩ = some (.int .u64 ep) := (mcells hx1).1 3
      have fy := (mcells hy1).2
      obtain ⟨w2, hw2⟩ : ∃ w2, w2 = (((w1.setCell ⟨w.heap.size + 1, 10, none⟩ (.int .u64 pr)).setCell ⟨w.heap.size + 1, 11, none⟩ (.int .i64 st)).setCell ⟨w.heap.size + 1, 3, none⟩ (.int .u64 ep)) := ⟨_, rfl⟩
      have y2 : Blk w2 (w.heap.size + 1) 28 (cmC (keepC ⟨4, cl, sq, ep, op, pr, st, key, val, gr, wt⟩)).toArray := by rw [hw2]; have h9 := (heap_set_same (heap_set_same (heap_set_same hy1 (o := 10) (.int .u64 pr)) (o := 11) (.int .i64 st)) (o := 3) (.int .u64 ep)); refine h9.trans ?_; kernel_rfl
      have x2 : Blk w2 w.heap.size 28 (cmC ⟨4, cl, sq, ep, op, pr, st, key, val, gr, wt⟩).toArray := by rw [hw2]; exact (blk_other (blk_other (blk_other hx1 (by omega)) (by omega)) (by omega))
      have b2 : Below w.heap.size w w2 := by rw [hw2]; exact (bel_set (bel_set (bel_set hb1 (Nat.le_succ _)) (Nat.le_succ _)) (Nat.le_succ _))
      have HY2 : Hid (Blk w2 (w.heap.size + 1) 28 (cmC (keepC ⟨4, cl, sq, ep, op, pr, st, key, val, gr, wt⟩)).toArray) := y2
      have HX2 : Hid (Blk w2 w.heap.size 28 (cmC ⟨4, cl, sq, ep, op, pr, st, key, val, gr, wt⟩).toArray) := x2
      have HB2 : Hid _ := b2
      have HW2 : Hid _ := hw2
      clear y2 x2 b2 hw2 hx1 hy1 hb1
      go_upto_region 17 with fail
      have hw2 := HW2.out
      rw [← hw2]
      clear hw2 HW2 d10 d11 d3 e10 e11 e3 fy
      have c3 : w2.cell? ⟨w.heap.size, 3, none⟩ = some (.int .u64 ep) := (mcells HX2.out).1 3
      have Y2 := HY2.out
      have X2 := HX2.out
      have B2 := HB2.out
      clear HY2 HX2 HB2
      have hgd : ∀ b, b = stepB pr st → goodC ⟨4, cl, sq, ep, op, pr, st, key, val, gr, wt⟩ = (b && decide (ep ≤ 1099511627776)) := by rintro b rfl; rfl
      have K1 := fun W : World => (show Calls Tryz.prog _ _ W (fun e w' => e = .returned (.bool (stepB pr st)) ∧ Below W.heap.size W w') from RStep_any ⟨4, cl, sq, ep, op, pr, st, key, val, gr, wt⟩ W)
      generalize stepB pr st = b at *
      have HG : Hid _ := hgd b rfl
      clear hgd
      have hr : w2.rangeAt w.heap.size 0 (cmC ⟨4, cl, sq, ep, op, pr, st, key, val, gr, wt⟩) := range_of_block X2 [] _ [] (by simp)
      go_wp2_with (first | refine wpList_load_w (by kernel_rfl) 28 _ rfl w.heap.size 0 rfl (cmC ⟨4, cl, sq, ep, op, pr, st, key, val, gr, wt⟩) _ hr Tryz.underlying28 rfl (by kernel_rfl) ?_ | fail)
      refine (K1 _).mono ?_
      rintro e w3 ⟨rfl, hb3⟩
      have Y3 := blk_below Y2 hb3
      have X3 := blk_below X2 hb3
      have B3 := below2 B2 hb3
      replace c3 := cell_below hb3 c3
      clear hb3 K1 Y2 X2 B2 hr
      cases b
      case false =>
        go_wp2
        go_meet
        case rel => exact ⟨congrArg Value.bool (by first | exact HG.out.symm | (refine Eq.trans ?_ HG.out.symm; first | rfl | (simp; done) | (rw [Bool.true_and]; exact decide_eq_decide.2 (by omega)) | (simp; omega) | (simp_all; done) | (simp_all; omega))), Y3, X3, B3⟩
      case true =>
        go_wp2
        go_meet
        case rel => exact ⟨congrArg Value.bool (by first | exact HG.out.symm | (refine Eq.trans ?_ HG.out.symm; first | rfl | (simp; done) | (rw [Bool.true_and]; exact decide_eq_decide.2 (by omega)) | (simp; omega) | (simp_all; done) | (simp_all; omega))), Y3, X3, B3⟩
    case neg =>
    by_cases k5 : k = 5
    case pos => exact absurd k5 HK.out.2.2
    case neg =>
    by_cases k6 : k = 6
    case pos =>
      subst k6
      have d15 : w1.cell? ⟨w.heap.size + 1, 15, none⟩ = some (.bool false) := (mcells hy1).1 15
      have e15 : w1.cell? ⟨w.heap.size, 15, none⟩ = some (.bool wt.mv) := (mcells hx1).1 15
      have d16 : w1.cell? ⟨w.heap.size + 1, 16, none⟩ = some (.int .i64 0) := (mcells hy1).1 16
      have e16 : w1.cell? ⟨w.heap.size, 16, none⟩ = some (.int .i64 wt.g) := (mcells hx1).1 16
      have d17 : w1.cell? ⟨w.heap.size + 1, 17, none⟩ = some (.string ⟨#[]⟩) := (mcells hy1).1 17
      have e17 : w1.cell? ⟨w.heap.size, 17, none⟩ = some (.string (bstr wt.key)) := (mcells hx1).1 17
      have d18 : w1.cell? ⟨w.heap.size + 1, 18, none⟩ = some (.int .i64 0) := (mcells hy1).1 18
      have e18 : w1.cell? ⟨w.heap.size, 18, none⟩ = some (.int .i64 wt.i) := (mcells hx1).1 18
      have d19 : w1.cell? ⟨w.heap.size + 1, 19, none⟩ = some (.int .i64 0) := (mcells hy1).1 19
      have e19 : w1.cell? ⟨w.heap.size, 19, none⟩ = some (.int .i64 wt.o) := (mcells hx1).1 19
      have fy := (mcells hy1).2
      obtain ⟨w2, hw2⟩ : ∃ w2, w2 = (((((w1.setCell ⟨w.heap.size + 1, 15, none⟩ (.bool wt.mv)).setCell ⟨w.heap.size + 1, 16, none⟩ (.int .i64 wt.g)).setCell ⟨w.heap.size + 1, 17, none⟩ (.string (bstr wt.key))).setCell ⟨w.heap.size + 1, 18, none⟩ (.int .i64 wt.i)).setCell ⟨w.heap.size + 1, 19, none⟩ (.int .i64 wt.o)) := ⟨_, rfl⟩
      have y2 : Blk w2 (w.heap.size + 1) 28 (cmC (keepC ⟨6, cl, sq, ep, op, pr, st, key, val, gr, wt⟩)).toArray := by rw [hw2]; have h9 := (heap_set_same (heap_set_same (heap_set_same (heap_set_same (heap_set_same hy1 (o := 15) (.bool wt.mv)) (o := 16) (.int .i64 wt.g)) (o := 17) (.string (bstr wt.key))) (o := 18) (.int .i64 wt.i)) (o := 19) (.int .i64 wt.o)); refine h9.trans ?_; kernel_rfl
      have x2 : Blk w2 w.heap.size 28 (cmC ⟨6, cl, sq, ep, op, pr, st, key, val, gr, wt⟩).toArray := by rw [hw2]; exact (blk_other (blk_other (blk_other (blk_other (blk_other hx1 (by omega)) (by omega)) (by omega)) (by omega)) (by omega))
      have b2 : Below w.heap.size w w2 := by rw [hw2]; exact (bel_set (bel_set (bel_set (bel_set (bel_set hb1 (Nat.le_succ _)) (Nat.le_succ _)) (Nat.le_succ _)) (Nat.le_succ _)) (Nat.le_succ _))
      have HY2 : Hid (Blk w2 (w.heap.size + 1) 28 (cmC (keepC ⟨6, cl, sq, ep, op, pr, st, key, val, gr, wt⟩)).toArray) := y2
      have HX2 : Hid (Blk w2 w.heap.size 28 (cmC ⟨6, cl, sq, ep, op, pr, st, key, val, gr, wt⟩).toArray) := x2
      have HB2 : Hid _ := b2
      have HW2 : Hid _ := hw2
      clear y2 x2 b2 hw2 hx1 hy1 hb1
      go_upto_region 33 with fail
      have hw2 := HW2.out
      rw [← hw2]
      clear hw2 HW2 d15 d16 d17 d18 d19 e15 e16 e17 e18 e19 fy
      have Y2 := HY2.out
      have X2 := HX2.out
      have B2 := HB2.out
      clear HY2 HX2 HB2
      have hr : w2.rangeAt w.heap.size 15 (wtC wt) := range_of_block X2 [.int .i64 6, .int .i64 cl, .int .u64 sq, .int .u64 ep, .int .i64 op.kind, .string (bstr op.row), .string (bstr op.col), .string (bstr op.val), .bool op.has, .string (bstr op.exp), .int .u64 pr, .int .i64 st, .string (bstr key), .string (bstr val), .int .i64 gr] (wtC wt) [] rfl
      go_wp2_with (first | refine wpList_load_mid rfl 26 _ rfl w.heap.size 15 rfl (wtC wt) _ hr Tryz.underlying26 rfl (by kernel_rfl) ?_ | fail)
      refine (show Calls Tryz.prog _ #[.agg (wtC wt).toArray] _ _ from (RWant_any wt w2)).mono ?_
      rintro e w3 ⟨rfl, hb3⟩
      have Y3 := blk_below Y2 hb3
      have X3 := blk_below X2 hb3
      have B3 := below2 B2 hb3
      clear hr
      go_wp2
      go_meet
      case rel => exact ⟨rfl, Y3, X3, B3⟩
    case neg =>
    by_cases k7 : k = 7
    case pos =>
      subst k7
      have d10 : w1.cell? ⟨w.heap.size + 1, 10, none⟩ = some (.int .u64 0) := (mcells hy1).1 10
      have e10 : w1.cell? ⟨w.heap.size, 10, none⟩ = some (.int .u64 pr) := (mcells hx1).1 10
      have d11 : w1.cell? ⟨w.heap.size + 1, 11, none⟩ = some (.int .i64 0) := (mcells hy1).1 11
      have e11 : w1.cell? ⟨w.heap.size, 11, none⟩ = some (.int .i64 st) := (mcells hx1).1 11
      have fy := (mcells hy1).2
      obtain ⟨w2, hw2⟩ : ∃ w2, w2 = ((w1.setCell ⟨w.heap.size + 1, 10, none⟩ (.int .u64 pr)).setCell ⟨w.heap.size + 1, 11, none⟩ (.int .i64 st)) := ⟨_, rfl⟩
      have y2 : Blk w2 (w.heap.size + 1) 28 (cmC (keepC ⟨7, cl, sq, ep, op, pr, st, key, val, gr, wt⟩)).toArray := by rw [hw2]; have h9 := (heap_set_same (heap_set_same hy1 (o := 10) (.int .u64 pr)) (o := 11) (.int .i64 st)); refine h9.trans ?_; kernel_rfl
      have x2 : Blk w2 w.heap.size 28 (cmC ⟨7, cl, sq, ep, op, pr, st, key, val, gr, wt⟩).toArray := by rw [hw2]; exact (blk_other (blk_other hx1 (by omega)) (by omega))
      have b2 : Below w.heap.size w w2 := by rw [hw2]; exact (bel_set (bel_set hb1 (Nat.le_succ _)) (Nat.le_succ _))
      have HY2 : Hid (Blk w2 (w.heap.size + 1) 28 (cmC (keepC ⟨7, cl, sq, ep, op, pr, st, key, val, gr, wt⟩)).toArray) := y2
      have HX2 : Hid (Blk w2 w.heap.size 28 (cmC ⟨7, cl, sq, ep, op, pr, st, key, val, gr, wt⟩).toArray) := x2
      have HB2 : Hid _ := b2
      have HW2 : Hid _ := hw2
      clear y2 x2 b2 hw2 hx1 hy1 hb1
      go_upto_region 37 with fail
      have hw2 := HW2.out
      rw [← hw2]
      clear hw2 HW2 d10 d11 e10 e11 fy
      have Y2 := HY2.out
      have X2 := HX2.out
      have B2 := HB2.out
      clear HY2 HX2 HB2
      have hgd : ∀ b, b = stepB pr st → goodC ⟨7, cl, sq, ep, op, pr, st, key, val, gr, wt⟩ = (b) := by rintro b rfl; rfl
      have K1 := fun W : World => (show Calls Tryz.prog _ _ W (fun e w' => e = .returned (.bool (stepB pr st)) ∧ Below W.heap.size W w') from RStep_any ⟨7, cl, sq, ep, op, pr, st, key, val, gr, wt⟩ W)
      generalize stepB pr st = b at *
      have HG : Hid _ := hgd b rfl
      clear hgd
      have hr : w2.rangeAt w.heap.size 0 (cmC ⟨7, cl, sq, ep, op, pr, st, key, val, gr, wt⟩) := range_of_block X2 [] _ [] (by simp)
      go_wp2_with (first | refine wpList_load_w (by kernel_rfl) 28 _ rfl w.heap.size 0 rfl (cmC ⟨7, cl, sq, ep, op, pr, st, key, val, gr, wt⟩) _ hr Tryz.underlying28 rfl (by kernel_rfl) ?_ | fail)
      refine (K1 _).mono ?_
      rintro e w3 ⟨rfl, hb3⟩
      have Y3 := blk_below Y2 hb3
      have X3 := blk_below X2 hb3
      have B3 := below2 B2 hb3
      clear hb3 K1 Y2 X2 B2 hr
      cases b
      case false =>
        go_wp2
        go_meet
        case rel => exact ⟨congrArg Value.bool (by first | exact HG.out.symm | (refine Eq.trans ?_ HG.out.symm; first | rfl | (simp; done) | (rw [Bool.true_and]; exact decide_eq_decide.2 (by omega)) | (simp; omega) | (simp_all; done) | (simp_all; omega))), Y3, X3, B3⟩
      case true =>
        go_wp2
        go_meet
        case rel => exact ⟨congrArg Value.bool (by first | exact HG.out.symm | (refine Eq.trans ?_ HG.out.symm; first | rfl | (simp; done) | (rw [Bool.true_and]; exact decide_eq_decide.2 (by omega)) | (simp; omega) | (simp_all; done) | (simp_all; omega))), Y3, X3, B3⟩
    case neg =>
    have hg : goodC ⟨k, cl, sq, ep, op, pr, st, key, val, gr, wt⟩ = false := by simp [goodC, k0, k1, k2, k3, k4, k5, k6, k7]
    have hr : keepC ⟨k, cl, sq, ep, op, pr, st, key, val, gr, wt⟩ = ⟨k, 0, 0, 0, oq0, 0, 0, [], [], 0, wt0⟩ := by simp [keepC, k1, k2, k3, k4, k5, k6, k7, cm0]
    have HG : Hid _ := hg
    have HR : Hid _ := hr
    clear hg hr
    go_wp2
    go_meet
    case rel => exact ⟨congrArg Value.bool HG.out.symm, by rw [HR.out]; exact hy1, hx1, hb1⟩
  case rest =>
    obtain ⟨rfl, hy, hx, hb⟩ := hcut
    clear HX1 HY1 hb1 HB1 cx0
    have hok := HOK.out
    clear HOK
    generalize goodC ⟨k, cl, sq, ep, op, pr, st, key, val, gr, wt⟩ = G at *
    generalize keepC ⟨k, cl, sq, ep, op, pr, st, key, val, gr, wt⟩ = R at *
    generalize (⟨k, cl, sq, ep, op, pr, st, key, val, gr, wt⟩ : Cm) = C at *
    have hq : ∀ W, (binOp .neq 28 (.agg (cmC R).toArray) (.agg (cmC C).toArray)).run Tryz.prog W = .ok (.bool (!decide (R = C))) W := fun W => cm_neq R C W
    have hgu : ∀ (x y : Operand) (W : World), (eqGuard .neq 28 x y (.agg (cmC R).toArray) (.agg (cmC C).toArray)).run Tryz.prog W = .ok () W := fun x y W => cm_guard .neq x y _ _ W
    have hr : wc.rangeAt (w.heap.size + 1) 0 (cmC R) := range_of_block hy [] _ [] (by simp)
    have hr2 : wc.rangeAt w.heap.size 0 (cmC C) := range_of_block hx [] _ [] (by simp)
    have hl : (cmC R).length = 20 := rfl
    have hi : (Tryz.prog.info? 28).map (·.size) = some (cmC R).length := by rw [hl]; kernel_rfl
    have hl2 : (cmC C).length = 20 := rfl
    have hi2 : (Tryz.prog.info? 28).map (·.size) = some (cmC C).length := by rw [hl2]; kernel_rfl
    generalize decide (R = C) = D at *
    generalize cmC R = L at *
    generalize cmC C = M at *
    clear hy hx hl hl2
    cases G
    case false =>
      obtain rfl : ok = false := hok
      go_wp2
      go_ret
      exact ⟨rfl, hb⟩
    case true =>
      obtain rfl : ok = D := hok
      cases ok
      all_goals
        go_wp2_with (first | refine wpList_load_w (by kernel_rfl) 28 _ rfl (w.heap.size + 1) 0 rfl L _ hr Tryz.underlying28 rfl hi ?_ | refine wpList_load_w (by kernel_rfl) 28 _ rfl w.heap.size 0 rfl M _ hr2 Tryz.underlying28 rfl hi2 ?_ | fail)
        go_ret
        exact ⟨rfl, hb⟩

end Go.Proofs.YtbdbefgfejdbjaaGreat

namespace Go.Proofs.YtbdbefgfejdbjaaGreat
open Go.RowKit Go.BigFrame

theorem RCmd_any (c : Cm) (w : World) : Calls Tryz.prog 11 #[cmV c] w fun e w' => e = .returned (.int .i64 (if okC c then 0 else 2)) ∧ Below w.heap.size w w' := by
  by_cases h1 : c.k = 1
  · exact RCmd1_any c w h1
  by_cases h3 : c.k = 3
  · exact RCmd3_any c w h3
  by_cases h5 : c.k = 5
  · exact RCmd5_any c w h5
  exact RCmdO_any c w ⟨h1, h3, h5⟩

end Go.Proofs.YtbdbefgfejdbjaaGreat
