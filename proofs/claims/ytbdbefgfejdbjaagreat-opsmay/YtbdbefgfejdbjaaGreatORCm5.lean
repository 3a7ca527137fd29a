/-
  The document's Cmd, for some kinds. Written by mkorcmd.py.
-/
import Derived.Test.YtbdbefgfejdbjaaGreatGORCm1
namespace Go.Proofs.YtbdbefgfejdbjaaGreat
open Go.RowKit Go.BigFrame
attribute [local go_sem] size_bstr toList_bstr

set_option maxHeartbeats 16000000 in
set_option maxRecDepth 100000 in
theorem RCmd5_any (c : Cm) (w : World) (HK : Hid (c.k = 5)) : Calls Tryz.prog 11 #[cmV c] w fun e w' => e = .returned (.int .i64 (if okC c then 0 else 2)) ∧ Below w.heap.size w w' := by
  obtain ⟨k, cl, sq, ep, op, pr, st, key, val, gr, wt⟩ := c
  obtain ⟨ok, hok⟩ : ∃ ok, ok = okC ⟨k, cl, sq, ep, op, pr, st, key, val, gr, wt⟩ := ⟨_, rfl⟩
  rw [← hok]
  have HOK : Hid (ok = (goodC ⟨k, cl, sq, ep, op, pr, st, key, val, gr, wt⟩ && decide (keepC ⟨k, cl, sq, ep, op, pr, st, key, val, gr, wt⟩ = ⟨k, cl, sq, ep, op, pr, st, key, val, gr, wt⟩))) := by
    show _ = _
    rw [hok, ← keep_rest]
    rfl
  clear hok
  have hA : Below w.heap.size w ((w.alloc (.cells (cmC ⟨k, cl, sq, ep, op, pr, st, key, val, gr, wt⟩).toArray 28)).alloc (.cells #[.int .i64 0, .int .i64 0, .int .u64 0, .int .u64 0, .int .i64 0, .string ⟨#[]⟩, .string ⟨#[]⟩, .string ⟨#[]⟩, .bool false, .string ⟨#[]⟩, .int .u64 0, .int .i64 0, .string ⟨#[]⟩, .string ⟨#[]⟩, .int .i64 0, .bool false, .int .i64 0, .string ⟨#[]⟩, .int .i64 0, .int .i64 0] 28)) := ((Below.refl _ _).alloc (Nat.le_refl _) _).alloc (by simp) _
  have hz : Blk ((w.alloc (.cells (cmC ⟨k, cl, sq, ep, op, pr, st, key, val, gr, wt⟩).toArray 28)).alloc (.cells #[.int .i64 0, .int .i64 0, .int .u64 0, .int .u64 0, .int .i64 0, .string ⟨#[]⟩, .string ⟨#[]⟩, .string ⟨#[]⟩, .bool false, .string ⟨#[]⟩, .int .u64 0, .int .i64 0, .string ⟨#[]⟩, .string ⟨#[]⟩, .int .i64 0, .bool false, .int .i64 0, .string ⟨#[]⟩, .int .i64 0, .int .i64 0] 28)) (w.heap.size + 1) 28 #[.int .i64 0, .int .i64 0, .int .u64 0, .int .u64 0, .int .i64 0, .string ⟨#[]⟩, .string ⟨#[]⟩, .string ⟨#[]⟩, .bool false, .string ⟨#[]⟩, .int .u64 0, .int .i64 0, .string ⟨#[]⟩, .string ⟨#[]⟩, .int .i64 0, .bool false, .int .i64 0, .string ⟨#[]⟩, .int .i64 0, .int .i64 0] := by
    have := blk_new (w.alloc (.cells (cmC ⟨k, cl, sq, ep, op, pr, st, key, val, gr, wt⟩).toArray 28)) 28 #[.int .i64 0, .int .i64 0, .int .u64 0, .int .u64 0, .int .i64 0, .string ⟨#[]⟩, .string ⟨#[]⟩, .string ⟨#[]⟩, .bool false, .string ⟨#[]⟩, .int .u64 0, .int .i64 0, .string ⟨#[]⟩, .string ⟨#[]⟩, .int .i64 0, .bool false, .int .i64 0, .string ⟨#[]⟩, .int .i64 0, .int .i64 0]
    rw [World.size_alloc] at this
    exact this
  obtain ⟨w1, hw1⟩ : ∃ w1, w1 = ((w.alloc (.cells (cmC ⟨k, cl, sq, ep, op, pr, st, key, val, gr, wt⟩).toArray 28)).alloc (.cells #[.int .i64 0, .int .i64 0, .int .u64 0, .int .u64 0, .int .i64 0, .string ⟨#[]⟩, .string ⟨#[]⟩, .string ⟨#[]⟩, .bool false, .string ⟨#[]⟩, .int .u64 0, .int .i64 0, .string ⟨#[]⟩, .string ⟨#[]⟩, .int .i64 0, .bool false, .int .i64 0, .string ⟨#[]⟩, .int .i64 0, .int .i64 0] 28)).setCells (w.heap.size + 1) 0 (#[.int .i64 k, .int .i64 0, .int .u64 0, .int .u64 0, .int .i64 0, .string ⟨#[]⟩, .string ⟨#[]⟩, .string ⟨#[]⟩, .bool false, .string ⟨#[]⟩, .int .u64 0, .int .i64 0, .string ⟨#[]⟩, .string ⟨#[]⟩, .int .i64 0, .bool false, .int .i64 0, .string ⟨#[]⟩, .int .i64 0, .int .i64 0] : Array Value).toList := ⟨_, rfl⟩
  have hb1 : Below w.heap.size w w1 := by rw [hw1]; exact bel_cells (Nat.le_succ _) _ _ hA
  have hy1 : Blk w1 (w.heap.size + 1) 28 (cmC ⟨k, 0, 0, 0, oq0, 0, 0, [], [], 0, wt0⟩).toArray := by
    rw [hw1]
    have h5 := blk_cells [.int .i64 k, .int .i64 0, .int .u64 0, .int .u64 0, .int .i64 0, .string ⟨#[]⟩, .string ⟨#[]⟩, .string ⟨#[]⟩, .bool false, .string ⟨#[]⟩, .int .u64 0, .int .i64 0, .string ⟨#[]⟩, .string ⟨#[]⟩, .int .i64 0, .bool false, .int .i64 0, .string ⟨#[]⟩, .int .i64 0, .int .i64 0] 0 hz
    rw [setL_all (vs := [.int .i64 k, .int .i64 0, .int .u64 0, .int .u64 0, .int .i64 0, .string ⟨#[]⟩, .string ⟨#[]⟩, .string ⟨#[]⟩, .bool false, .string ⟨#[]⟩, .int .u64 0, .int .i64 0, .string ⟨#[]⟩, .string ⟨#[]⟩, .int .i64 0, .bool false, .int .i64 0, .string ⟨#[]⟩, .int .i64 0, .int .i64 0]) (cs := #[.int .i64 0, .int .i64 0, .int .u64 0, .int .u64 0, .int .i64 0, .string ⟨#[]⟩, .string ⟨#[]⟩, .string ⟨#[]⟩, .bool false, .string ⟨#[]⟩, .int .u64 0, .int .i64 0, .string ⟨#[]⟩, .string ⟨#[]⟩, .int .i64 0, .bool false, .int .i64 0, .string ⟨#[]⟩, .int .i64 0, .int .i64 0]) rfl] at h5
    exact h5
  have hx1 : Blk w1 w.heap.size 28 (cmC ⟨k, cl, sq, ep, op, pr, st, key, val, gr, wt⟩).toArray := by
    rw [hw1]
    have h2 : ∀ (vs : List Value) (o : Nat) (W : World), (W.setCells (w.heap.size + 1) o vs).heap[w.heap.size]? = W.heap[w.heap.size]? := by
      intro vs
      induction vs with
      | nil => intro o W; rfl
      | cons v r ih => intro o W; rw [World.setCells, ih]; exact heap_set_other v (by omega)
    refine (h2 _ _ _).trans ?_
    exact (Below.heap_alloc _ _ _ (by simp)).trans (blk_new w _ _)
  have ck : (w.alloc (.cells (cmC ⟨k, cl, sq, ep, op, pr, st, key, val, gr, wt⟩).toArray 28)).cell? ⟨w.heap.size, 0, none⟩ = some (.int .i64 k) := (mcells (blk_new w 28 (cmC ⟨k, cl, sq, ep, op, pr, st, key, val, gr, wt⟩).toArray)).1 0
  have HW1 : Hid _ := hw1
  have HX1 : Hid (Blk w1 w.heap.size 28 (cmC ⟨k, cl, sq, ep, op, pr, st, key, val, gr, wt⟩).toArray) := hx1
  have HY1 : Hid (Blk w1 (w.heap.size + 1) 28 (cmC ⟨k, 0, 0, 0, oq0, 0, 0, [], [], 0, wt0⟩).toArray) := hy1
  have HB1 : Hid _ := hb1
  clear hw1 hx1 hy1 hb1 hA
  go_enter Tryz.func11, Tryz.ntmps11
  go_upto_region 2 with (first | refine wpList_store_mid rfl 28 _ _ rfl (w.heap.size + 1) 0 #[.int .i64 k, .int .i64 0, .int .u64 0, .int .u64 0, .int .i64 0, .string ⟨#[]⟩, .string ⟨#[]⟩, .string ⟨#[]⟩, .bool false, .string ⟨#[]⟩, .int .u64 0, .int .i64 0, .string ⟨#[]⟩, .string ⟨#[]⟩, .int .i64 0, .bool false, .int .i64 0, .string ⟨#[]⟩, .int .i64 0, .int .i64 0] rfl rfl (blk_there hz rfl) (by kernel_rfl) (by kernel_rfl) ?_ | fail)
  have hw1 := HW1.out
  rw [← hw1]
  clear hw1 HW1 ck hz
  go_upto_region 3 with fail
  have hx1 := HX1.out
  have hy1 := HY1.out
  have hb1 := HB1.out
  have cx0 : w1.cell? ⟨w.heap.size, 0, none⟩ = some (.int .i64 k) := (mcells hx1).1 0
  clear hx1 hy1
  go_upto_block 0 with fail
  go_cut [4] from 10 to 153 (fun s4 wx => s4 = .bool (goodC ⟨k, cl, sq, ep, op, pr, st, key, val, gr, wt⟩) ∧ Blk wx (w.heap.size + 1) 28 (cmC (keepC ⟨k, cl, sq, ep, op, pr, st, key, val, gr, wt⟩)).toArray ∧ Blk wx w.heap.size 28 (cmC ⟨k, cl, sq, ep, op, pr, st, key, val, gr, wt⟩).toArray ∧ Below w.heap.size w wx)
  case first =>
    have hx1 := HX1.out
    have hy1 := HY1.out
    clear HX1 HY1 cx0
    by_cases k5 : k = 5
    case pos =>
      subst k5
      have d10 : w1.cell? ⟨w.heap.size + 1, 10, none⟩ = some (.int .u64 0) := (mcells hy1).1 10
      have e10 : w1.cell? ⟨w.heap.size, 10, none⟩ = some (.int .u64 pr) := (mcells hx1).1 10
      have d11 : w1.cell? ⟨w.heap.size + 1, 11, none⟩ = some (.int .i64 0) := (mcells hy1).1 11
      have e11 : w1.cell? ⟨w.heap.size, 11, none⟩ = some (.int .i64 st) := (mcells hx1).1 11
      have d12 : w1.cell? ⟨w.heap.size + 1, 12, none⟩ = some (.string ⟨#[]⟩) := (mcells hy1).1 12
      have e12 : w1.cell? ⟨w.heap.size, 12, none⟩ = some (.string (bstr key)) := (mcells hx1).1 12
      have d13 : w1.cell? ⟨w.heap.size + 1, 13, none⟩ = some (.string ⟨#[]⟩) := (mcells hy1).1 13
      have e13 : w1.cell? ⟨w.heap.size, 13, none⟩ = some (.string (bstr val)) := (mcells hx1).1 13
      have fy := (mcells hy1).2
      obtain ⟨w2, hw2⟩ : ∃ w2, w2 = ((((w1.setCell ⟨w.heap.size + 1, 10, none⟩ (.int .u64 pr)).setCell ⟨w.heap.size + 1, 11, none⟩ (.int .i64 st)).setCell ⟨w.heap.size + 1, 12, none⟩ (.string (bstr key))).setCell ⟨w.heap.size + 1, 13, none⟩ (.string (bstr val))) := ⟨_, rfl⟩
      have y2 : Blk w2 (w.heap.size + 1) 28 (cmC (keepC ⟨5, cl, sq, ep, op, pr, st, key, val, gr, wt⟩)).toArray := by rw [hw2]; have h9 := (heap_set_same (heap_set_same (heap_set_same (heap_set_same hy1 (o := 10) (.int .u64 pr)) (o := 11) (.int .i64 st)) (o := 12) (.string (bstr key))) (o := 13) (.string (bstr val))); refine h9.trans ?_; kernel_rfl
      have x2 : Blk w2 w.heap.size 28 (cmC ⟨5, cl, sq, ep, op, pr, st, key, val, gr, wt⟩).toArray := by rw [hw2]; exact (blk_other (blk_other (blk_other (blk_other hx1 (by omega)) (by omega)) (by omega)) (by omega))
      have b2 : Below w.heap.size w w2 := by rw [hw2]; exact (bel_set (bel_set (bel_set (bel_set hb1 (Nat.le_succ _)) (Nat.le_succ _)) (Nat.le_succ _)) (Nat.le_succ _))
      have HY2 : Hid (Blk w2 (w.heap.size + 1) 28 (cmC (keepC ⟨5, cl, sq, ep, op, pr, st, key, val, gr, wt⟩)).toArray) := y2
      have HX2 : Hid (Blk w2 w.heap.size 28 (cmC ⟨5, cl, sq, ep, op, pr, st, key, val, gr, wt⟩).toArray) := x2
      have HB2 : Hid _ := b2
      have HW2 : Hid _ := hw2
      clear y2 x2 b2 hw2 hx1 hy1 hb1
      go_upto_region 30 with fail
      have hw2 := HW2.out
      rw [← hw2]
      clear hw2 HW2 d10 d11 d12 d13 e10 e11 e12 e13 fy
      have c12 : w2.cell? ⟨w.heap.size, 12, none⟩ = some (.string (bstr key)) := (mcells HX2.out).1 12
      have c13 : w2.cell? ⟨w.heap.size, 13, none⟩ = some (.string (bstr val)) := (mcells HX2.out).1 13
      have Y2 := HY2.out
      have X2 := HX2.out
      have B2 := HB2.out
      clear HY2 HX2 HB2
      have hgd : ∀ b, b = stepB pr st → goodC ⟨5, cl, sq, ep, op, pr, st, key, val, gr, wt⟩ = (b && !decide (key = []) && storedB key && decide (val.length ≤ 256)) := by rintro b rfl; rfl
      have K1 := fun W : World => (show Calls Tryz.prog _ _ W (fun e w' => e = .returned (.bool (stepB pr st)) ∧ Below W.heap.size W w') from RStep_any ⟨5, cl, sq, ep, op, pr, st, key, val, gr, wt⟩ W)
      have K2 := fun W : World => RStored_any key W
      generalize storedB key = u at *
      generalize stepB pr st = b at *
      have HG : Hid _ := hgd b rfl
      clear hgd
      have hr : w2.rangeAt w.heap.size 0 (cmC ⟨5, cl, sq, ep, op, pr, st, key, val, gr, wt⟩) := range_of_block X2 [] _ [] (by simp)
      go_wp2_with (first | refine wpList_load_w (by kernel_rfl) 28 _ rfl w.heap.size 0 rfl (cmC ⟨5, cl, sq, ep, op, pr, st, key, val, gr, wt⟩) _ hr Tryz.underlying28 rfl (by kernel_rfl) ?_ | fail)
      refine (K1 _).mono ?_
      rintro e w3 ⟨rfl, hb3⟩
      have Y3 := blk_below Y2 hb3
      have X3 := blk_below X2 hb3
      have B3 := below2 B2 hb3
      replace c12 := cell_below hb3 c12
      replace c13 := cell_below hb3 c13
      clear hb3 K1 Y2 X2 B2 hr
      cases b
      case false =>
        go_wp2
        go_meet
        case rel => exact ⟨congrArg Value.bool (by first | exact HG.out.symm | (refine Eq.trans ?_ HG.out.symm; first | rfl | (simp; done) | (rw [Bool.true_and]; exact decide_eq_decide.2 (by omega)) | (simp; omega) | (simp_all; done) | (simp_all; omega))), Y3, X3, B3⟩
      case true =>
        by_cases hk : key = []
        case pos =>
          subst hk
          go_wp2
          go_meet
          case rel => exact ⟨congrArg Value.bool (by first | exact HG.out.symm | (refine Eq.trans ?_ HG.out.symm; first | rfl | (simp; done) | (rw [Bool.true_and]; exact decide_eq_decide.2 (by omega)) | (simp; omega) | (simp_all; done) | (simp_all; omega))), Y3, X3, B3⟩
        case neg =>
        have hk2 : (key == ([] : List UInt8)) = false := beq_eq_false_iff_ne.2 hk
        go_wp2_with fail
        refine (K2 _).mono ?_
        rintro e w4 ⟨rfl, hb4⟩
        have Y4 := blk_below Y3 hb4
        have X4 := blk_below X3 hb4
        have B4 := below2 B3 hb4
        replace c13 := cell_below hb4 c13
        clear hb4 K2 Y3 X3 B3 c12
        cases u
        case false =>
          go_wp2
          go_meet
          case rel => exact ⟨congrArg Value.bool (by first | exact HG.out.symm | (refine Eq.trans ?_ HG.out.symm; first | rfl | (simp; done) | (rw [Bool.true_and]; exact decide_eq_decide.2 (by omega)) | (simp; omega) | (simp_all; done) | (simp_all; omega))), Y4, X4, B4⟩
        case true =>
          go_wp2
          go_meet
          case rel => exact ⟨congrArg Value.bool (by first | exact HG.out.symm | (refine Eq.trans ?_ HG.out.symm; first | rfl | (simp; done) | (rw [Bool.true_and]; exact decide_eq_decide.2 (by omega)) | (simp; omega) | (simp_all; done) | (simp_all; omega))), Y4, X4, B4⟩
    case neg =>
    exact absurd HK.out k5
  case rest =>
    obtain ⟨rfl, hy, hx, hb⟩ := hcut
    clear HX1 HY1 hb1 HB1 cx0
    have hok := HOK.out
    clear HOK
    generalize goodC ⟨k, cl, sq, ep, op, pr, st, key, val, gr, wt⟩ = G at *
    generalize keepC ⟨k, cl, sq, ep, op, pr, st, key, val, gr, wt⟩ = R at *
    generalize (⟨k, cl, sq, ep, op, pr, st, key, val, gr, wt⟩ : Cm) = C at *
    have hq : ∀ W, (binOp .neq 28 (.agg (cmC R).toArray) (.agg (cmC C).toArray)).run Tryz.prog W = .ok (.bool (!decide (R = C))) W := fun W => cm_neq R C W
    have hgu : ∀ (x y : Operand) (W : World), (eqGuard .neq 28 x y (.agg (cmC R).toArray) (.agg (cmC C).toArray)).run Tryz.prog W = .ok () W := fun x y W => cm_guard .neq x y _ _ W
    have hr : wc.rangeAt (w.heap.size + 1) 0 (cmC R) := range_of_block hy [] _ [] (by simp)
    have hr2 : wc.rangeAt w.heap.size 0 (cmC C) := range_of_block hx [] _ [] (by simp)
    have hl : (cmC R).length = 20 := rfl
    have hi : (Tryz.prog.info? 28).map (·.size) = some (cmC R).length := by rw [hl]; kernel_rfl
    have hl2 : (cmC C).length = 20 := rfl
    have hi2 : (Tryz.prog.info? 28).map (·.size) = some (cmC C).length := by rw [hl2]; kernel_rfl
    generalize decide (R = C) = D at *
    generalize cmC R = L at *
    generalize cmC C = M at *
    clear hy hx hl hl2
    cases G
    case false =>
      obtain rfl : ok = false := hok
      go_wp2
      go_ret
      exact ⟨rfl, hb⟩
    case true =>
      obtain rfl : ok = D := hok
      cases ok
      all_goals
        go_wp2_with (first | refine wpList_load_w (by kernel_rfl) 28 _ rfl (w.heap.size + 1) 0 rfl L _ hr Tryz.underlying28 rfl hi ?_ | refine wpList_load_w (by kernel_rfl) 28 _ rfl w.heap.size 0 rfl M _ hr2 Tryz.underlying28 rfl hi2 ?_ | fail)
        go_ret
        exact ⟨rfl, hb⟩

end Go.Proofs.YtbdbefgfejdbjaaGreat
