/-
  The document's Cmd: may a command be? Written by mkorcmd.py.
  The document's Cmd, for some kinds. Written by mkorcmd.py.
-/
import Derived.Test.YtbdbefgfejdbjaaGreatGORCk
import Derived.Test.YtbdbefgfejdbjaaGreatGOCmd
namespace Go.Proofs.YtbdbefgfejdbjaaGreat
open Go.RowKit Go.BigFrame
attribute [local go_sem] size_bstr toList_bstr

/-- What its kind may have. -/
def keepC (c : Cm) : Cm :=
  if c.k = 1 then { cm0 with k := c.k, cl := c.cl, sq := c.sq, ep := c.ep, op := c.op }
  else if c.k = 2 ∨ c.k = 4 then { cm0 with k := c.k, pr := c.pr, st := c.st, ep := c.ep }
  else if c.k = 3 then { cm0 with k := c.k, pr := c.pr, st := c.st, ep := c.ep, key := c.key, gr := c.gr }
  else if c.k = 5 then { cm0 with k := c.k, pr := c.pr, st := c.st, key := c.key, val := c.val }
  else if c.k = 6 then { cm0 with k := c.k, wt := c.wt }
  else if c.k = 7 then { cm0 with k := c.k, pr := c.pr, st := c.st }
  else { cm0 with k := c.k }
theorem keep_rest (c : Cm) : decide (restC c = cm0) = decide (keepC c = c) := by
  rw [decide_eq_decide]
  obtain ⟨k, cl, sq, ep, op, pr, st, key, val, gr, wt⟩ := c
  unfold restC keepC
  repeat' split
  all_goals
    simp only [cm0, Cm.mk.injEq, true_and, and_true]
    simp only [@eq_comm Int 0, @eq_comm _ oq0, @eq_comm _ wt0, @eq_comm (List UInt8) []]
theorem cm_neq (a b : Cm) (w : World) : (binOp .neq 28 (cmV a) (cmV b)).run Tryz.prog w = .ok (.bool (!decide (a = b))) w := by
  rw [run_neq_struct]
  have := cm_run 9997 a b w
  rw [show (9997 + 3 : Nat) = 10000 from by decide] at this
  rw [this]
  rfl

end Go.Proofs.YtbdbefgfejdbjaaGreat

namespace Go.Proofs.YtbdbefgfejdbjaaGreat
open Go.RowKit Go.BigFrame
attribute [local go_sem] size_bstr toList_bstr

set_option maxHeartbeats 16000000 in
set_option maxRecDepth 100000 in
theorem RCmd1_any (c : Cm) (w : World) (HK : Hid (c.k = 1)) : Calls Tryz.prog 11 #[cmV c] w fun e w' => e = .returned (.int .i64 (if okC c then 0 else 2)) ∧ Below w.heap.size w w' := by
  obtain ⟨k, cl, sq, ep, op, pr, st, key, val, gr, wt⟩ := c
  obtain ⟨ok, hok⟩ : ∃ ok, ok = okC ⟨k, cl, sq, ep, op, pr, st, key, val, gr, wt⟩ := ⟨_, rfl⟩
  rw [← hok]
  have HOK : Hid (ok = (goodC ⟨k, cl, sq, ep, op, pr, st, key, val, gr, wt⟩ && decide (keepC ⟨k, cl, sq, ep, op, pr, st, key, val, gr, wt⟩ = ⟨k, cl, sq, ep, op, pr, st, key, val, gr, wt⟩))) := by
    show _ = _
    rw [hok, ← keep_rest]
    rfl
  clear hok
  have hA : Below w.heap.size w ((w.alloc (.cells (cmC ⟨k, cl, sq, ep, op, pr, st, key, val, gr, wt⟩).toArray 28)).alloc (.cells #[.int .i64 0, .int .i64 0, .int .u64 0, .int .u64 0, .int .i64 0, .string ⟨#[]⟩, .string ⟨#[]⟩, .string ⟨#[]⟩, .bool false, .string ⟨#[]⟩, .int .u64 0, .int .i64 0, .string ⟨#[]⟩, .string ⟨#[]⟩, .int .i64 0, .bool false, .int .i64 0, .string ⟨#[]⟩, .int .i64 0, .int .i64 0] 28)) := ((Below.refl _ _).alloc (Nat.le_refl _) _).alloc (by simp) _
  have hz : Blk ((w.alloc (.cells (cmC ⟨k, cl, sq, ep, op, pr, st, key, val, gr, wt⟩).toArray 28)).alloc (.cells #[.int .i64 0, .int .i64 0, .int .u64 0, .int .u64 0, .int .i64 0, .string ⟨#[]⟩, .string ⟨#[]⟩, .string ⟨#[]⟩, .bool false, .string ⟨#[]⟩, .int .u64 0, .int .i64 0, .string ⟨#[]⟩, .string ⟨#[]⟩, .int .i64 0, .bool false, .int .i64 0, .string ⟨#[]⟩, .int .i64 0, .int .i64 0] 28)) (w.heap.size + 1) 28 #[.int .i64 0, .int .i64 0, .int .u64 0, .int .u64 0, .int .i64 0, .string ⟨#[]⟩, .string ⟨#[]⟩, .string ⟨#[]⟩, .bool false, .string ⟨#[]⟩, .int .u64 0, .int .i64 0, .string ⟨#[]⟩, .string ⟨#[]⟩, .int .i64 0, .bool false, .int .i64 0, .string ⟨#[]⟩, .int .i64 0, .int .i64 0] := by
    have := blk_new (w.alloc (.cells (cmC ⟨k, cl, sq, ep, op, pr, st, key, val, gr, wt⟩).toArray 28)) 28 #[.int .i64 0, .int .i64 0, .int .u64 0, .int .u64 0, .int .i64 0, .string ⟨#[]⟩, .string ⟨#[]⟩, .string ⟨#[]⟩, .bool false, .string ⟨#[]⟩, .int .u64 0, .int .i64 0, .string ⟨#[]⟩, .string ⟨#[]⟩, .int .i64 0, .bool false, .int .i64 0, .string ⟨#[]⟩, .int .i64 0, .int .i64 0]
    rw [World.size_alloc] at this
    exact this
  obtain ⟨w1, hw1⟩ : ∃ w1, w1 = ((w.alloc (.cells (cmC ⟨k, cl, sq, ep, op, pr, st, key, val, gr, wt⟩).toArray 28)).alloc (.cells #[.int .i64 0, .int .i64 0, .int .u64 0, .int .u64 0, .int .i64 0, .string ⟨#[]⟩, .string ⟨#[]⟩, .string ⟨#[]⟩, .bool false, .string ⟨#[]⟩, .int .u64 0, .int .i64 0, .string ⟨#[]⟩, .string ⟨#[]⟩, .int .i64 0, .bool false, .int .i64 0, .string ⟨#[]⟩, .int .i64 0, .int .i64 0] 28)).setCells (w.heap.size + 1) 0 (#[.int .i64 k, .int .i64 0, .int .u64 0, .int .u64 0, .int .i64 0, .string ⟨#[]⟩, .string ⟨#[]⟩, .string ⟨#[]⟩, .bool false, .string ⟨#[]⟩, .int .u64 0, .int .i64 0, .string ⟨#[]⟩, .string ⟨#[]⟩, .int .i64 0, .bool false, .int .i64 0, .string ⟨#[]⟩, .int .i64 0, .int .i64 0] : Array Value).toList := ⟨_, rfl⟩
  have hb1 : Below w.heap.size w w1 := by rw [hw1]; exact bel_cells (Nat.le_succ _) _ _ hA
  have hy1 : Blk w1 (w.heap.size + 1) 28 (cmC ⟨k, 0, 0, 0, oq0, 0, 0, [], [], 0, wt0⟩).toArray := by
    rw [hw1]
    have h5 := blk_cells [.int .i64 k, .int .i64 0, .int .u64 0, .int .u64 0, .int .i64 0, .string ⟨#[]⟩, .string ⟨#[]⟩, .string ⟨#[]⟩, .bool false, .string ⟨#[]⟩, .int .u64 0, .int .i64 0, .string ⟨#[]⟩, .string ⟨#[]⟩, .int .i64 0, .bool false, .int .i64 0, .string ⟨#[]⟩, .int .i64 0, .int .i64 0] 0 hz
    rw [setL_all (vs := [.int .i64 k, .int .i64 0, .int .u64 0, .int .u64 0, .int .i64 0, .string ⟨#[]⟩, .string ⟨#[]⟩, .string ⟨#[]⟩, .bool false, .string ⟨#[]⟩, .int .u64 0, .int .i64 0, .string ⟨#[]⟩, .string ⟨#[]⟩, .int .i64 0, .bool false, .int .i64 0, .string ⟨#[]⟩, .int .i64 0, .int .i64 0]) (cs := #[.int .i64 0, .int .i64 0, .int .u64 0, .int .u64 0, .int .i64 0, .string ⟨#[]⟩, .string ⟨#[]⟩, .string ⟨#[]⟩, .bool false, .string ⟨#[]⟩, .int .u64 0, .int .i64 0, .string ⟨#[]⟩, .string ⟨#[]⟩, .int .i64 0, .bool false, .int .i64 0, .string ⟨#[]⟩, .int .i64 0, .int .i64 0]) rfl] at h5
    exact h5
  have hx1 : Blk w1 w.heap.size 28 (cmC ⟨k, cl, sq, ep, op, pr, st, key, val, gr, wt⟩).toArray := by
    rw [hw1]
    have h2 : ∀ (vs : List Value) (o : Nat) (W : World), (W.setCells (w.heap.size + 1) o vs).heap[w.heap.size]? = W.heap[w.heap.size]? := by
      intro vs
      induction vs with
      | nil => intro o W; rfl
      | cons v r ih => intro o W; rw [World.setCells, ih]; exact heap_set_other v (by omega)
    refine (h2 _ _ _).trans ?_
    exact (Below.heap_alloc _ _ _ (by simp)).trans (blk_new w _ _)
  have ck : (w.alloc (.cells (cmC ⟨k, cl, sq, ep, op, pr, st, key, val, gr, wt⟩).toArray 28)).cell? ⟨w.heap.size, 0, none⟩ = some (.int .i64 k) := (mcells (blk_new w 28 (cmC ⟨k, cl, sq, ep, op, pr, st, key, val, gr, wt⟩).toArray)).1 0
  have HW1 : Hid _ := hw1
  have HX1 : Hid (Blk w1 w.heap.size 28 (cmC ⟨k, cl, sq, ep, op, pr, st, key, val, gr, wt⟩).toArray) := hx1
  have HY1 : Hid (Blk w1 (w.heap.size + 1) 28 (cmC ⟨k, 0, 0, 0, oq0, 0, 0, [], [], 0, wt0⟩).toArray) := hy1
  have HB1 : Hid _ := hb1
  clear hw1 hx1 hy1 hb1 hA
  go_enter Tryz.func11, Tryz.ntmps11
  go_upto_region 2 with (first | refine wpList_store_mid rfl 28 _ _ rfl (w.heap.size + 1) 0 #[.int .i64 k, .int .i64 0, .int .u64 0, .int .u64 0, .int .i64 0, .string ⟨#[]⟩, .string ⟨#[]⟩, .string ⟨#[]⟩, .bool false, .string ⟨#[]⟩, .int .u64 0, .int .i64 0, .string ⟨#[]⟩, .string ⟨#[]⟩, .int .i64 0, .bool false, .int .i64 0, .string ⟨#[]⟩, .int .i64 0, .int .i64 0] rfl rfl (blk_there hz rfl) (by kernel_rfl) (by kernel_rfl) ?_ | fail)
  have hw1 := HW1.out
  rw [← hw1]
  clear hw1 HW1 ck hz
  go_upto_region 3 with fail
  have hx1 := HX1.out
  have hy1 := HY1.out
  have hb1 := HB1.out
  have cx0 : w1.cell? ⟨w.heap.size, 0, none⟩ = some (.int .i64 k) := (mcells hx1).1 0
  clear hx1 hy1
  go_upto_block 0 with fail
  go_cut [4] from 10 to 153 (fun s4 wx => s4 = .bool (goodC ⟨k, cl, sq, ep, op, pr, st, key, val, gr, wt⟩) ∧ Blk wx (w.heap.size + 1) 28 (cmC (keepC ⟨k, cl, sq, ep, op, pr, st, key, val, gr, wt⟩)).toArray ∧ Blk wx w.heap.size 28 (cmC ⟨k, cl, sq, ep, op, pr, st, key, val, gr, wt⟩).toArray ∧ Below w.heap.size w wx)
  case first =>
    have hx1 := HX1.out
    have hy1 := HY1.out
    clear HX1 HY1 cx0
    by_cases k1 : k = 1
    case pos =>
      subst k1
      have d1 : w1.cell? ⟨w.heap.size + 1, 1, none⟩ = some (.int .i64 0) := (mcells hy1).1 1
      have e1 : w1.cell? ⟨w.heap.size, 1, none⟩ = some (.int .i64 cl) := (mcells hx1).1 1
      have d2 : w1.cell? ⟨w.heap.size + 1, 2, none⟩ = some (.int .u64 0) := (mcells hy1).1 2
      have e2 : w1.cell? ⟨w.heap.size, 2, none⟩ = some (.int .u64 sq) := (mcells hx1).1 2
      have d3 : w1.cell? ⟨w.heap.size + 1, 3, none⟩ = some (.int .u64 0) := (mcells hy1).1 3
      have e3 : w1.cell? ⟨w.heap.size, 3, none⟩ = some (.int .u64 ep) := (mcells hx1).1 3
      have d4 : w1.cell? ⟨w.heap.size + 1, 4, none⟩ = some (.int .i64 0) := (mcells hy1).1 4
      have e4 : w1.cell? ⟨w.heap.size, 4, none⟩ = some (.int .i64 op.kind) := (mcells hx1).1 4
      have d5 : w1.cell? ⟨w.heap.size + 1, 5, none⟩ = some (.string ⟨#[]⟩) := (mcells hy1).1 5
      have e5 : w1.cell? ⟨w.heap.size, 5, none⟩ = some (.string (bstr op.row)) := (mcells hx1).1 5
      have d6 : w1.cell? ⟨w.heap.size + 1, 6, none⟩ = some (.string ⟨#[]⟩) := (mcells hy1).1 6
      have e6 : w1.cell? ⟨w.heap.size, 6, none⟩ = some (.string (bstr op.col)) := (mcells hx1).1 6
      have d7 : w1.cell? ⟨w.heap.size + 1, 7, none⟩ = some (.string ⟨#[]⟩) := (mcells hy1).1 7
      have e7 : w1.cell? ⟨w.heap.size, 7, none⟩ = some (.string (bstr op.val)) := (mcells hx1).1 7
      have d8 : w1.cell? ⟨w.heap.size + 1, 8, none⟩ = some (.bool false) := (mcells hy1).1 8
      have e8 : w1.cell? ⟨w.heap.size, 8, none⟩ = some (.bool op.has) := (mcells hx1).1 8
      have d9 : w1.cell? ⟨w.heap.size + 1, 9, none⟩ = some (.string ⟨#[]⟩) := (mcells hy1).1 9
      have e9 : w1.cell? ⟨w.heap.size, 9, none⟩ = some (.string (bstr op.exp)) := (mcells hx1).1 9
      have fy := (mcells hy1).2
      obtain ⟨w2, hw2⟩ : ∃ w2, w2 = (((((((((w1.setCell ⟨w.heap.size + 1, 1, none⟩ (.int .i64 cl)).setCell ⟨w.heap.size + 1, 2, none⟩ (.int .u64 sq)).setCell ⟨w.heap.size + 1, 3, none⟩ (.int .u64 ep)).setCell ⟨w.heap.size + 1, 4, none⟩ (.int .i64 op.kind)).setCell ⟨w.heap.size + 1, 5, none⟩ (.string (bstr op.row))).setCell ⟨w.heap.size + 1, 6, none⟩ (.string (bstr op.col))).setCell ⟨w.heap.size + 1, 7, none⟩ (.string (bstr op.val))).setCell ⟨w.heap.size + 1, 8, none⟩ (.bool op.has)).setCell ⟨w.heap.size + 1, 9, none⟩ (.string (bstr op.exp))) := ⟨_, rfl⟩
      have y2 : Blk w2 (w.heap.size + 1) 28 (cmC (keepC ⟨1, cl, sq, ep, op, pr, st, key, val, gr, wt⟩)).toArray := by rw [hw2]; have h9 := (heap_set_same (heap_set_same (heap_set_same (heap_set_same (heap_set_same (heap_set_same (heap_set_same (heap_set_same (heap_set_same hy1 (o := 1) (.int .i64 cl)) (o := 2) (.int .u64 sq)) (o := 3) (.int .u64 ep)) (o := 4) (.int .i64 op.kind)) (o := 5) (.string (bstr op.row))) (o := 6) (.string (bstr op.col))) (o := 7) (.string (bstr op.val))) (o := 8) (.bool op.has)) (o := 9) (.string (bstr op.exp))); refine h9.trans ?_; kernel_rfl
      have x2 : Blk w2 w.heap.size 28 (cmC ⟨1, cl, sq, ep, op, pr, st, key, val, gr, wt⟩).toArray := by rw [hw2]; exact (blk_other (blk_other (blk_other (blk_other (blk_other (blk_other (blk_other (blk_other (blk_other hx1 (by omega)) (by omega)) (by omega)) (by omega)) (by omega)) (by omega)) (by omega)) (by omega)) (by omega))
      have b2 : Below w.heap.size w w2 := by rw [hw2]; exact (bel_set (bel_set (bel_set (bel_set (bel_set (bel_set (bel_set (bel_set (bel_set hb1 (Nat.le_succ _)) (Nat.le_succ _)) (Nat.le_succ _)) (Nat.le_succ _)) (Nat.le_succ _)) (Nat.le_succ _)) (Nat.le_succ _)) (Nat.le_succ _)) (Nat.le_succ _))
      have HY2 : Hid (Blk w2 (w.heap.size + 1) 28 (cmC (keepC ⟨1, cl, sq, ep, op, pr, st, key, val, gr, wt⟩)).toArray) := y2
      have HX2 : Hid (Blk w2 w.heap.size 28 (cmC ⟨1, cl, sq, ep, op, pr, st, key, val, gr, wt⟩).toArray) := x2
      have HB2 : Hid _ := b2
      have HW2 : Hid _ := hw2
      clear y2 x2 b2 hw2 hx1 hy1 hb1
      go_upto_region 11 with fail
      have hw2 := HW2.out
      rw [← hw2]
      clear hw2 HW2 d1 d2 d3 d4 d5 d6 d7 d8 d9 e1 e2 e3 e4 e5 e6 e7 e8 e9 fy
      have c1 : w2.cell? ⟨w.heap.size, 1, none⟩ = some (.int .i64 cl) := (mcells HX2.out).1 1
      have c2 : w2.cell? ⟨w.heap.size, 2, none⟩ = some (.int .u64 sq) := (mcells HX2.out).1 2
      have c3 : w2.cell? ⟨w.heap.size, 3, none⟩ = some (.int .u64 ep) := (mcells HX2.out).1 3
      have Y2 := HY2.out
      have X2 := HX2.out
      have B2 := HB2.out
      clear HY2 HX2 HB2
      have c4 : w2.cell? ⟨w.heap.size, 4, none⟩ = some (.int .i64 op.kind) := (mcells X2).1 4
      have c5 : w2.cell? ⟨w.heap.size, 5, none⟩ = some (.string (bstr op.row)) := (mcells X2).1 5
      have c6 : w2.cell? ⟨w.heap.size, 6, none⟩ = some (.string (bstr op.col)) := (mcells X2).1 6
      have c7 : w2.cell? ⟨w.heap.size, 7, none⟩ = some (.string (bstr op.val)) := (mcells X2).1 7
      have c8 : w2.cell? ⟨w.heap.size, 8, none⟩ = some (.bool op.has) := (mcells X2).1 8
      have c9 : w2.cell? ⟨w.heap.size, 9, none⟩ = some (.string (bstr op.exp)) := (mcells X2).1 9
      have K1 := fun W : World => RClient_any cl W
      have K2 := fun W : World => RSeq_any sq W
      have K3 := fun W : World => RCheck15_any op W
      have hgd : ∀ a b m, a = (decide (0 ≤ cl) && decide (cl < 4)) → b = (decide (1 ≤ sq) && decide (sq ≤ 1099511627776)) → m = mayO op → goodC ⟨1, cl, sq, ep, op, pr, st, key, val, gr, wt⟩ = (a && b && decide (ep ≤ 1099511627776) && m) := by rintro a b m rfl rfl rfl; rfl
      generalize (decide (0 ≤ cl) && decide (cl < 4)) = a at *
      generalize (decide (1 ≤ sq) && decide (sq ≤ 1099511627776)) = b at *
      generalize mayO op = m at *
      have HG : Hid _ := hgd a b m rfl rfl rfl
      clear hgd
      go_wp2_with fail
      refine (K1 _).mono ?_
      rintro e w3 ⟨rfl, hb3⟩
      have Y3 := blk_below Y2 hb3
      have X3 := blk_below X2 hb3
      have B3 := below2 B2 hb3
      replace c2 := cell_below hb3 c2
      replace c3 := cell_below hb3 c3
      replace c4 := cell_below hb3 c4
      replace c5 := cell_below hb3 c5
      replace c6 := cell_below hb3 c6
      replace c7 := cell_below hb3 c7
      replace c8 := cell_below hb3 c8
      replace c9 := cell_below hb3 c9
      clear hb3 K1 Y2 X2 B2 c1
      cases a
      case false =>
        go_wp2
        go_meet
        case rel => exact ⟨congrArg Value.bool (by first | exact HG.out.symm | (refine Eq.trans ?_ HG.out.symm; first | rfl | (simp; done) | (rw [Bool.true_and]; exact decide_eq_decide.2 (by omega)) | (simp; omega) | (simp_all; done) | (simp_all; omega))), Y3, X3, B3⟩
      case true =>
      go_wp2_with fail
      refine (K2 _).mono ?_
      rintro e w4 ⟨rfl, hb4⟩
      have Y4 := blk_below Y3 hb4
      have X4 := blk_below X3 hb4
      have B4 := below2 B3 hb4
      replace c3 := cell_below hb4 c3
      replace c4 := cell_below hb4 c4
      replace c5 := cell_below hb4 c5
      replace c6 := cell_below hb4 c6
      replace c7 := cell_below hb4 c7
      replace c8 := cell_below hb4 c8
      replace c9 := cell_below hb4 c9
      clear hb4 K2 Y3 X3 B3 c2
      cases b
      case false =>
        go_wp2
        go_meet
        case rel => exact ⟨congrArg Value.bool (by first | exact HG.out.symm | (refine Eq.trans ?_ HG.out.symm; first | rfl | (simp; done) | (rw [Bool.true_and]; exact decide_eq_decide.2 (by omega)) | (simp; omega) | (simp_all; done) | (simp_all; omega))), Y4, X4, B4⟩
      case true =>
      by_cases hep : ep ≤ 1099511627776
      case neg =>
        go_wp2
        go_meet
        case rel => exact ⟨congrArg Value.bool (by first | exact HG.out.symm | (refine Eq.trans ?_ HG.out.symm; first | rfl | (simp; done) | (rw [Bool.true_and]; exact decide_eq_decide.2 (by omega)) | (simp; omega) | (simp_all; done) | (simp_all; omega))), Y4, X4, B4⟩
      case pos =>
      go_wp2_with fail
      refine (K3 _).mono ?_
      rintro e w5 ⟨rfl, hb5⟩
      have Y5 := blk_below Y4 hb5
      have X5 := blk_below X4 hb5
      have B5 := below2 B4 hb5
      clear hb5 K3 Y4 X4 B4 c3 c4 c5 c6 c7 c8 c9
      cases m
      case false =>
        go_wp2
        go_meet
        case rel => exact ⟨congrArg Value.bool (by first | exact HG.out.symm | (refine Eq.trans ?_ HG.out.symm; first | rfl | (simp; done) | (rw [Bool.true_and]; exact decide_eq_decide.2 (by omega)) | (simp; omega) | (simp_all; done) | (simp_all; omega))), Y5, X5, B5⟩
      case true =>
        go_wp2
        go_meet
        case rel => exact ⟨congrArg Value.bool (by first | exact HG.out.symm | (refine Eq.trans ?_ HG.out.symm; first | rfl | (simp; done) | (rw [Bool.true_and]; exact decide_eq_decide.2 (by omega)) | (simp; omega) | (simp_all; done) | (simp_all; omega))), Y5, X5, B5⟩
    case neg =>
    exact absurd HK.out k1
  case rest =>
    obtain ⟨rfl, hy, hx, hb⟩ := hcut
    clear HX1 HY1 hb1 HB1 cx0
    have hok := HOK.out
    clear HOK
    generalize goodC ⟨k, cl, sq, ep, op, pr, st, key, val, gr, wt⟩ = G at *
    generalize keepC ⟨k, cl, sq, ep, op, pr, st, key, val, gr, wt⟩ = R at *
    generalize (⟨k, cl, sq, ep, op, pr, st, key, val, gr, wt⟩ : Cm) = C at *
    have hq : ∀ W, (binOp .neq 28 (.agg (cmC R).toArray) (.agg (cmC C).toArray)).run Tryz.prog W = .ok (.bool (!decide (R = C))) W := fun W => cm_neq R C W
    have hgu : ∀ (x y : Operand) (W : World), (eqGuard .neq 28 x y (.agg (cmC R).toArray) (.agg (cmC C).toArray)).run Tryz.prog W = .ok () W := fun x y W => cm_guard .neq x y _ _ W
    have hr : wc.rangeAt (w.heap.size + 1) 0 (cmC R) := range_of_block hy [] _ [] (by simp)
    have hr2 : wc.rangeAt w.heap.size 0 (cmC C) := range_of_block hx [] _ [] (by simp)
    have hl : (cmC R).length = 20 := rfl
    have hi : (Tryz.prog.info? 28).map (·.size) = some (cmC R).length := by rw [hl]; kernel_rfl
    have hl2 : (cmC C).length = 20 := rfl
    have hi2 : (Tryz.prog.info? 28).map (·.size) = some (cmC C).length := by rw [hl2]; kernel_rfl
    generalize decide (R = C) = D at *
    generalize cmC R = L at *
    generalize cmC C = M at *
    clear hy hx hl hl2
    cases G
    case false =>
      obtain rfl : ok = false := hok
      go_wp2
      go_ret
      exact ⟨rfl, hb⟩
    case true =>
      obtain rfl : ok = D := hok
      cases ok
      all_goals
        go_wp2_with (first | refine wpList_load_w (by kernel_rfl) 28 _ rfl (w.heap.size + 1) 0 rfl L _ hr Tryz.underlying28 rfl hi ?_ | refine wpList_load_w (by kernel_rfl) 28 _ rfl w.heap.size 0 rfl M _ hr2 Tryz.underlying28 rfl hi2 ?_ | fail)
        go_ret
        exact ⟨rfl, hb⟩

end Go.Proofs.YtbdbefgfejdbjaaGreat
