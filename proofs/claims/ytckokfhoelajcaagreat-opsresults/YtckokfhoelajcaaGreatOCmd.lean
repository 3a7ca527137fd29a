/-
  ops.Cmd: may a command be? Written by mkocmd.py.
-/
import Derived.Test.YtckokfhoelajcaaGreatOChk3
import Derived.Test.YtckokfhoelajcaaGreatOEnts
import Derived.Test.YtckokfhoelajcaaGreatJDec
import Derived.Deep.Cut
import Derived.Deep.CutBlock
namespace Go.Proofs.YtckokfhoelajcaaGreat
open Go.RowKit Go.BigFrame
attribute [local go_sem] size_bstr toList_bstr

theorem wpList_load_w {P : Program} {ops : Array Oper} {rest : List Oper} {op : Oper} {a : Act} {w : World} {Q : Exit → Act → World → Prop} (hw : Region.wanted op (yielded ops a.tmps) = true) (ty : TypeId) (x : Operand) (ho : op.op = .load ty x)
    (b o : Nat) (hx : a.eval x = .pointer (some ⟨b, o, none⟩)) (cs : List Value) (d : TypeDesc) (hc : w.rangeAt b o cs) (hu : P.underlying ty = some d) (hd : d.isRow = true) (hi : (P.info? ty).map (·.size) = some cs.length)
    (h : wpList P ops Q rest (a.put op.dst (.agg cs.toArray)) w) : wpList P ops Q (op :: rest) a w :=
  wpList_step fun K hK => by
    rw [if_pos hw]
    exact wp_load_mid ty x ho b o hx cs d hc hu hd hi (hK _ _ h)
theorem blk_new (w : World) (t : TypeId) (cs : Array Value) : Blk (w.alloc (.cells cs t)) w.heap.size t cs := heap_alloc_new w _
theorem blk_below {w w' : World} {b : Nat} {t : TypeId} {cs : Array Value} (h : Blk w b t cs) (hb : Below w.heap.size w w') : Blk w' b t cs := (hb.block b (blk_lt h)).trans h
theorem blk_other {w : World} {b k o : Nat} {t : TypeId} {cs : Array Value} {v : Value} (h : Blk w b t cs) (hk : b ≠ k) : Blk (w.setCell ⟨k, o, none⟩ v) b t cs := (heap_set_other v hk).trans h

set_option maxHeartbeats 16000000 in
set_option maxRecDepth 100000 in
theorem oCmd_any (c : Cm) (w : World) : Calls Tryz.prog 10 #[cmV c] w fun e w' => e = .returned (.int .i64 (if okC c then 0 else 2)) ∧ Below w.heap.size w w' := by
  obtain ⟨k, cl, sq, ep, op, pr, st, key, val, gr, wt⟩ := c
  obtain ⟨ok, hok⟩ : ∃ ok, ok = okC ⟨k, cl, sq, ep, op, pr, st, key, val, gr, wt⟩ := ⟨_, rfl⟩
  rw [← hok]
  have HOK : Hid (ok = (goodC ⟨k, cl, sq, ep, op, pr, st, key, val, gr, wt⟩ && decide (restC ⟨k, cl, sq, ep, op, pr, st, key, val, gr, wt⟩ = cm0))) := hok
  clear hok
  obtain ⟨w0, hw0⟩ : ∃ w0, w0 = ((w.alloc (.cells (cmC ⟨k, cl, sq, ep, op, pr, st, key, val, gr, wt⟩).toArray 28)).alloc (.cells #[.int .i64 0, .int .i64 0, .int .u64 0, .int .u64 0, .int .i64 0, .string ⟨#[]⟩, .string ⟨#[]⟩, .string ⟨#[]⟩, .bool false, .string ⟨#[]⟩, .int .u64 0, .int .i64 0, .string ⟨#[]⟩, .string ⟨#[]⟩, .int .i64 0, .bool false, .int .i64 0, .string ⟨#[]⟩, .int .i64 0, .int .i64 0] 28)).setCells (w.heap.size + 1) 0 (cmC ⟨k, cl, sq, ep, op, pr, st, key, val, gr, wt⟩).toArray.toList := ⟨_, rfl⟩
  have hA : Below w.heap.size w ((w.alloc (.cells (cmC ⟨k, cl, sq, ep, op, pr, st, key, val, gr, wt⟩).toArray 28)).alloc (.cells #[.int .i64 0, .int .i64 0, .int .u64 0, .int .u64 0, .int .i64 0, .string ⟨#[]⟩, .string ⟨#[]⟩, .string ⟨#[]⟩, .bool false, .string ⟨#[]⟩, .int .u64 0, .int .i64 0, .string ⟨#[]⟩, .string ⟨#[]⟩, .int .i64 0, .bool false, .int .i64 0, .string ⟨#[]⟩, .int .i64 0, .int .i64 0] 28)) := ((Below.refl _ _).alloc (Nat.le_refl _) _).alloc (by simp) _
  have hb0 : Below w.heap.size w w0 := by
    rw [hw0]
    exact bel_cells (Nat.le_succ _) _ _ hA
  have hz : Blk ((w.alloc (.cells (cmC ⟨k, cl, sq, ep, op, pr, st, key, val, gr, wt⟩).toArray 28)).alloc (.cells #[.int .i64 0, .int .i64 0, .int .u64 0, .int .u64 0, .int .i64 0, .string ⟨#[]⟩, .string ⟨#[]⟩, .string ⟨#[]⟩, .bool false, .string ⟨#[]⟩, .int .u64 0, .int .i64 0, .string ⟨#[]⟩, .string ⟨#[]⟩, .int .i64 0, .bool false, .int .i64 0, .string ⟨#[]⟩, .int .i64 0, .int .i64 0] 28)) (w.heap.size + 1) 28 #[.int .i64 0, .int .i64 0, .int .u64 0, .int .u64 0, .int .i64 0, .string ⟨#[]⟩, .string ⟨#[]⟩, .string ⟨#[]⟩, .bool false, .string ⟨#[]⟩, .int .u64 0, .int .i64 0, .string ⟨#[]⟩, .string ⟨#[]⟩, .int .i64 0, .bool false, .int .i64 0, .string ⟨#[]⟩, .int .i64 0, .int .i64 0] := by
    have := blk_new (w.alloc (.cells (cmC ⟨k, cl, sq, ep, op, pr, st, key, val, gr, wt⟩).toArray 28)) 28 #[.int .i64 0, .int .i64 0, .int .u64 0, .int .u64 0, .int .i64 0, .string ⟨#[]⟩, .string ⟨#[]⟩, .string ⟨#[]⟩, .bool false, .string ⟨#[]⟩, .int .u64 0, .int .i64 0, .string ⟨#[]⟩, .string ⟨#[]⟩, .int .i64 0, .bool false, .int .i64 0, .string ⟨#[]⟩, .int .i64 0, .int .i64 0]
    rw [World.size_alloc] at this
    exact this
  have hy0 : Blk w0 (w.heap.size + 1) 28 (cmC ⟨k, cl, sq, ep, op, pr, st, key, val, gr, wt⟩).toArray := by
    rw [hw0]
    have h5 := blk_cells (cmC ⟨k, cl, sq, ep, op, pr, st, key, val, gr, wt⟩) 0 hz
    rw [setL_all (vs := cmC ⟨k, cl, sq, ep, op, pr, st, key, val, gr, wt⟩) (cs := #[.int .i64 0, .int .i64 0, .int .u64 0, .int .u64 0, .int .i64 0, .string ⟨#[]⟩, .string ⟨#[]⟩, .string ⟨#[]⟩, .bool false, .string ⟨#[]⟩, .int .u64 0, .int .i64 0, .string ⟨#[]⟩, .string ⟨#[]⟩, .int .i64 0, .bool false, .int .i64 0, .string ⟨#[]⟩, .int .i64 0, .int .i64 0]) rfl] at h5
    exact h5
  have hx0 : Blk w0 w.heap.size 28 (cmC ⟨k, cl, sq, ep, op, pr, st, key, val, gr, wt⟩).toArray := by
    rw [hw0]
    have h2 : ∀ (vs : List Value) (o : Nat) (W : World), (W.setCells (w.heap.size + 1) o vs).heap[w.heap.size]? = W.heap[w.heap.size]? := by
      intro vs
      induction vs with
      | nil => intro o W; rfl
      | cons v r ih => intro o W; rw [World.setCells, ih]; exact heap_set_other v (by omega)
    refine (h2 _ _ _).trans ?_
    exact (Below.heap_alloc _ _ _ (by simp)).trans (blk_new w _ _)
  have hr9 : (w.alloc (.cells (cmC ⟨k, cl, sq, ep, op, pr, st, key, val, gr, wt⟩).toArray 28)).rangeAt w.heap.size 0 (cmC ⟨k, cl, sq, ep, op, pr, st, key, val, gr, wt⟩) := range_of_block (blk_new w 28 (cmC ⟨k, cl, sq, ep, op, pr, st, key, val, gr, wt⟩).toArray) [] _ [] (by simp)
  have HW0 : Hid _ := hw0
  have HX0 : Hid (Blk w0 w.heap.size 28 (cmC ⟨k, cl, sq, ep, op, pr, st, key, val, gr, wt⟩).toArray) := hx0
  have HY0 : Hid (Blk w0 (w.heap.size + 1) 28 (cmC ⟨k, cl, sq, ep, op, pr, st, key, val, gr, wt⟩).toArray) := hy0
  have HB0 : Hid _ := hb0
  clear hw0 hA hx0 hy0 hb0
  go_enter Tryz.func10, Tryz.ntmps10
  go_upto_region 2 with (first | refine wpList_load_mid rfl 28 _ rfl w.heap.size 0 rfl (cmC ⟨k, cl, sq, ep, op, pr, st, key, val, gr, wt⟩) _ hr9 Tryz.underlying28 rfl (by kernel_rfl) ?_ | refine wpList_store_mid rfl 28 _ _ rfl (w.heap.size + 1) 0 (cmC ⟨k, cl, sq, ep, op, pr, st, key, val, gr, wt⟩).toArray rfl rfl (blk_there hz rfl) (by kernel_rfl) (by kernel_rfl) ?_ | fail)
  have hw0 := HW0.out
  rw [← hw0]
  clear hw0 HW0 hr9 hz
  have cz0 : w0.cell? ⟨w.heap.size + 1, 0, none⟩ = some (.int .i64 k) := (mcells HY0.out).1 0
  have fz0 : w0.frozen? ⟨w.heap.size + 1, 0, none⟩ = false := (mcells HY0.out).2 0
  obtain ⟨w1, hw1⟩ : ∃ w1, w1 = w0.setCell ⟨w.heap.size + 1, 0, none⟩ (.int .i64 0) := ⟨_, rfl⟩
  have hy1 : Blk w1 (w.heap.size + 1) 28 (cmC ⟨0, cl, sq, ep, op, pr, st, key, val, gr, wt⟩).toArray := by rw [hw1]; exact heap_set_same HY0.out (o := 0) (.int .i64 0)
  have hx1 : Blk w1 w.heap.size 28 (cmC ⟨k, cl, sq, ep, op, pr, st, key, val, gr, wt⟩).toArray := by rw [hw1]; exact blk_other HX0.out (by omega)
  have hb1 : Below w.heap.size w w1 := by rw [hw1]; exact bel_set HB0.out (Nat.le_succ _)
  have HW1 : Hid _ := hw1
  have HX1 : Hid (Blk w1 w.heap.size 28 (cmC ⟨k, cl, sq, ep, op, pr, st, key, val, gr, wt⟩).toArray) := hx1
  have HY1 : Hid (Blk w1 (w.heap.size + 1) 28 (cmC ⟨0, cl, sq, ep, op, pr, st, key, val, gr, wt⟩).toArray) := hy1
  have HB1 : Hid _ := hb1
  clear hw1 hx1 hy1 hb1
  go_upto_region 4 with fail
  have hw1 := HW1.out
  rw [← hw1]
  clear hw1 HW1 cz0 fz0 HX0 HY0 HB0
  have hx1 := HX1.out
  have hy1 := HY1.out
  have hb1 := HB1.out
  have cx0 : w1.cell? ⟨w.heap.size, 0, none⟩ = some (.int .i64 k) := (mcells hx1).1 0
  have HX1 : Hid (Blk w1 w.heap.size 28 (cmC ⟨k, cl, sq, ep, op, pr, st, key, val, gr, wt⟩).toArray) := hx1
  have HY1 : Hid (Blk w1 (w.heap.size + 1) 28 (cmC ⟨0, cl, sq, ep, op, pr, st, key, val, gr, wt⟩).toArray) := hy1
  clear hx1 hy1
  go_upto_block 0 with fail
  go_cut [4] from 9 to 117 (fun s4 wx => s4 = .bool (goodC ⟨k, cl, sq, ep, op, pr, st, key, val, gr, wt⟩) ∧ Blk wx (w.heap.size + 1) 28 (cmC (restC ⟨k, cl, sq, ep, op, pr, st, key, val, gr, wt⟩)).toArray ∧ Below w.heap.size w wx)
  case first =>
    have hx1 := HX1.out
    have hy1 := HY1.out
    clear HX1 HY1 cx0
    by_cases k0 : k = 0
    case pos =>
      subst k0
      go_wp2
      go_meet
      case rel => exact ⟨rfl, hy1, hb1⟩
    case neg =>
    by_cases k1 : k = 1
    case pos =>
      subst k1
      have d1 : w1.cell? ⟨w.heap.size + 1, 1, none⟩ = some (.int .i64 cl) := (mcells hy1).1 1
      have d2 : w1.cell? ⟨w.heap.size + 1, 2, none⟩ = some (.int .u64 sq) := (mcells hy1).1 2
      have d3 : w1.cell? ⟨w.heap.size + 1, 3, none⟩ = some (.int .u64 ep) := (mcells hy1).1 3
      have d4 : w1.cell? ⟨w.heap.size + 1, 4, none⟩ = some (.int .i64 op.kind) := (mcells hy1).1 4
      have d5 : w1.cell? ⟨w.heap.size + 1, 5, none⟩ = some (.string (bstr op.row)) := (mcells hy1).1 5
      have d6 : w1.cell? ⟨w.heap.size + 1, 6, none⟩ = some (.string (bstr op.col)) := (mcells hy1).1 6
      have d7 : w1.cell? ⟨w.heap.size + 1, 7, none⟩ = some (.string (bstr op.val)) := (mcells hy1).1 7
      have d8 : w1.cell? ⟨w.heap.size + 1, 8, none⟩ = some (.bool op.has) := (mcells hy1).1 8
      have d9 : w1.cell? ⟨w.heap.size + 1, 9, none⟩ = some (.string (bstr op.exp)) := (mcells hy1).1 9
      have fy := (mcells hy1).2
      obtain ⟨w2, hw2⟩ : ∃ w2, w2 = (((((((((w1.setCell ⟨w.heap.size + 1, 1, none⟩ (.int .i64 0)).setCell ⟨w.heap.size + 1, 2, none⟩ (.int .u64 0)).setCell ⟨w.heap.size + 1, 3, none⟩ (.int .u64 0)).setCell ⟨w.heap.size + 1, 4, none⟩ (.int .i64 0)).setCell ⟨w.heap.size + 1, 5, none⟩ (.string ⟨#[]⟩)).setCell ⟨w.heap.size + 1, 6, none⟩ (.string ⟨#[]⟩)).setCell ⟨w.heap.size + 1, 7, none⟩ (.string ⟨#[]⟩)).setCell ⟨w.heap.size + 1, 8, none⟩ (.bool false)).setCell ⟨w.heap.size + 1, 9, none⟩ (.string ⟨#[]⟩)) := ⟨_, rfl⟩
      have y2 : Blk w2 (w.heap.size + 1) 28 (cmC (restC ⟨1, cl, sq, ep, op, pr, st, key, val, gr, wt⟩)).toArray := by rw [hw2]; have h9 := (heap_set_same (heap_set_same (heap_set_same (heap_set_same (heap_set_same (heap_set_same (heap_set_same (heap_set_same (heap_set_same hy1 (o := 1) (.int .i64 0)) (o := 2) (.int .u64 0)) (o := 3) (.int .u64 0)) (o := 4) (.int .i64 0)) (o := 5) (.string ⟨#[]⟩)) (o := 6) (.string ⟨#[]⟩)) (o := 7) (.string ⟨#[]⟩)) (o := 8) (.bool false)) (o := 9) (.string ⟨#[]⟩)); refine h9.trans ?_; kernel_rfl
      have x2 : Blk w2 w.heap.size 28 (cmC ⟨1, cl, sq, ep, op, pr, st, key, val, gr, wt⟩).toArray := by rw [hw2]; exact (blk_other (blk_other (blk_other (blk_other (blk_other (blk_other (blk_other (blk_other (blk_other hx1 (by omega)) (by omega)) (by omega)) (by omega)) (by omega)) (by omega)) (by omega)) (by omega)) (by omega))
      have b2 : Below w.heap.size w w2 := by rw [hw2]; exact (bel_set (bel_set (bel_set (bel_set (bel_set (bel_set (bel_set (bel_set (bel_set hb1 (Nat.le_succ _)) (Nat.le_succ _)) (Nat.le_succ _)) (Nat.le_succ _)) (Nat.le_succ _)) (Nat.le_succ _)) (Nat.le_succ _)) (Nat.le_succ _)) (Nat.le_succ _))
      have Y2 : Hid (Blk w2 (w.heap.size + 1) 28 (cmC (restC ⟨1, cl, sq, ep, op, pr, st, key, val, gr, wt⟩)).toArray) := y2
      have X2 : Hid (Blk w2 w.heap.size 28 (cmC ⟨1, cl, sq, ep, op, pr, st, key, val, gr, wt⟩).toArray) := x2
      have B2 : Hid _ := b2
      have HW2 : Hid _ := hw2
      clear y2 x2 b2 hw2 hx1 hy1 hb1
      go_upto_region 9 with fail
      have hw2 := HW2.out
      rw [← hw2]
      clear hw2 HW2 d1 d2 d3 d4 d5 d6 d7 d8 d9 fy
      have c1 : w2.cell? ⟨w.heap.size, 1, none⟩ = some (.int .i64 cl) := (mcells X2.out).1 1
      have c2 : w2.cell? ⟨w.heap.size, 2, none⟩ = some (.int .u64 sq) := (mcells X2.out).1 2
      have c3 : w2.cell? ⟨w.heap.size, 3, none⟩ = some (.int .u64 ep) := (mcells X2.out).1 3
      have hr : w2.rangeAt w.heap.size 4 (oqC op).toList := range_of_block X2.out [.int .i64 1, .int .i64 cl, .int .u64 sq, .int .u64 ep] (oqC op).toList [.int .u64 pr, .int .i64 st, .string (bstr key), .string (bstr val), .int .i64 gr, .bool wt.mv, .int .i64 wt.g, .string (bstr wt.key), .int .i64 wt.i, .int .i64 wt.o] rfl
      go_wp2_with (first | refine wpList_load_mid rfl 24 _ rfl w.heap.size 4 rfl (oqC op).toList _ hr Tryz.underlying24 rfl (by kernel_rfl) ?_ | fail)
      refine (show Calls Tryz.prog _ #[_, _, _, .agg (oqC op).toList.toArray] _ _ from (oAsked_any cl sq ep op w2)).mono ?_
      rintro e w3 ⟨rfl, hb3⟩
      have Y3 := blk_below Y2.out hb3
      have B3 := below2 B2.out hb3
      clear hr c1 c2 c3
      go_wp2
      go_meet
      case rel => exact ⟨rfl, Y3, B3⟩
    case neg =>
    by_cases k2 : k = 2
    case pos =>
      subst k2
      have d10 : w1.cell? ⟨w.heap.size + 1, 10, none⟩ = some (.int .u64 pr) := (mcells hy1).1 10
      have d11 : w1.cell? ⟨w.heap.size + 1, 11, none⟩ = some (.int .i64 st) := (mcells hy1).1 11
      have d3 : w1.cell? ⟨w.heap.size + 1, 3, none⟩ = some (.int .u64 ep) := (mcells hy1).1 3
      have fy := (mcells hy1).2
      obtain ⟨w2, hw2⟩ : ∃ w2, w2 = (((w1.setCell ⟨w.heap.size + 1, 10, none⟩ (.int .u64 0)).setCell ⟨w.heap.size + 1, 11, none⟩ (.int .i64 0)).setCell ⟨w.heap.size + 1, 3, none⟩ (.int .u64 0)) := ⟨_, rfl⟩
      have y2 : Blk w2 (w.heap.size + 1) 28 (cmC (restC ⟨2, cl, sq, ep, op, pr, st, key, val, gr, wt⟩)).toArray := by rw [hw2]; have h9 := (heap_set_same (heap_set_same (heap_set_same hy1 (o := 10) (.int .u64 0)) (o := 11) (.int .i64 0)) (o := 3) (.int .u64 0)); refine h9.trans ?_; kernel_rfl
      have x2 : Blk w2 w.heap.size 28 (cmC ⟨2, cl, sq, ep, op, pr, st, key, val, gr, wt⟩).toArray := by rw [hw2]; exact (blk_other (blk_other (blk_other hx1 (by omega)) (by omega)) (by omega))
      have b2 : Below w.heap.size w w2 := by rw [hw2]; exact (bel_set (bel_set (bel_set hb1 (Nat.le_succ _)) (Nat.le_succ _)) (Nat.le_succ _))
      have Y2 : Hid (Blk w2 (w.heap.size + 1) 28 (cmC (restC ⟨2, cl, sq, ep, op, pr, st, key, val, gr, wt⟩)).toArray) := y2
      have X2 : Hid (Blk w2 w.heap.size 28 (cmC ⟨2, cl, sq, ep, op, pr, st, key, val, gr, wt⟩).toArray) := x2
      have B2 : Hid _ := b2
      have HW2 : Hid _ := hw2
      clear y2 x2 b2 hw2 hx1 hy1 hb1
      go_upto_region 13 with fail
      have hw2 := HW2.out
      rw [← hw2]
      clear hw2 HW2 d10 d11 d3 fy
      have c10 : w2.cell? ⟨w.heap.size, 10, none⟩ = some (.int .u64 pr) := (mcells X2.out).1 10
      have c11 : w2.cell? ⟨w.heap.size, 11, none⟩ = some (.int .i64 st) := (mcells X2.out).1 11
      have c3 : w2.cell? ⟨w.heap.size, 3, none⟩ = some (.int .u64 ep) := (mcells X2.out).1 3
      have hgd : ∀ b, b = stepB pr st → goodC ⟨2, cl, sq, ep, op, pr, st, key, val, gr, wt⟩ = (b && decide (ep ≤ 1099511627776)) := by rintro b rfl; rfl
      have K := fun W : World => (show Calls Tryz.prog _ _ W (fun e w' => e = .returned (.bool (stepB pr st)) ∧ Below W.heap.size W w') from oStep_any pr st W)
      generalize stepB pr st = b at *
      have hgd := hgd b rfl
      have HG : Hid _ := hgd
      clear hgd
      go_wp2_with fail
      refine (K _).mono ?_
      rintro e w3 ⟨rfl, hb3⟩
      have Y3 := blk_below Y2.out hb3
      have B3 := below2 B2.out hb3
      replace c3 := cell_below hb3 c3
      clear c10 c11 hb3 K
      cases b
      case false =>
        go_wp2
        go_meet
        case rel => exact ⟨congrArg Value.bool (by first | exact HG.out.symm | (refine Eq.trans ?_ HG.out.symm; first | rfl | (simp; done) | (rw [Bool.true_and]; exact decide_eq_decide.2 (by omega)) | (simp; omega) | (simp_all; done) | (simp_all; omega))), Y3, B3⟩
      case true =>
        go_wp2
        go_meet
        case rel => exact ⟨congrArg Value.bool (by first | exact HG.out.symm | (refine Eq.trans ?_ HG.out.symm; first | rfl | (simp; done) | (rw [Bool.true_and]; exact decide_eq_decide.2 (by omega)) | (simp; omega) | (simp_all; done) | (simp_all; omega))), Y3, B3⟩
    case neg =>
    by_cases k3 : k = 3
    case pos =>
      subst k3
      have d10 : w1.cell? ⟨w.heap.size + 1, 10, none⟩ = some (.int .u64 pr) := (mcells hy1).1 10
      have d11 : w1.cell? ⟨w.heap.size + 1, 11, none⟩ = some (.int .i64 st) := (mcells hy1).1 11
      have d3 : w1.cell? ⟨w.heap.size + 1, 3, none⟩ = some (.int .u64 ep) := (mcells hy1).1 3
      have d12 : w1.cell? ⟨w.heap.size + 1, 12, none⟩ = some (.string (bstr key)) := (mcells hy1).1 12
      have d14 : w1.cell? ⟨w.heap.size + 1, 14, none⟩ = some (.int .i64 gr) := (mcells hy1).1 14
      have fy := (mcells hy1).2
      obtain ⟨w2, hw2⟩ : ∃ w2, w2 = (((((w1.setCell ⟨w.heap.size + 1, 10, none⟩ (.int .u64 0)).setCell ⟨w.heap.size + 1, 11, none⟩ (.int .i64 0)).setCell ⟨w.heap.size + 1, 3, none⟩ (.int .u64 0)).setCell ⟨w.heap.size + 1, 12, none⟩ (.string ⟨#[]⟩)).setCell ⟨w.heap.size + 1, 14, none⟩ (.int .i64 0)) := ⟨_, rfl⟩
      have y2 : Blk w2 (w.heap.size + 1) 28 (cmC (restC ⟨3, cl, sq, ep, op, pr, st, key, val, gr, wt⟩)).toArray := by rw [hw2]; have h9 := (heap_set_same (heap_set_same (heap_set_same (heap_set_same (heap_set_same hy1 (o := 10) (.int .u64 0)) (o := 11) (.int .i64 0)) (o := 3) (.int .u64 0)) (o := 12) (.string ⟨#[]⟩)) (o := 14) (.int .i64 0)); refine h9.trans ?_; kernel_rfl
      have x2 : Blk w2 w.heap.size 28 (cmC ⟨3, cl, sq, ep, op, pr, st, key, val, gr, wt⟩).toArray := by rw [hw2]; exact (blk_other (blk_other (blk_other (blk_other (blk_other hx1 (by omega)) (by omega)) (by omega)) (by omega)) (by omega))
      have b2 : Below w.heap.size w w2 := by rw [hw2]; exact (bel_set (bel_set (bel_set (bel_set (bel_set hb1 (Nat.le_succ _)) (Nat.le_succ _)) (Nat.le_succ _)) (Nat.le_succ _)) (Nat.le_succ _))
      have Y2 : Hid (Blk w2 (w.heap.size + 1) 28 (cmC (restC ⟨3, cl, sq, ep, op, pr, st, key, val, gr, wt⟩)).toArray) := y2
      have X2 : Hid (Blk w2 w.heap.size 28 (cmC ⟨3, cl, sq, ep, op, pr, st, key, val, gr, wt⟩).toArray) := x2
      have B2 : Hid _ := b2
      have HW2 : Hid _ := hw2
      clear y2 x2 b2 hw2 hx1 hy1 hb1
      go_upto_region 16 with fail
      have hw2 := HW2.out
      rw [← hw2]
      clear hw2 HW2 d10 d11 d3 d12 d14 fy
      have c10 : w2.cell? ⟨w.heap.size, 10, none⟩ = some (.int .u64 pr) := (mcells X2.out).1 10
      have c11 : w2.cell? ⟨w.heap.size, 11, none⟩ = some (.int .i64 st) := (mcells X2.out).1 11
      have c3 : w2.cell? ⟨w.heap.size, 3, none⟩ = some (.int .u64 ep) := (mcells X2.out).1 3
      have c12 : w2.cell? ⟨w.heap.size, 12, none⟩ = some (.string (bstr key)) := (mcells X2.out).1 12
      have c14 : w2.cell? ⟨w.heap.size, 14, none⟩ = some (.int .i64 gr) := (mcells X2.out).1 14
      have hgd : ∀ b, b = stepB pr st → goodC ⟨3, cl, sq, ep, op, pr, st, key, val, gr, wt⟩ = (b && decide (ep ≤ 1099511627776) && userB key && groupB gr && decide (3 < gr)) := by rintro b rfl; rfl
      have K := fun W : World => (show Calls Tryz.prog _ _ W (fun e w' => e = .returned (.bool (stepB pr st)) ∧ Below W.heap.size W w') from oStep_any pr st W)
      have K2 := fun W : World => User_any key W
      have K3 := fun W : World => (show Calls Tryz.prog _ _ W (fun e w' => e = .returned (.bool (groupB gr)) ∧ Below W.heap.size W w') from oGroup_any gr W)
      generalize userB key = u at *
      generalize groupB gr = gb at *
      generalize stepB pr st = b at *
      have hgd := hgd b rfl
      have HG : Hid _ := hgd
      clear hgd
      go_wp2_with fail
      refine (K _).mono ?_
      rintro e w3 ⟨rfl, hb3⟩
      have Y3 := blk_below Y2.out hb3
      have B3 := below2 B2.out hb3
      replace c3 := cell_below hb3 c3
      replace c12 := cell_below hb3 c12
      replace c14 := cell_below hb3 c14
      clear c10 c11 hb3 K
      cases b
      case false =>
        go_wp2
        go_meet
        case rel => exact ⟨congrArg Value.bool (by first | exact HG.out.symm | (refine Eq.trans ?_ HG.out.symm; first | rfl | (simp; done) | (rw [Bool.true_and]; exact decide_eq_decide.2 (by omega)) | (simp; omega) | (simp_all; done) | (simp_all; omega))), Y3, B3⟩
      case true =>
        by_cases hep : ep ≤ 1099511627776
        case neg =>
          go_wp2
          go_meet
          case rel => exact ⟨congrArg Value.bool (by first | exact HG.out.symm | (refine Eq.trans ?_ HG.out.symm; first | rfl | (simp; done) | (rw [Bool.true_and]; exact decide_eq_decide.2 (by omega)) | (simp; omega) | (simp_all; done) | (simp_all; omega))), Y3, B3⟩
        case pos =>
        go_wp2_with fail
        refine (K2 _).mono ?_
        rintro e w4 ⟨rfl, hb4⟩
        have Y4 := blk_below Y3 hb4
        have B4 := below2 B3 hb4
        replace c14 := cell_below hb4 c14
        clear hb4 K2 Y3 B3 c3 c12
        cases u
        case false =>
          go_wp2
          go_meet
          case rel => exact ⟨congrArg Value.bool (by first | exact HG.out.symm | (refine Eq.trans ?_ HG.out.symm; first | rfl | (simp; done) | (rw [Bool.true_and]; exact decide_eq_decide.2 (by omega)) | (simp; omega) | (simp_all; done) | (simp_all; omega))), Y4, B4⟩
        case true =>
        go_wp2_with fail
        refine (K3 _).mono ?_
        rintro e w5 ⟨rfl, hb5⟩
        have Y5 := blk_below Y4 hb5
        have B5 := below2 B4 hb5
        replace c14 := cell_below hb5 c14
        clear hb5 K3 Y4 B4
        cases gb
        case false =>
          go_wp2
          go_meet
          case rel => exact ⟨congrArg Value.bool (by first | exact HG.out.symm | (refine Eq.trans ?_ HG.out.symm; first | rfl | (simp; done) | (rw [Bool.true_and]; exact decide_eq_decide.2 (by omega)) | (simp; omega) | (simp_all; done) | (simp_all; omega))), Y5, B5⟩
        case true =>
          go_wp2
          go_meet
          case rel => exact ⟨congrArg Value.bool (by first | exact HG.out.symm | (refine Eq.trans ?_ HG.out.symm; first | rfl | (simp; done) | (rw [Bool.true_and]; exact decide_eq_decide.2 (by omega)) | (simp; omega) | (simp_all; done) | (simp_all; omega))), Y5, B5⟩
    case neg =>
    by_cases k4 : k = 4
    case pos =>
      subst k4
      have d10 : w1.cell? ⟨w.heap.size + 1, 10, none⟩ = some (.int .u64 pr) := (mcells hy1).1 10
      have d11 : w1.cell? ⟨w.heap.size + 1, 11, none⟩ = some (.int .i64 st) := (mcells hy1).1 11
      have d3 : w1.cell? ⟨w.heap.size + 1, 3, none⟩ = some (.int .u64 ep) := (mcells hy1).1 3
      have fy := (mcells hy1).2
      obtain ⟨w2, hw2⟩ : ∃ w2, w2 = (((w1.setCell ⟨w.heap.size + 1, 10, none⟩ (.int .u64 0)).setCell ⟨w.heap.size + 1, 11, none⟩ (.int .i64 0)).setCell ⟨w.heap.size + 1, 3, none⟩ (.int .u64 0)) := ⟨_, rfl⟩
      have y2 : Blk w2 (w.heap.size + 1) 28 (cmC (restC ⟨4, cl, sq, ep, op, pr, st, key, val, gr, wt⟩)).toArray := by rw [hw2]; have h9 := (heap_set_same (heap_set_same (heap_set_same hy1 (o := 10) (.int .u64 0)) (o := 11) (.int .i64 0)) (o := 3) (.int .u64 0)); refine h9.trans ?_; kernel_rfl
      have x2 : Blk w2 w.heap.size 28 (cmC ⟨4, cl, sq, ep, op, pr, st, key, val, gr, wt⟩).toArray := by rw [hw2]; exact (blk_other (blk_other (blk_other hx1 (by omega)) (by omega)) (by omega))
      have b2 : Below w.heap.size w w2 := by rw [hw2]; exact (bel_set (bel_set (bel_set hb1 (Nat.le_succ _)) (Nat.le_succ _)) (Nat.le_succ _))
      have Y2 : Hid (Blk w2 (w.heap.size + 1) 28 (cmC (restC ⟨4, cl, sq, ep, op, pr, st, key, val, gr, wt⟩)).toArray) := y2
      have X2 : Hid (Blk w2 w.heap.size 28 (cmC ⟨4, cl, sq, ep, op, pr, st, key, val, gr, wt⟩).toArray) := x2
      have B2 : Hid _ := b2
      have HW2 : Hid _ := hw2
      clear y2 x2 b2 hw2 hx1 hy1 hb1
      go_upto_region 13 with fail
      have hw2 := HW2.out
      rw [← hw2]
      clear hw2 HW2 d10 d11 d3 fy
      have c10 : w2.cell? ⟨w.heap.size, 10, none⟩ = some (.int .u64 pr) := (mcells X2.out).1 10
      have c11 : w2.cell? ⟨w.heap.size, 11, none⟩ = some (.int .i64 st) := (mcells X2.out).1 11
      have c3 : w2.cell? ⟨w.heap.size, 3, none⟩ = some (.int .u64 ep) := (mcells X2.out).1 3
      have hgd : ∀ b, b = stepB pr st → goodC ⟨4, cl, sq, ep, op, pr, st, key, val, gr, wt⟩ = (b && decide (ep ≤ 1099511627776)) := by rintro b rfl; rfl
      have K := fun W : World => (show Calls Tryz.prog _ _ W (fun e w' => e = .returned (.bool (stepB pr st)) ∧ Below W.heap.size W w') from oStep_any pr st W)
      generalize stepB pr st = b at *
      have hgd := hgd b rfl
      have HG : Hid _ := hgd
      clear hgd
      go_wp2_with fail
      refine (K _).mono ?_
      rintro e w3 ⟨rfl, hb3⟩
      have Y3 := blk_below Y2.out hb3
      have B3 := below2 B2.out hb3
      replace c3 := cell_below hb3 c3
      clear c10 c11 hb3 K
      cases b
      case false =>
        go_wp2
        go_meet
        case rel => exact ⟨congrArg Value.bool (by first | exact HG.out.symm | (refine Eq.trans ?_ HG.out.symm; first | rfl | (simp; done) | (rw [Bool.true_and]; exact decide_eq_decide.2 (by omega)) | (simp; omega) | (simp_all; done) | (simp_all; omega))), Y3, B3⟩
      case true =>
        go_wp2
        go_meet
        case rel => exact ⟨congrArg Value.bool (by first | exact HG.out.symm | (refine Eq.trans ?_ HG.out.symm; first | rfl | (simp; done) | (rw [Bool.true_and]; exact decide_eq_decide.2 (by omega)) | (simp; omega) | (simp_all; done) | (simp_all; omega))), Y3, B3⟩
    case neg =>
    by_cases k5 : k = 5
    case pos =>
      subst k5
      have d10 : w1.cell? ⟨w.heap.size + 1, 10, none⟩ = some (.int .u64 pr) := (mcells hy1).1 10
      have d11 : w1.cell? ⟨w.heap.size + 1, 11, none⟩ = some (.int .i64 st) := (mcells hy1).1 11
      have d12 : w1.cell? ⟨w.heap.size + 1, 12, none⟩ = some (.string (bstr key)) := (mcells hy1).1 12
      have d13 : w1.cell? ⟨w.heap.size + 1, 13, none⟩ = some (.string (bstr val)) := (mcells hy1).1 13
      have fy := (mcells hy1).2
      obtain ⟨w2, hw2⟩ : ∃ w2, w2 = ((((w1.setCell ⟨w.heap.size + 1, 10, none⟩ (.int .u64 0)).setCell ⟨w.heap.size + 1, 11, none⟩ (.int .i64 0)).setCell ⟨w.heap.size + 1, 12, none⟩ (.string ⟨#[]⟩)).setCell ⟨w.heap.size + 1, 13, none⟩ (.string ⟨#[]⟩)) := ⟨_, rfl⟩
      have y2 : Blk w2 (w.heap.size + 1) 28 (cmC (restC ⟨5, cl, sq, ep, op, pr, st, key, val, gr, wt⟩)).toArray := by rw [hw2]; have h9 := (heap_set_same (heap_set_same (heap_set_same (heap_set_same hy1 (o := 10) (.int .u64 0)) (o := 11) (.int .i64 0)) (o := 12) (.string ⟨#[]⟩)) (o := 13) (.string ⟨#[]⟩)); refine h9.trans ?_; kernel_rfl
      have x2 : Blk w2 w.heap.size 28 (cmC ⟨5, cl, sq, ep, op, pr, st, key, val, gr, wt⟩).toArray := by rw [hw2]; exact (blk_other (blk_other (blk_other (blk_other hx1 (by omega)) (by omega)) (by omega)) (by omega))
      have b2 : Below w.heap.size w w2 := by rw [hw2]; exact (bel_set (bel_set (bel_set (bel_set hb1 (Nat.le_succ _)) (Nat.le_succ _)) (Nat.le_succ _)) (Nat.le_succ _))
      have Y2 : Hid (Blk w2 (w.heap.size + 1) 28 (cmC (restC ⟨5, cl, sq, ep, op, pr, st, key, val, gr, wt⟩)).toArray) := y2
      have X2 : Hid (Blk w2 w.heap.size 28 (cmC ⟨5, cl, sq, ep, op, pr, st, key, val, gr, wt⟩).toArray) := x2
      have B2 : Hid _ := b2
      have HW2 : Hid _ := hw2
      clear y2 x2 b2 hw2 hx1 hy1 hb1
      go_upto_region 19 with fail
      have hw2 := HW2.out
      rw [← hw2]
      clear hw2 HW2 d10 d11 d12 d13 fy
      have c10 : w2.cell? ⟨w.heap.size, 10, none⟩ = some (.int .u64 pr) := (mcells X2.out).1 10
      have c11 : w2.cell? ⟨w.heap.size, 11, none⟩ = some (.int .i64 st) := (mcells X2.out).1 11
      have c12 : w2.cell? ⟨w.heap.size, 12, none⟩ = some (.string (bstr key)) := (mcells X2.out).1 12
      have c13 : w2.cell? ⟨w.heap.size, 13, none⟩ = some (.string (bstr val)) := (mcells X2.out).1 13
      have hgd : ∀ b, b = stepB pr st → goodC ⟨5, cl, sq, ep, op, pr, st, key, val, gr, wt⟩ = (b && !decide (key = []) && storedB key && decide (val.length ≤ 256)) := by rintro b rfl; rfl
      have K := fun W : World => (show Calls Tryz.prog _ _ W (fun e w' => e = .returned (.bool (stepB pr st)) ∧ Below W.heap.size W w') from oStep_any pr st W)
      have K2 := fun W : World => Stored_any key W
      generalize storedB key = u at *
      generalize stepB pr st = b at *
      have hgd := hgd b rfl
      have HG : Hid _ := hgd
      clear hgd
      go_wp2_with fail
      refine (K _).mono ?_
      rintro e w3 ⟨rfl, hb3⟩
      have Y3 := blk_below Y2.out hb3
      have B3 := below2 B2.out hb3
      replace c12 := cell_below hb3 c12
      replace c13 := cell_below hb3 c13
      clear c10 c11 hb3 K
      cases b
      case false =>
        go_wp2
        go_meet
        case rel => exact ⟨congrArg Value.bool (by first | exact HG.out.symm | (refine Eq.trans ?_ HG.out.symm; first | rfl | (simp; done) | (rw [Bool.true_and]; exact decide_eq_decide.2 (by omega)) | (simp; omega) | (simp_all; done) | (simp_all; omega))), Y3, B3⟩
      case true =>
        by_cases hk : key = []
        case pos =>
          subst hk
          go_wp2
          go_meet
          case rel => exact ⟨congrArg Value.bool (by first | exact HG.out.symm | (refine Eq.trans ?_ HG.out.symm; first | rfl | (simp; done) | (rw [Bool.true_and]; exact decide_eq_decide.2 (by omega)) | (simp; omega) | (simp_all; done) | (simp_all; omega))), Y3, B3⟩
        case neg =>
        have hk2 : (key == ([] : List UInt8)) = false := beq_eq_false_iff_ne.2 hk
        go_wp2_with fail
        refine (K2 _).mono ?_
        rintro e w4 ⟨rfl, hb4⟩
        have Y4 := blk_below Y3 hb4
        have B4 := below2 B3 hb4
        replace c13 := cell_below hb4 c13
        clear hb4 K2 Y3 B3 c12
        cases u
        case false =>
          go_wp2
          go_meet
          case rel => exact ⟨congrArg Value.bool (by first | exact HG.out.symm | (refine Eq.trans ?_ HG.out.symm; first | rfl | (simp; done) | (rw [Bool.true_and]; exact decide_eq_decide.2 (by omega)) | (simp; omega) | (simp_all; done) | (simp_all; omega))), Y4, B4⟩
        case true =>
          go_wp2
          go_meet
          case rel => exact ⟨congrArg Value.bool (by first | exact HG.out.symm | (refine Eq.trans ?_ HG.out.symm; first | rfl | (simp; done) | (rw [Bool.true_and]; exact decide_eq_decide.2 (by omega)) | (simp; omega) | (simp_all; done) | (simp_all; omega))), Y4, B4⟩
    case neg =>
    by_cases k6 : k = 6
    case pos =>
      subst k6
      have d15 : w1.cell? ⟨w.heap.size + 1, 15, none⟩ = some (.bool wt.mv) := (mcells hy1).1 15
      have d16 : w1.cell? ⟨w.heap.size + 1, 16, none⟩ = some (.int .i64 wt.g) := (mcells hy1).1 16
      have d17 : w1.cell? ⟨w.heap.size + 1, 17, none⟩ = some (.string (bstr wt.key)) := (mcells hy1).1 17
      have d18 : w1.cell? ⟨w.heap.size + 1, 18, none⟩ = some (.int .i64 wt.i) := (mcells hy1).1 18
      have d19 : w1.cell? ⟨w.heap.size + 1, 19, none⟩ = some (.int .i64 wt.o) := (mcells hy1).1 19
      have fy := (mcells hy1).2
      obtain ⟨w2, hw2⟩ : ∃ w2, w2 = (((((w1.setCell ⟨w.heap.size + 1, 15, none⟩ (.bool false)).setCell ⟨w.heap.size + 1, 16, none⟩ (.int .i64 0)).setCell ⟨w.heap.size + 1, 17, none⟩ (.string ⟨#[]⟩)).setCell ⟨w.heap.size + 1, 18, none⟩ (.int .i64 0)).setCell ⟨w.heap.size + 1, 19, none⟩ (.int .i64 0)) := ⟨_, rfl⟩
      have y2 : Blk w2 (w.heap.size + 1) 28 (cmC (restC ⟨6, cl, sq, ep, op, pr, st, key, val, gr, wt⟩)).toArray := by rw [hw2]; have h9 := (heap_set_same (heap_set_same (heap_set_same (heap_set_same (heap_set_same hy1 (o := 15) (.bool false)) (o := 16) (.int .i64 0)) (o := 17) (.string ⟨#[]⟩)) (o := 18) (.int .i64 0)) (o := 19) (.int .i64 0)); refine h9.trans ?_; kernel_rfl
      have x2 : Blk w2 w.heap.size 28 (cmC ⟨6, cl, sq, ep, op, pr, st, key, val, gr, wt⟩).toArray := by rw [hw2]; exact (blk_other (blk_other (blk_other (blk_other (blk_other hx1 (by omega)) (by omega)) (by omega)) (by omega)) (by omega))
      have b2 : Below w.heap.size w w2 := by rw [hw2]; exact (bel_set (bel_set (bel_set (bel_set (bel_set hb1 (Nat.le_succ _)) (Nat.le_succ _)) (Nat.le_succ _)) (Nat.le_succ _)) (Nat.le_succ _))
      have Y2 : Hid (Blk w2 (w.heap.size + 1) 28 (cmC (restC ⟨6, cl, sq, ep, op, pr, st, key, val, gr, wt⟩)).toArray) := y2
      have X2 : Hid (Blk w2 w.heap.size 28 (cmC ⟨6, cl, sq, ep, op, pr, st, key, val, gr, wt⟩).toArray) := x2
      have B2 : Hid _ := b2
      have HW2 : Hid _ := hw2
      clear y2 x2 b2 hw2 hx1 hy1 hb1
      go_upto_region 22 with fail
      have hw2 := HW2.out
      rw [← hw2]
      clear hw2 HW2 d15 d16 d17 d18 d19 fy
      have hr : w2.rangeAt w.heap.size 15 (wtC wt) := range_of_block X2.out [.int .i64 6, .int .i64 cl, .int .u64 sq, .int .u64 ep, .int .i64 op.kind, .string (bstr op.row), .string (bstr op.col), .string (bstr op.val), .bool op.has, .string (bstr op.exp), .int .u64 pr, .int .i64 st, .string (bstr key), .string (bstr val), .int .i64 gr] (wtC wt) [] rfl
      go_wp2_with (first | refine wpList_load_mid rfl 26 _ rfl w.heap.size 15 rfl (wtC wt) _ hr Tryz.underlying26 rfl (by kernel_rfl) ?_ | fail)
      refine (show Calls Tryz.prog _ #[.agg (wtC wt).toArray] _ _ from (oWant_any wt w2)).mono ?_
      rintro e w3 ⟨rfl, hb3⟩
      have Y3 := blk_below Y2.out hb3
      have B3 := below2 B2.out hb3
      clear hr
      go_wp2
      go_meet
      case rel => exact ⟨rfl, Y3, B3⟩
    case neg =>
    by_cases k7 : k = 7
    case pos =>
      subst k7
      have d10 : w1.cell? ⟨w.heap.size + 1, 10, none⟩ = some (.int .u64 pr) := (mcells hy1).1 10
      have d11 : w1.cell? ⟨w.heap.size + 1, 11, none⟩ = some (.int .i64 st) := (mcells hy1).1 11
      have fy := (mcells hy1).2
      obtain ⟨w2, hw2⟩ : ∃ w2, w2 = ((w1.setCell ⟨w.heap.size + 1, 10, none⟩ (.int .u64 0)).setCell ⟨w.heap.size + 1, 11, none⟩ (.int .i64 0)) := ⟨_, rfl⟩
      have y2 : Blk w2 (w.heap.size + 1) 28 (cmC (restC ⟨7, cl, sq, ep, op, pr, st, key, val, gr, wt⟩)).toArray := by rw [hw2]; have h9 := (heap_set_same (heap_set_same hy1 (o := 10) (.int .u64 0)) (o := 11) (.int .i64 0)); refine h9.trans ?_; kernel_rfl
      have x2 : Blk w2 w.heap.size 28 (cmC ⟨7, cl, sq, ep, op, pr, st, key, val, gr, wt⟩).toArray := by rw [hw2]; exact (blk_other (blk_other hx1 (by omega)) (by omega))
      have b2 : Below w.heap.size w w2 := by rw [hw2]; exact (bel_set (bel_set hb1 (Nat.le_succ _)) (Nat.le_succ _))
      have Y2 : Hid (Blk w2 (w.heap.size + 1) 28 (cmC (restC ⟨7, cl, sq, ep, op, pr, st, key, val, gr, wt⟩)).toArray) := y2
      have X2 : Hid (Blk w2 w.heap.size 28 (cmC ⟨7, cl, sq, ep, op, pr, st, key, val, gr, wt⟩).toArray) := x2
      have B2 : Hid _ := b2
      have HW2 : Hid _ := hw2
      clear y2 x2 b2 hw2 hx1 hy1 hb1
      go_upto_region 25 with fail
      have hw2 := HW2.out
      rw [← hw2]
      clear hw2 HW2 d10 d11 fy
      have c10 : w2.cell? ⟨w.heap.size, 10, none⟩ = some (.int .u64 pr) := (mcells X2.out).1 10
      have c11 : w2.cell? ⟨w.heap.size, 11, none⟩ = some (.int .i64 st) := (mcells X2.out).1 11
      have hgd : ∀ b, b = stepB pr st → goodC ⟨7, cl, sq, ep, op, pr, st, key, val, gr, wt⟩ = (b) := by rintro b rfl; rfl
      have K := fun W : World => (show Calls Tryz.prog _ _ W (fun e w' => e = .returned (.bool (stepB pr st)) ∧ Below W.heap.size W w') from oStep_any pr st W)
      generalize stepB pr st = b at *
      have hgd := hgd b rfl
      have HG : Hid _ := hgd
      clear hgd
      go_wp2_with fail
      refine (K _).mono ?_
      rintro e w3 ⟨rfl, hb3⟩
      have Y3 := blk_below Y2.out hb3
      have B3 := below2 B2.out hb3
      clear c10 c11 hb3 K
      cases b
      case false =>
        go_wp2
        go_meet
        case rel => exact ⟨congrArg Value.bool (by first | exact HG.out.symm | (refine Eq.trans ?_ HG.out.symm; first | rfl | (simp; done) | (rw [Bool.true_and]; exact decide_eq_decide.2 (by omega)) | (simp; omega) | (simp_all; done) | (simp_all; omega))), Y3, B3⟩
      case true =>
        go_wp2
        go_meet
        case rel => exact ⟨congrArg Value.bool (by first | exact HG.out.symm | (refine Eq.trans ?_ HG.out.symm; first | rfl | (simp; done) | (rw [Bool.true_and]; exact decide_eq_decide.2 (by omega)) | (simp; omega) | (simp_all; done) | (simp_all; omega))), Y3, B3⟩
    case neg =>
    have hg : goodC ⟨k, cl, sq, ep, op, pr, st, key, val, gr, wt⟩ = false := by simp [goodC, k0, k1, k2, k3, k4, k5, k6, k7]
    have hr : restC ⟨k, cl, sq, ep, op, pr, st, key, val, gr, wt⟩ = ⟨0, cl, sq, ep, op, pr, st, key, val, gr, wt⟩ := by simp [restC, k1, k2, k3, k4, k5, k6, k7]
    have HG : Hid _ := hg
    have HR : Hid _ := hr
    clear hg hr
    go_wp2
    go_meet
    case rel => exact ⟨congrArg Value.bool HG.out.symm, by rw [HR.out]; exact hy1, hb1⟩
  case rest =>
    obtain ⟨rfl, hy, hb⟩ := hcut
    clear HX1 HY1 hb1 HB1 cx0
    have hok := HOK.out
    clear HOK
    generalize goodC ⟨k, cl, sq, ep, op, pr, st, key, val, gr, wt⟩ = G at *
    generalize restC ⟨k, cl, sq, ep, op, pr, st, key, val, gr, wt⟩ = R at *
    have hq : ∀ W, (binOp .eql 28 (.agg (cmC R).toArray) (.agg #[.int .i64 0, .int .i64 0, .int .u64 0, .int .u64 0, .int .i64 0, .string ⟨#[]⟩, .string ⟨#[]⟩, .string ⟨#[]⟩, .bool false, .string ⟨#[]⟩, .int .u64 0, .int .i64 0, .string ⟨#[]⟩, .string ⟨#[]⟩, .int .i64 0, .bool false, .int .i64 0, .string ⟨#[]⟩, .int .i64 0, .int .i64 0])).run Tryz.prog W = .ok (.bool (decide (R = cm0))) W := fun W => cm_eql R cm0 W
    have hgu : ∀ (x y : Operand) (W : World), (eqGuard .eql 28 x y (.agg (cmC R).toArray) (.agg #[.int .i64 0, .int .i64 0, .int .u64 0, .int .u64 0, .int .i64 0, .string ⟨#[]⟩, .string ⟨#[]⟩, .string ⟨#[]⟩, .bool false, .string ⟨#[]⟩, .int .u64 0, .int .i64 0, .string ⟨#[]⟩, .string ⟨#[]⟩, .int .i64 0, .bool false, .int .i64 0, .string ⟨#[]⟩, .int .i64 0, .int .i64 0])).run Tryz.prog W = .ok () W := fun x y W => cm_guard .eql x y _ _ W
    have hr : wc.rangeAt (w.heap.size + 1) 0 (cmC R) := range_of_block hy [] _ [] (by simp)
    have hl : (cmC R).length = 20 := rfl
    have hi : (Tryz.prog.info? 28).map (·.size) = some (cmC R).length := by rw [hl]; kernel_rfl
    generalize decide (R = cm0) = D at *
    generalize cmC R = L at *
    clear hy hl
    cases G
    case false =>
      obtain rfl : ok = false := hok
      go_wp2_with fail
      refine (jArg_any false _).mono ?_
      rintro e w3 ⟨rfl, rfl⟩
      go_wp2
      go_ret
      exact ⟨rfl, hb⟩
    case true =>
      obtain rfl : ok = D := hok
      go_wp2_with (first | refine wpList_load_w (by kernel_rfl) 28 _ rfl (w.heap.size + 1) 0 rfl L _ hr Tryz.underlying28 rfl hi ?_ | fail)
      refine (jArg_any ok _).mono ?_
      rintro e w3 ⟨rfl, rfl⟩
      cases ok
      all_goals
        go_wp2
        go_ret
        exact ⟨rfl, hb⟩

end Go.Proofs.YtckokfhoelajcaaGreat
