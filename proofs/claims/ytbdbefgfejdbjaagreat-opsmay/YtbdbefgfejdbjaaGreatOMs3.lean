/-
  ops.Msg of the laws' one message: it may be.
-/
import Derived.Test.YtbdbefgfejdbjaaGreatGOMs2
namespace Go.Proofs.YtbdbefgfejdbjaaGreat
open Go.RowKit Go.BigFrame
attribute [local go_sem] size_bstr toList_bstr

set_option maxRecDepth 100000 in
theorem parts_eql (w : World) : (binOp .eql 95 (.agg pz.toArray) (.agg (Value.int .u64 0 :: Value.int .u64 0 :: Value.int .u64 0 :: Value.int .u64 0 :: Value.bool false :: Value.int .i64 0 :: Value.int .u64 0 :: Value.int .u64 0 :: Value.int .i64 0 :: Value.string ⟨#[]⟩ :: Value.int .i64 0 :: Value.int .u64 0 :: Value.int .i64 0 :: Value.int .u64 0 :: Value.int .i64 0 :: Value.string ⟨#[]⟩ :: Value.string ⟨#[]⟩ :: Value.string ⟨#[]⟩ :: Value.bool false :: Value.string ⟨#[]⟩ :: Value.int .i64 0 :: Value.int .u64 0 :: Value.int .i64 0 :: Value.bool false :: Value.string ⟨#[]⟩ :: Value.string ⟨#[]⟩ :: Value.int .u64 0 :: Value.int .i64 0 :: Value.int .i64 0 :: Value.int .i64 0 :: Value.int .i64 0 :: Value.int .u64 0 :: Value.int .u64 0 :: Value.int .i64 0 :: Value.string ⟨#[]⟩ :: Value.string ⟨#[]⟩ :: Value.string ⟨#[]⟩ :: Value.bool false :: Value.string ⟨#[]⟩ :: Value.int .u64 0 :: Value.int .i64 0 :: Value.string ⟨#[]⟩ :: Value.string ⟨#[]⟩ :: Value.int .i64 0 :: Value.bool false :: Value.int .i64 0 :: Value.string ⟨#[]⟩ :: Value.int .i64 0 :: Value.int .i64 0 :: Value.int .i64 0 :: Value.int .i64 0 :: Value.int .i64 0 :: Value.int .u64 0 :: Value.int .i64 0 :: Value.int .i64 0 :: Value.int .i64 0 :: []).toArray)).run Tryz.prog w = .ok (.bool true) w := by kernel_rfl
theorem parts_guard (x y : Operand) (xs ys : Array Value) (w : World) : (eqGuard .eql 95 x y (.agg xs) (.agg ys)).run Tryz.prog w = .ok () w :=
  run_eqGuard_agg w .eql _ x y xs ys (by kernel_rfl)

set_option maxHeartbeats 16000000 in
set_option maxRecDepth 100000 in
theorem oMsg2_any (q : Option Addr) (cap : Nat) (q2 : Option Addr) (cap2 : Nat) (w : World) : Calls Tryz.prog 26 #[.agg (m2 q cap q2 cap2).toArray] w fun e w' => e = .returned (.int .i64 0) ∧ Below w.heap.size w w' := by
  have hx0 := blk_new w 61 (m2 q cap q2 cap2).toArray
  have hb0 : Below w.heap.size w (w.alloc (.cells (m2 q cap q2 cap2).toArray 61)) := (Below.refl _ _).alloc (Nat.le_refl _) _
  have hr0 : (w.alloc (.cells (m2 q cap q2 cap2).toArray 61)).rangeAt w.heap.size 0 (m2 q cap q2 cap2) := range_of_block hx0 [] _ [] (by simp)
  go_enter Tryz.func26, Tryz.ntmps26
  go_wp2_with (first | refine wpList_load_mid rfl 61 _ rfl w.heap.size 0 rfl (m2 q cap q2 cap2) _ hr0 Tryz.underlying61 rfl (by kernel_rfl) ?_ | fail)
  refine (oParts2_any q cap q2 cap2 _).mono ?_
  rintro x w2 ⟨rfl, hb2⟩
  have hx2 := blk_below hx0 hb2
  have hB2 := below2 hb0 hb2
  clear hx0 hb0 hr0 hb2
  obtain ⟨X, hX⟩ : ∃ X, X = w2.heap.size := ⟨_, rfl⟩
  obtain ⟨w3, hw3⟩ : ∃ w3, w3 = (w2.alloc (.cells pz.toArray 95)).setCells w2.heap.size 0 p2.toArray.toList := ⟨_, rfl⟩
  have hb3 : Below w2.heap.size w2 w3 := by rw [hw3]; exact bel_cells (Nat.le_refl _) _ _ ((Below.refl _ _).alloc (Nat.le_refl _) _)
  have hy3 : Blk w3 X 95 p2.toArray := by rw [hw3, hX]; exact blk_store (blk_new w2 95 pz.toArray) rfl
  have hx3 := blk_below hx2 hb3
  have hB3 := below2 hB2 hb3
  have hXw : w.heap.size < X := by rw [hX]; exact blk_lt hx2
  have MX : Hid _ := hXw
  have HW : Hid _ := hw3
  have HX : Hid _ := hX
  have HY3 : Hid (Blk w3 X 95 p2.toArray) := hy3
  have HX3 : Hid (Blk w3 w.heap.size 61 (m2 q cap q2 cap2).toArray) := hx3
  clear hw3 hb3 hx2 hy3 hx3 hB2 hXw
  go_upto_region 2 with (first | refine wpList_store_mid rfl 95 _ _ rfl w2.heap.size 0 p2.toArray rfl rfl (blk_there (blk_new w2 _ _) rfl) (by kernel_rfl) (by kernel_rfl) ?_ | fail)
  have hw3 := HW.out
  rw [← HX.out]
  rw [← HX.out, show pz.toArray = (Value.int .u64 0 :: Value.int .u64 0 :: Value.int .u64 0 :: Value.int .u64 0 :: Value.bool false :: Value.int .i64 0 :: Value.int .u64 0 :: Value.int .u64 0 :: Value.int .i64 0 :: Value.string ⟨#[]⟩ :: Value.int .i64 0 :: Value.int .u64 0 :: Value.int .i64 0 :: Value.int .u64 0 :: Value.int .i64 0 :: Value.string ⟨#[]⟩ :: Value.string ⟨#[]⟩ :: Value.string ⟨#[]⟩ :: Value.bool false :: Value.string ⟨#[]⟩ :: Value.int .i64 0 :: Value.int .u64 0 :: Value.int .i64 0 :: Value.bool false :: Value.string ⟨#[]⟩ :: Value.string ⟨#[]⟩ :: Value.int .u64 0 :: Value.int .i64 0 :: Value.int .i64 0 :: Value.int .i64 0 :: Value.int .i64 0 :: Value.int .u64 0 :: Value.int .u64 0 :: Value.int .i64 0 :: Value.string ⟨#[]⟩ :: Value.string ⟨#[]⟩ :: Value.string ⟨#[]⟩ :: Value.bool false :: Value.string ⟨#[]⟩ :: Value.int .u64 0 :: Value.int .i64 0 :: Value.string ⟨#[]⟩ :: Value.string ⟨#[]⟩ :: Value.int .i64 0 :: Value.bool false :: Value.int .i64 0 :: Value.string ⟨#[]⟩ :: Value.int .i64 0 :: Value.int .i64 0 :: Value.int .i64 0 :: Value.int .i64 0 :: Value.int .i64 0 :: Value.int .u64 0 :: Value.int .i64 0 :: Value.int .i64 0 :: Value.int .i64 0 :: []).toArray from rfl] at hw3
  rw [← hw3]
  clear hw3 HW HX hX
  have c0 : w3.cell? ⟨w.heap.size, 0, none⟩ = some (.int .i64 2) := (mcells HX3.out).1 0
  have d0 : w3.cell? ⟨X, 0, none⟩ = some (.int .u64 300) := (mcells HY3.out).1 0
  have d4 : w3.cell? ⟨X, 4, none⟩ = some (.bool true) := (mcells HY3.out).1 4
  have fy := (mcells HY3.out).2
  obtain ⟨w4, hw4⟩ : ∃ w4, w4 = (w3.setCell ⟨X, 0, none⟩ (.int .u64 0)).setCell ⟨X, 4, none⟩ (.bool false) := ⟨_, rfl⟩
  have hy4 : Blk w4 X 95 pz.toArray := by
    rw [hw4]
    have h9 := heap_set_same (heap_set_same HY3.out (o := 0) (.int .u64 0)) (o := 4) (.bool false)
    refine h9.trans ?_
    kernel_rfl
  have hx4 : Blk w4 w.heap.size 61 (m2 q cap q2 cap2).toArray := by
    rw [hw4]
    have := MX.out
    exact blk_other (blk_other HX3.out (by omega)) (by omega)
  have hB4 : Below w.heap.size w w4 := by
    rw [hw4]
    have := MX.out
    exact bel_set (bel_set hB3 (by omega)) (by omega)
  have HW : Hid _ := hw4
  have HY4 : Hid (Blk w4 X 95 pz.toArray) := hy4
  have HX4 : Hid (Blk w4 w.heap.size 61 (m2 q cap q2 cap2).toArray) := hx4
  clear hw4 hy4 hx4 HX3 HY3 hB3
  go_upto_region 30 with fail
  have hw4 := HW.out
  rw [← hw4]
  clear hw4 HW c0 d0 d4 fy
  have c1 : w4.cell? ⟨w.heap.size, 1, none⟩ = some (.int .i64 3) := (mcells HX4.out).1 1
  have c2 : w4.cell? ⟨w.heap.size, 2, none⟩ = some (.int .u64 300) := (mcells HX4.out).1 2
  have c3 : w4.cell? ⟨w.heap.size, 3, none⟩ = some (.int .u64 0) := (mcells HX4.out).1 3
  have c4 : w4.cell? ⟨w.heap.size, 4, none⟩ = some (.int .u64 0) := (mcells HX4.out).1 4
  have c5 : w4.cell? ⟨w.heap.size, 5, none⟩ = some (.int .u64 0) := (mcells HX4.out).1 5
  have hmx : (Builtin.max_ #[22, 22, 22, 22] 22 #[Value.int .u64 300, Value.int .u64 0, Value.int .u64 0, Value.int .u64 0]).run Tryz.prog w4 = .ok (.int .u64 300) w4 := by kernel_rfl
  go_wp2_with fail
  refine (oGroup_any 3 _).mono ?_
  rintro x w5 ⟨rfl, hb5⟩
  have hB5 := below2 hB4 hb5
  have hr5 : w5.rangeAt X 0 pz := range_of_block (blk_below HY4.out hb5) [] pz [] (by simp)
  have hq := parts_eql
  have hg := parts_guard
  clear c1 c2 c3 c4 c5 hB4 hb5 HX4 HY4 hmx
  rw [show (decide ((0 : Int) ≤ 3) && decide ((3 : Int) < 12)) = true from rfl]
  go_wp2_with (first | refine wpList_load_w (by kernel_rfl) 95 _ rfl X 0 rfl pz _ hr5 Tryz.underlying95 rfl (by kernel_rfl) ?_ | fail)
  refine (jArg_any true _).mono ?_
  rintro x w6 ⟨rfl, rfl⟩
  go_wp2
  go_ret
  exact ⟨rfl, hB5⟩

end Go.Proofs.YtbdbefgfejdbjaaGreat
