/-
  ops.EncodeResult: a result's bytes, if it may be.
  The laws' works of ops: a result and a message there and back.
-/
import Derived.Test.YtbdbefgfejdbjaaGreatGJEnc
import Derived.Test.YtbdbefgfejdbjaaGreatOSam
namespace Go.Proofs.YtbdbefgfejdbjaaGreat
open Go.RowKit Go.BigFrame
attribute [local go_sem] size_bstr toList_bstr

theorem RzE {r : Rz} : okR r = false ∨ okR r = true := by cases okR r <;> simp
set_option maxHeartbeats 1000000 in
theorem jEncode_any (r : Rz) (w : World) :
    Calls Tryz.prog 51 #[rzV r, .func (.func 52) #[] #[], .func (.func 53) #[] #[]] w fun e w' =>
      e = .returned (.tuple #[.string (bstr (if okR r then layR r else [])), .int .i64 (if okR r then 0 else 2)]) ∧ Below w.heap.size w w' := by
  have hl := jLay_any r
  have hr := jResult_any r
  obtain ⟨ok, hok⟩ : ∃ ok, ok = okR r := ⟨_, rfl⟩
  rw [← hok] at hr hl ⊢
  clear hok
  generalize layR r = L at *
  obtain ⟨e, f, ro, va, ve⟩ := r
  go_enter Tryz.func51, Tryz.ntmps51
  obtain ⟨w1, hw1⟩ : ∃ w1, w1 = w.alloc (.cells #[.int .i64 e, .bool f, .string (bstr ro), .string (bstr va), .int .u64 (ve : Int)] 46) := ⟨_, rfl⟩
  have hb1 : Below w.heap.size w w1 := by rw [hw1]; exact (Below.refl _ _).alloc (Nat.le_refl _) _
  have hc := (mcells (show w1.heap[w.heap.size]? = some (.cells #[.int .i64 e, .bool f, .string (bstr ro), .string (bstr va), .int .u64 (ve : Int)] 46 (0, 0)) by rw [hw1]; exact heap_alloc_new w _)).1
  have c0 : w1.cell? ⟨w.heap.size, 0, none⟩ = some (.int .i64 e) := hc 0
  have c1 : w1.cell? ⟨w.heap.size, 1, none⟩ = some (.bool f) := hc 1
  have c2 : w1.cell? ⟨w.heap.size, 2, none⟩ = some (.string (bstr ro)) := hc 2
  have c3 : w1.cell? ⟨w.heap.size, 3, none⟩ = some (.string (bstr va)) := hc 3
  have c4 : w1.cell? ⟨w.heap.size, 4, none⟩ = some (.int .u64 (ve : Int)) := hc 4
  have HW : Hid _ := hw1
  clear hc hw1
  go_upto_region 1 with fail
  rw [← HW.out]
  go_wp2_with fail
  refine (hr w1).mono ?_
  rintro x w2 ⟨rfl, hb2⟩
  replace c0 := cell_below hb2 c0
  replace c1 := cell_below hb2 c1
  replace c2 := cell_below hb2 c2
  replace c3 := cell_below hb2 c3
  replace c4 := cell_below hb2 c4
  cases ok with
  | false =>
    go_wp2
    go_ret2
    exact ⟨rfl, below2 hb1 hb2⟩
  | true =>
    go_wp2_with fail
    refine (hl w2 trivial).mono ?_
    rintro x w3 ⟨rfl, hb3⟩
    go_wp2
    go_ret2
    exact ⟨rfl, below2 (below2 hb1 hb2) hb3⟩
theorem jEncodeR_any (r : Rz) (w : World) :
    Calls Tryz.prog 22 #[rzV r] w fun e w' =>
      e = .returned (.tuple #[.string (bstr (if okR r then layR r else [])), .int .i64 (if okR r then 0 else 2)]) ∧ Below w.heap.size w w' := by
  have he := jEncode_any r
  generalize (if okR r then layR r else []) = L at *
  generalize (if okR r then (0 : Int) else 2) = E at *
  obtain ⟨e, f, ro, va, ve⟩ := r
  go_enter Tryz.func22, Tryz.ntmps22
  go_wp2_with fail
  refine (he _).mono ?_
  rintro x w2 ⟨rfl, hb2⟩
  go_wp2
  go_ret2
  exact ⟨rfl, bel_call hb2 (bel_alloc (Below.refl _ _))⟩

end Go.Proofs.YtbdbefgfejdbjaaGreat

namespace Go.Proofs.YtbdbefgfejdbjaaGreat
open Go.RowKit Go.BigFrame
attribute [local go_sem] size_bstr toList_bstr

def r3 : Rz := ⟨0, true, [], [118], 3⟩
def r5 : Rz := ⟨5, false, [], [], 0⟩
theorem lay_r3 : okR r3 = true ∧ layR r3 = [0, 1, 0, 1, 118, 3] := by
  refine ⟨by kernel_rfl, ?_⟩
  simp [layR, r3, bol, txt, uvarint_small]
theorem lay_r5 : okR r5 = true ∧ layR r5 = [5, 0, 0, 0, 0] := by
  refine ⟨by kernel_rfl, ?_⟩
  simp [layR, r5, bol, txt, uvarint_small]
theorem dec_r5 : decO [5, 0, 0, 0, 0] = true ∧ decR [5, 0, 0, 0, 0] = r5 := by
  have h1 := decO_lay lay_r5.1 []
  have h2 := (dec_lay lay_r5.1 []).2.2
  rw [List.append_nil, lay_r5.2] at h1 h2
  exact ⟨h1, h2⟩
theorem enc_r3 (w : World) : Calls Tryz.prog 22 #[.agg #[.int .i64 0, .bool true, .string ⟨#[]⟩, .string ⟨#[118]⟩, .int .u64 3]] w fun e w' => e = .returned (.tuple #[.string ⟨#[0, 1, 0, 1, 118, 3]⟩, .int .i64 0]) ∧ Below w.heap.size w w' := by
  have := jEncodeR_any r3 w
  rw [lay_r3.1, if_pos rfl, if_pos rfl, lay_r3.2] at this
  exact this
theorem dec_r5_any (w : World) : Calls Tryz.prog 30 #[.string ⟨#[5, 0, 0, 0, 0]⟩] w fun e w' => e = .returned (.tuple #[.agg #[.int .i64 5, .bool false, .string ⟨#[]⟩, .string ⟨#[]⟩, .int .u64 0], .int .i64 0]) ∧ Below w.heap.size w w' := by
  have := jDecodeR_any [5, 0, 0, 0, 0] w (by decide)
  rw [dec_r5.1, if_pos rfl, if_pos rfl, dec_r5.2] at this
  exact this

set_option maxHeartbeats 16000000 in
set_option maxRecDepth 100000 in
theorem works16_any (w : World) : Calls Tryz.prog 15 #[] w fun e w' => e = .returned (.bool true) ∧ Below w.heap.size w w' := by
  have hq : ∀ W, (binOp .eql 46 (.agg #[.int .i64 5, .bool false, .string ⟨#[]⟩, .string ⟨#[]⟩, .int .u64 0]) (.agg #[.int .i64 5, .bool false, .string ⟨#[]⟩, .string ⟨#[]⟩, .int .u64 0])).run Tryz.prog W = .ok (.bool true) W := fun W => by kernel_rfl
  have hg : ∀ (x y : Operand) (xs ys : Array Value) (W : World), (eqGuard .eql 46 x y (.agg xs) (.agg ys)).run Tryz.prog W = .ok () W := fun x y xs ys W => run_eqGuard_agg W .eql _ x y xs ys (by kernel_rfl)
  have hl : (Tryz.prog.info? 61).map (·.size) = some (m2 none 0 none 0).length := by kernel_rfl
  go_enter Tryz.func15, Tryz.ntmps15
  go_wp2_with fail
  refine (enc_r3 _).mono ?_
  rintro x w1 ⟨rfl, hb1⟩
  go_wp2_with fail
  refine (dec_r5_any _).mono ?_
  rintro x w2 ⟨rfl, hb2⟩
  have hB2 := below2 hb1 hb2
  clear hb1 hb2
  obtain ⟨A, hA⟩ : ∃ A, A = w2.heap.size := ⟨_, rfl⟩
  obtain ⟨w3, hw3⟩ : ∃ w3, w3 = w2.alloc (.cells #[.int .i64 5, .bool false, .string ⟨#[]⟩, .string ⟨#[]⟩, .int .u64 0] 46) := ⟨_, rfl⟩
  have ha3 : Blk w3 A 46 #[.int .i64 5, .bool false, .string ⟨#[]⟩, .string ⟨#[]⟩, .int .u64 0] := by rw [hw3, hA]; exact blk_new _ _ _
  have hB3 : Below w.heap.size w w3 := by rw [hw3]; exact bel_alloc hB2
  have HW : Hid _ := hw3
  have HA : Hid _ := hA
  clear hw3 hB2
  go_upto_region 3 with fail
  have hw3 := HW.out
  rw [← HA.out]
  rw [← hw3]
  clear hw3 HW HA hA
  obtain ⟨M, hM⟩ : ∃ M, M = w3.heap.size := ⟨_, rfl⟩
  obtain ⟨w4, hw4⟩ : ∃ w4, w4 = (w3.alloc (.cells mz.toArray 61)).setCells w3.heap.size 0 (m2 none 0 none 0).toArray.toList := ⟨_, rfl⟩
  have hb4 : Below w3.heap.size w3 w4 := by rw [hw4]; exact bel_cells (Nat.le_refl _) _ _ ((Below.refl _ _).alloc (Nat.le_refl _) _)
  have hm4 : Blk w4 M 61 (m2 none 0 none 0).toArray := by rw [hw4, hM]; exact blk_store (blk_new w3 61 mz.toArray) rfl
  have ha4 := blk_below ha3 hb4
  have hB4 := below2 hB3 hb4
  have HW : Hid _ := hw4
  have HM : Hid _ := hM
  clear hw4 hb4 ha3 hB3
  go_upto_region 4 with (first | refine wpList_store_mid rfl 61 _ _ rfl w3.heap.size 0 (m2 none 0 none 0).toArray rfl rfl (blk_there (blk_new w3 _ _) rfl) hl (by kernel_rfl) ?_ | fail)
  have hw4 := HW.out
  rw [← HM.out]
  rw [← HM.out, show mz.toArray = (Value.int .i64 0 :: Value.int .i64 0 :: Value.int .u64 0 :: Value.int .u64 0 :: Value.int .u64 0 :: Value.int .u64 0 :: Value.bool false :: Value.slice none 0 0 :: Value.int .u64 0 :: Value.int .u64 0 :: Value.slice none 0 0 :: Value.string ⟨#[]⟩ :: Value.int .i64 0 :: Value.int .u64 0 :: Value.int .i64 0 :: Value.int .u64 0 :: Value.int .i64 0 :: Value.string ⟨#[]⟩ :: Value.string ⟨#[]⟩ :: Value.string ⟨#[]⟩ :: Value.bool false :: Value.string ⟨#[]⟩ :: Value.int .i64 0 :: Value.int .u64 0 :: Value.int .i64 0 :: Value.bool false :: Value.string ⟨#[]⟩ :: Value.string ⟨#[]⟩ :: Value.int .u64 0 :: Value.int .i64 0 :: Value.int .i64 0 :: Value.int .i64 0 :: Value.int .i64 0 :: Value.int .u64 0 :: Value.int .u64 0 :: Value.int .i64 0 :: Value.string ⟨#[]⟩ :: Value.string ⟨#[]⟩ :: Value.string ⟨#[]⟩ :: Value.bool false :: Value.string ⟨#[]⟩ :: Value.int .u64 0 :: Value.int .i64 0 :: Value.string ⟨#[]⟩ :: Value.string ⟨#[]⟩ :: Value.int .i64 0 :: Value.bool false :: Value.int .i64 0 :: Value.string ⟨#[]⟩ :: Value.int .i64 0 :: Value.int .i64 0 :: Value.int .i64 0 :: Value.int .i64 0 :: Value.int .i64 0 :: Value.int .u64 0 :: Value.int .i64 0 :: Value.int .i64 0 :: Value.int .i64 0 :: []).toArray from rfl] at hw4
  rw [← hw4]
  clear hw4 HW HM hM
  have em : (Value.int .i64 2 :: Value.int .i64 3 :: Value.int .u64 300 :: Value.int .u64 0 :: Value.int .u64 0 :: Value.int .u64 0 :: Value.bool true :: Value.slice none 0 0 :: Value.int .u64 0 :: Value.int .u64 0 :: Value.slice none 0 0 :: Value.string ⟨#[]⟩ :: Value.int .i64 0 :: Value.int .u64 0 :: Value.int .i64 0 :: Value.int .u64 0 :: Value.int .i64 0 :: Value.string ⟨#[]⟩ :: Value.string ⟨#[]⟩ :: Value.string ⟨#[]⟩ :: Value.bool false :: Value.string ⟨#[]⟩ :: Value.int .i64 0 :: Value.int .u64 0 :: Value.int .i64 0 :: Value.bool false :: Value.string ⟨#[]⟩ :: Value.string ⟨#[]⟩ :: Value.int .u64 0 :: Value.int .i64 0 :: Value.int .i64 0 :: Value.int .i64 0 :: Value.int .i64 0 :: Value.int .u64 0 :: Value.int .u64 0 :: Value.int .i64 0 :: Value.string ⟨#[]⟩ :: Value.string ⟨#[]⟩ :: Value.string ⟨#[]⟩ :: Value.bool false :: Value.string ⟨#[]⟩ :: Value.int .u64 0 :: Value.int .i64 0 :: Value.string ⟨#[]⟩ :: Value.string ⟨#[]⟩ :: Value.int .i64 0 :: Value.bool false :: Value.int .i64 0 :: Value.string ⟨#[]⟩ :: Value.int .i64 0 :: Value.int .i64 0 :: Value.int .i64 0 :: Value.int .i64 0 :: Value.int .i64 0 :: Value.int .u64 0 :: Value.int .i64 0 :: Value.int .i64 0 :: Value.int .i64 0 :: []).toArray = (m2 none 0 none 0).toArray := rfl
  rw [em]
  clear em
  have hr4 : w4.rangeAt M 0 (m2 none 0 none 0) := range_of_block hm4 [] _ [] (by simp)
  go_wp2_with (first | refine wpList_load_mid rfl 61 _ rfl M 0 rfl (m2 none 0 none 0) _ hr4 Tryz.underlying61 rfl hl ?_ | fail)
  refine (oEncM2_any _).mono ?_
  rintro x w5 ⟨rfl, hb5⟩
  have ha5 := blk_below ha4 hb5
  have hm5 := blk_below hm4 hb5
  have hB5 := below2 hB4 hb5
  clear hr4 ha4 hm4 hB4 hb5
  go_wp2_with fail
  refine (oDecodeM_any _).mono ?_
  rintro x w6 ⟨hb6, q, cap, q2, cap2, rfl⟩
  have ha6 := blk_below ha5 hb6
  have hm6 := blk_below hm5 hb6
  have hB6 := below2 hB5 hb6
  clear ha5 hm5 hB5 hb6
  have hl2 : (Tryz.prog.info? 61).map (·.size) = some (m2 q cap q2 cap2).length := by kernel_rfl
  dsimp only
  rename_i hk
  refine hk _ _ ?_
  go_step
  go_step
  go_step
  go_step
  go_step
  go_step
  go_step
  go_step
  go_step
  go_step
  go_step
  go_step
  obtain ⟨D, hD⟩ : ∃ D, D = w6.heap.size := ⟨_, rfl⟩
  obtain ⟨w7, hw7⟩ : ∃ w7, w7 = (w6.alloc (.cells mz.toArray 61)).setCells w6.heap.size 0 (m2 q cap q2 cap2).toArray.toList := ⟨_, rfl⟩
  have hb7 : Below w6.heap.size w6 w7 := by rw [hw7]; exact bel_cells (Nat.le_refl _) _ _ ((Below.refl _ _).alloc (Nat.le_refl _) _)
  have hd7 : Blk w7 D 61 (m2 q cap q2 cap2).toArray := by rw [hw7, hD]; exact blk_store (blk_new w6 61 mz.toArray) rfl
  have ha7 := blk_below ha6 hb7
  have hm7 := blk_below hm6 hb7
  have hB7 := below2 hB6 hb7
  have HW : Hid _ := hw7
  have HD : Hid _ := hD
  clear hw7 hb7 ha6 hm6 hB6
  refine wpList_store_mid rfl 61 _ _ rfl w6.heap.size 0 (m2 q cap q2 cap2).toArray rfl rfl (blk_there (blk_new w6 _ _) rfl) hl2 (by kernel_rfl) ?_
  have hw7 := HW.out
  rw [← HD.out]
  rw [← HD.out, show mz.toArray = (Value.int .i64 0 :: Value.int .i64 0 :: Value.int .u64 0 :: Value.int .u64 0 :: Value.int .u64 0 :: Value.int .u64 0 :: Value.bool false :: Value.slice none 0 0 :: Value.int .u64 0 :: Value.int .u64 0 :: Value.slice none 0 0 :: Value.string ⟨#[]⟩ :: Value.int .i64 0 :: Value.int .u64 0 :: Value.int .i64 0 :: Value.int .u64 0 :: Value.int .i64 0 :: Value.string ⟨#[]⟩ :: Value.string ⟨#[]⟩ :: Value.string ⟨#[]⟩ :: Value.bool false :: Value.string ⟨#[]⟩ :: Value.int .i64 0 :: Value.int .u64 0 :: Value.int .i64 0 :: Value.bool false :: Value.string ⟨#[]⟩ :: Value.string ⟨#[]⟩ :: Value.int .u64 0 :: Value.int .i64 0 :: Value.int .i64 0 :: Value.int .i64 0 :: Value.int .i64 0 :: Value.int .u64 0 :: Value.int .u64 0 :: Value.int .i64 0 :: Value.string ⟨#[]⟩ :: Value.string ⟨#[]⟩ :: Value.string ⟨#[]⟩ :: Value.bool false :: Value.string ⟨#[]⟩ :: Value.int .u64 0 :: Value.int .i64 0 :: Value.string ⟨#[]⟩ :: Value.string ⟨#[]⟩ :: Value.int .i64 0 :: Value.bool false :: Value.int .i64 0 :: Value.string ⟨#[]⟩ :: Value.int .i64 0 :: Value.int .i64 0 :: Value.int .i64 0 :: Value.int .i64 0 :: Value.int .i64 0 :: Value.int .u64 0 :: Value.int .i64 0 :: Value.int .i64 0 :: Value.int .i64 0 :: []).toArray from rfl] at hw7
  rw [← hw7]
  clear hw7 HW HD hD
  go_upto_region 6 with fail
  have a0 : w7.cell? ⟨A, 0, none⟩ = some (.int .i64 5) := (mcells ha7).1 0
  have a1 : w7.cell? ⟨A, 1, none⟩ = some (.bool false) := (mcells ha7).1 1
  have a2 : w7.cell? ⟨A, 2, none⟩ = some (.string ⟨#[]⟩) := (mcells ha7).1 2
  have a3 : w7.cell? ⟨A, 3, none⟩ = some (.string ⟨#[]⟩) := (mcells ha7).1 3
  have a4 : w7.cell? ⟨A, 4, none⟩ = some (.int .u64 0) := (mcells ha7).1 4
  have rm : w7.rangeAt M 0 (m2 none 0 none 0) := range_of_block hm7 [] _ [] (by simp)
  have rd : w7.rangeAt D 0 (m2 q cap q2 cap2) := range_of_block hd7 [] _ [] (by simp)
  clear ha7 hm7 hd7
  go_wp2_with (first | refine wpList_load_w (by kernel_rfl) 61 _ rfl M 0 rfl (m2 none 0 none 0) _ rm Tryz.underlying61 rfl hl ?_ | refine wpList_load_w (by kernel_rfl) 61 _ rfl D 0 rfl (m2 q cap q2 cap2) _ rd Tryz.underlying61 rfl hl2 ?_ | fail)
  refine (oSame2_any q cap q2 cap2 _).mono ?_
  rintro x w8 ⟨rfl, hb8⟩
  have hB8 := below2 hB7 hb8
  clear a0 a1 a2 a3 a4 rm rd hB7 hb8
  go_wp2
  go_ret
  exact ⟨rfl, hB8⟩

end Go.Proofs.YtbdbefgfejdbjaaGreat
