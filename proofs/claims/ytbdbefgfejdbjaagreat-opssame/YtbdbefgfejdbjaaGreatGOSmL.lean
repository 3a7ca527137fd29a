/-
  The document's OwnEntry: an entry whose members lie in memory of their own.
  The law OpsSame.
-/
import Derived.Test.YtbdbefgfejdbjaaGreatGORSm
import Derived.Test.YtbdbefgfejdbjaaGreatGOOth
import Derived.Test.YtbdbefgfejdbjaaGreatGOWk
import Derived.Deep.RegionHeld3
namespace Go.Proofs.YtbdbefgfejdbjaaGreat
open Go.RowKit Go.BigFrame
attribute [local go_sem] size_bstr toList_bstr

theorem heap_cells_other {k b : Nat} (hk : b ≠ k) : ∀ (vs : List Value) (o : Nat) {w : World}, (w.setCells k o vs).heap[b]? = w.heap[b]?
  | [], _, _ => rfl
  | v :: r, o, w => (heap_cells_other hk r (o + 1) (w := w.setCell ⟨k, o, none⟩ v)).trans (heap_set_other v hk)

set_option maxHeartbeats 8000000 in
set_option maxRecDepth 100000 in
theorem ROwnE_any (e : Et) (w : World) (hm : IArg w e.q e.mem) (hl : e.mem.length ≤ maxLen) (hb : e.mem.length * 8 ≤ 140737488355328) :
    Calls Tryz.prog 16 #[.agg (etC e).toArray] w fun x w' => ∃ q cap, x = .returned (.agg (etC ⟨e.ix, e.te, e.kd, e.cm, e.mem, q, cap⟩).toArray) ∧ IArg w' q e.mem ∧ Below w.heap.size w w' := by
  obtain ⟨w1, hw1⟩ : ∃ w1, w1 = (w.alloc (.cells (etC e).toArray 38)).alloc (.cells etZ.toArray 38) := ⟨_, rfl⟩
  have hB1 : Below w.heap.size w w1 := by rw [hw1]; exact ((Below.refl _ _).alloc (Nat.le_refl _) _).alloc (by simp) _
  have hx1 : Blk w1 w.heap.size 38 (etC e).toArray := by rw [hw1]; exact (Below.heap_alloc _ _ _ (by simp)).trans (blk_new w _ _)
  have hz1 : Blk w1 (w.heap.size + 1) 38 etZ.toArray := by
    have := blk_new (w.alloc (.cells (etC e).toArray 38)) 38 etZ.toArray
    rw [World.size_alloc] at this
    rw [hw1]
    exact this
  have K := ROwnInts_any e.q e.cap e.mem w1 (hm.below hB1) hl hb
  have HW : Hid _ := hw1
  have HSZ : Hid (w.heap.size + 1 < w1.heap.size) := blk_lt hz1
  clear hw1 hm
  have cm : w1.cell? ⟨w.heap.size, 23, none⟩ = some (.slice e.q e.mem.length e.cap) := (mcells hx1).1 23
  go_enter Tryz.func16, Tryz.ntmps16
  go_upto_region 1 with fail
  have hw1 := HW.out
  rw [zero_obj] at hw1
  rw [← hw1]
  clear hw1 HW
  go_wp2_with fail
  refine K.mono ?_
  rintro x w2 ⟨v, rfl, hown, hb2⟩
  obtain ⟨q, cap, rfl, hi2⟩ := own_inew hown rfl
  have hx2 := blk_below hx1 hb2
  have hz2 := blk_below hz1 hb2
  have hB2 := below2 hB1 hb2
  clear K hown hx1 hz1 hB1 hb2 cm
  have cm : w2.cell? ⟨w.heap.size, 23, none⟩ = some (.slice e.q e.mem.length e.cap) := (mcells hx2).1 23
  have fm : w2.frozen? ⟨w.heap.size, 23, none⟩ = false := (mcells hx2).2 23
  obtain ⟨w3, hw3⟩ : ∃ w3, w3 = w2.setCell ⟨w.heap.size, 23, none⟩ (.slice q e.mem.length cap) := ⟨_, rfl⟩
  obtain ⟨X, hX⟩ : ∃ X : Et, X = ⟨e.ix, e.te, e.kd, e.cm, e.mem, q, cap⟩ := ⟨_, rfl⟩
  have hx3 : Blk w3 w.heap.size 38 (etC X).toArray := by rw [hw3, hX]; exact heap_set_same hx2 (o := 23) _
  have hz3 : Blk w3 (w.heap.size + 1) 38 etZ.toArray := by rw [hw3]; exact blk_other hz2 (by omega)
  have hB3 : Below w.heap.size w w3 := by rw [hw3]; exact bel_set hB2 (Nat.le_refl _)
  have hs1 : w.heap.size + 1 < w1.heap.size := HSZ.out
  have hi3 : INew w3 w1.heap.size q e.mem := hi2.blocks fun b cur hb _ => by rw [hw3]; exact heap_set_other _ (by omega)
  have HW : Hid _ := hw3
  clear hw3 hx2 hz2 hB2 hi2
  go_upto_region 2 with fail
  rw [← HW.out]
  clear HW cm fm
  have hC : (etC X).length = 24 := rfl
  have hin : (Tryz.prog.info? 38).map (·.size) = some (etC X).length := by rw [hC]; kernel_rfl
  have hr3 : w3.rangeAt w.heap.size 0 (etC X) := range_of_block hx3 [] _ [] (by simp)
  obtain ⟨w4, hw4⟩ : ∃ w4, w4 = w3.setCells (w.heap.size + 1) 0 (etC X).toArray.toList := ⟨_, rfl⟩
  have hz4 : Blk w4 (w.heap.size + 1) 38 (etC X).toArray := by rw [hw4]; exact blk_store hz3 rfl
  have hB4 : Below w.heap.size w w4 := by rw [hw4]; exact bel_cells (Nat.le_succ _) _ _ hB3
  have hi4 : INew w4 w1.heap.size q e.mem := hi3.blocks fun b cur hb _ => by rw [hw4]; exact heap_cells_other (by omega) _ _
  have HW : Hid _ := hw4
  have HX : Hid _ := hX
  clear hw4 hB3 hi3 hX hs1
  go_wp2_with (first | refine wpList_load_mid rfl 38 _ rfl w.heap.size 0 rfl (etC X) _ hr3 Tryz.underlying38 rfl hin ?_ | refine wpList_store_mid rfl 38 _ _ rfl (w.heap.size + 1) 0 (etC X).toArray rfl rfl (blk_there hz3 rfl) hin (by kernel_rfl) ?_ | fail)
  rw [← HW.out]
  rw [HX.out] at hz4
  refine ret_cells (cs := etC ⟨e.ix, e.te, e.kd, e.cm, e.mem, q, cap⟩) rfl Tryz.underlying38 rfl (by rw [← HX.out]; exact hin) rfl hz4 rfl ?_
  exact ⟨q, ⟨cap, rfl⟩, hi4.arg, hB4⟩

end Go.Proofs.YtbdbefgfejdbjaaGreat

namespace Go.Proofs.YtbdbefgfejdbjaaGreat
open Go.RowKit Go.BigFrame
attribute [local go_sem] size_bstr toList_bstr

set_option maxHeartbeats 16000000 in
set_option maxRecDepth 100000 in
theorem OSame_any (a b : Et) (w : World) (hma : IArg w a.q a.mem) (hmb : IArg w b.q b.mem) (hl : a.mem.length ≤ maxLen) (hb : a.mem.length * 8 ≤ 140737488355328) :
    Calls Tryz.prog 6 #[.agg (etC a).toArray, .agg (etC b).toArray] w fun e w' => e = .returned (.bool true) ∧ Below w.heap.size w w' := by
  have hl2 : a.mem.length ≤ 9223372036854775807 := by unfold maxLen at hl; omega
  have K1 := fun W h1 h2 => oSm_any a b W h1 h2 hl2
  have K2 := fun W h1 h2 => RSame16_any a b W h1 h2 hl2
  have K3 := fun W h1 => ROwnE_any a W h1 hl hb
  have K4 := fun q cap W h1 h2 => oSm_any a ⟨a.ix, a.te, a.kd, a.cm, a.mem, q, cap⟩ W h1 h2 hl2
  simp only [same_room] at K4
  generalize sameE a b = r at *
  have hC : (etC a).length = 24 := rfl
  have hinA : (Tryz.prog.info? 38).map (·.size) = some (etC a).length := by rw [hC]; kernel_rfl
  have hC2 : (etC b).length = 24 := rfl
  have hinB : (Tryz.prog.info? 38).map (·.size) = some (etC b).length := by rw [hC2]; kernel_rfl
  clear hC hC2 hb
  generalize hA : etC a = A at *
  generalize hB : etC b = B at *
  obtain ⟨w1, hw1⟩ : ∃ w1, w1 = (w.alloc (.cells A.toArray 38)).alloc (.cells B.toArray 38) := ⟨_, rfl⟩
  have hB1 : Below w.heap.size w w1 := by rw [hw1]; exact ((Below.refl _ _).alloc (Nat.le_refl _) _).alloc (by simp) _
  have hx1 : Blk w1 w.heap.size 38 A.toArray := by rw [hw1]; exact (Below.heap_alloc _ _ _ (by simp)).trans (blk_new w _ _)
  have hy1 : Blk w1 (w.heap.size + 1) 38 B.toArray := by
    have := blk_new (w.alloc (.cells A.toArray 38)) 38 B.toArray
    rw [World.size_alloc] at this
    rw [hw1]
    exact this
  have hx : Blk w1.drew w.heap.size 38 A.toArray := hx1
  have hy : Blk w1.drew (w.heap.size + 1) 38 B.toArray := hy1
  have ha : IArg w1.drew a.q a.mem := hma.below (bel_drew hB1)
  have hb : IArg w1.drew b.q b.mem := hmb.below (bel_drew hB1)
  have hB : Below w.heap.size w w1.drew := bel_drew hB1
  have HW : Hid _ := hw1
  clear hw1 hx1 hy1 hma hmb hB1 hl hl2 hA
  go_enter Tryz.func6, Tryz.ntmps6
  go_upto_region 1 with fail
  have hw1 := HW.out
  rw [← hw1]
  clear hw1 HW
  refine wp_region_noPanic ?_
  refine wp_region_held_drew (S := fun w' => w'.rangeAt w.heap.size 0 A ∧ w'.rangeAt (w.heap.size + 1) 0 B) (by kernel_rfl) ⟨range_of_block hx [] _ [] (by simp), range_of_block hy [] _ [] (by simp)⟩ (fun hHeld => ?_)
  refine wpAnyH_take (i := 0) (oi := ({ dst := some 5, op := Op.load 38 (Operand.tmp 2), type := 38, pos := "law.go:53", after := #[], guard := none } : Oper)) (v := .agg A.toArray) rfl (by kernel_rfl) (by kernel_rfl) (by kernel_rfl) (fun _ _ _ h => h) (yieldsIf_load_mid (by rfl) 38 _ rfl w.heap.size 0 rfl A _ (fun _ h => h.1) Tryz.underlying38 rfl hinA) (by assumption) ?_
  try simp only [Act.put, List.setIfInBounds_toArray, List.set_cons_zero, List.set_cons_succ]
  refine wpAnyH_take (i := 1) (oi := ({ dst := some 6, op := Op.load 38 (Operand.tmp 3), type := 38, pos := "law.go:53", after := #[], guard := none } : Oper)) (v := .agg B.toArray) rfl (by kernel_rfl) (by kernel_rfl) (by kernel_rfl) (fun _ _ _ h => h) (yieldsIf_load_mid (by rfl) 38 _ rfl (w.heap.size + 1) 0 rfl B _ (fun _ h => h.2) Tryz.underlying38 rfl hinB) (by assumption) ?_
  try simp only [Act.put, List.setIfInBounds_toArray, List.set_cons_zero, List.set_cons_succ]
  refine wpAnyH_take (i := 3) (oi := ({ dst := some 8, op := Op.load 38 (Operand.tmp 2), type := 38, pos := "law.go:53", after := #[], guard := none } : Oper)) (v := .agg A.toArray) rfl (by kernel_rfl) (by kernel_rfl) (by kernel_rfl) (fun _ _ _ h => h) (yieldsIf_load_mid (by rfl) 38 _ rfl w.heap.size 0 rfl A _ (fun _ h => h.1) Tryz.underlying38 rfl hinA) (by assumption) ?_
  try simp only [Act.put, List.setIfInBounds_toArray, List.set_cons_zero, List.set_cons_succ]
  refine wpAnyH_take (i := 4) (oi := ({ dst := some 9, op := Op.load 38 (Operand.tmp 3), type := 38, pos := "law.go:53", after := #[], guard := none } : Oper)) (v := .agg B.toArray) rfl (by kernel_rfl) (by kernel_rfl) (by kernel_rfl) (fun _ _ _ h => h) (yieldsIf_load_mid (by rfl) 38 _ rfl (w.heap.size + 1) 0 rfl B _ (fun _ h => h.2) Tryz.underlying38 rfl hinB) (by assumption) ?_
  try simp only [Act.put, List.setIfInBounds_toArray, List.set_cons_zero, List.set_cons_succ]
  refine wpAnyH_ready (rs := [2]) (by kernel_rfl) (by simp) ?_
  refine AllReadyH.cons (o := ({ dst := some 7, op := Op.call { callee := Callee.value (Operand.func 24), args := #[Operand.tmp 5, Operand.tmp 6], argTypes := #[38, 38] }, type := 4, pos := "law.go:53", after := #[{ on := 0, ground := Ground.data }, { on := 1, ground := Ground.data }], guard := none } : Oper)) rfl (fun K hK => ?_) AllReadyH.nil
  go_simp
  refine (K1 _ ha hb).mono ?_
  rintro e W2 ⟨rfl, hbb⟩
  replace hx := blk_below hx hbb
  replace hy := blk_below hy hbb
  replace ha := ha.below hbb
  replace hb := hb.below hbb
  replace hB := below2 hB hbb
  clear hbb
  go_wp2_with fail
  refine hK.out _ _ ⟨range_of_block hx [] _ [] (by simp), range_of_block hy [] _ [] (by simp)⟩ (fun hHeld2 => ?_)
  clear hK K hHeld
  have hHeld := hHeld2
  clear hHeld2
  try simp only [Act.put, List.setIfInBounds_toArray, List.set_cons_zero, List.set_cons_succ]
  refine wpAnyH_ready (rs := [5]) (by kernel_rfl) (by simp) ?_
  refine AllReadyH.cons (o := ({ dst := some 10, op := Op.call { callee := Callee.value (Operand.func 21), args := #[Operand.tmp 8, Operand.tmp 9], argTypes := #[38, 38] }, type := 4, pos := "law.go:53", after := #[{ on := 3, ground := Ground.data }, { on := 4, ground := Ground.data }, { on := 2, ground := Ground.chain }], guard := none } : Oper)) rfl (fun K hK => ?_) AllReadyH.nil
  go_simp
  refine (K2 _ ha hb).mono ?_
  rintro e W2 ⟨rfl, hbb⟩
  replace hx := blk_below hx hbb
  replace hy := blk_below hy hbb
  replace ha := ha.below hbb
  replace hb := hb.below hbb
  replace hB := below2 hB hbb
  clear hbb
  go_wp2_with fail
  refine hK.out _ _ ⟨range_of_block hx [] _ [] (by simp), range_of_block hy [] _ [] (by simp)⟩ (fun hHeld2 => ?_)
  clear hK K hHeld
  have hHeld := hHeld2
  clear hHeld2
  try simp only [Act.put, List.setIfInBounds_toArray, List.set_cons_zero, List.set_cons_succ]
  refine wpAnyH_take (i := 6) (oi := ({ dst := some 11, op := Op.binOp BinOp.eql 4 (Operand.tmp 7) (Operand.tmp 10) 4, type := 4, pos := "law.go:53", after := #[{ on := 2, ground := Ground.data }, { on := 5, ground := Ground.data }], guard := none } : Oper)) (v := .bool true) rfl (by kernel_rfl) (by kernel_rfl) (by kernel_rfl) (fun _ _ _ h => h) (Or.inl ⟨by rfl, fun W hSw => by go_simp⟩) (by assumption) ?_
  try simp only [Act.put, List.setIfInBounds_toArray, List.set_cons_zero, List.set_cons_succ]
  refine wpAnyH_take (i := 7) (oi := ({ dst := some 12, op := Op.move (Operand.tmp 11), type := 4, pos := "law.go:53", after := #[{ on := 6, ground := Ground.data }, { on := 5, ground := Ground.chain }], guard := none } : Oper)) (v := .bool true) rfl (by kernel_rfl) (by kernel_rfl) (by kernel_rfl) (fun _ _ _ h => h) (Or.inl ⟨by rfl, fun W hSw => by go_simp⟩) (by assumption) ?_
  try simp only [Act.put, List.setIfInBounds_toArray, List.set_cons_zero, List.set_cons_succ]
  refine wpAnyH_take (i := 8) (oi := ({ dst := some 13, op := Op.load 38 (Operand.tmp 2), type := 38, pos := "law.go:53", after := #[{ on := 7, ground := Ground.guard }], guard := some (7, true) } : Oper)) (v := .agg A.toArray) rfl (by kernel_rfl) (by kernel_rfl) (by kernel_rfl) (fun _ _ _ h => h) (yieldsIf_load_mid (by rfl) 38 _ rfl w.heap.size 0 rfl A _ (fun _ h => h.1) Tryz.underlying38 rfl hinA) (by assumption) ?_
  try simp only [Act.put, List.setIfInBounds_toArray, List.set_cons_zero, List.set_cons_succ]
  refine wpAnyH_take (i := 9) (oi := ({ dst := some 14, op := Op.load 38 (Operand.tmp 2), type := 38, pos := "law.go:53", after := #[{ on := 7, ground := Ground.guard }], guard := some (7, true) } : Oper)) (v := .agg A.toArray) rfl (by kernel_rfl) (by kernel_rfl) (by kernel_rfl) (fun _ _ _ h => h) (yieldsIf_load_mid (by rfl) 38 _ rfl w.heap.size 0 rfl A _ (fun _ h => h.1) Tryz.underlying38 rfl hinA) (by assumption) ?_
  try simp only [Act.put, List.setIfInBounds_toArray, List.set_cons_zero, List.set_cons_succ]
  refine wpAnyH_ready (rs := [10]) (by kernel_rfl) (by simp) ?_
  refine AllReadyH.cons (o := ({ dst := some 15, op := Op.call { callee := Callee.value (Operand.func 16), args := #[Operand.tmp 14], argTypes := #[38] }, type := 38, pos := "law.go:53", after := #[{ on := 9, ground := Ground.data }, { on := 7, ground := Ground.chain }, { on := 7, ground := Ground.guard }], guard := some (7, true) } : Oper)) rfl (fun K hK => ?_) AllReadyH.nil
  go_simp
  refine (K3 _ ha).mono ?_
  rintro e W2 ⟨q, cap, rfl, ho, hbb⟩
  replace hx := blk_below hx hbb
  replace hy := blk_below hy hbb
  replace ha := ha.below hbb
  replace hb := hb.below hbb
  replace hB := below2 hB hbb
  clear hbb
  go_wp2_with fail
  refine hK.out _ _ ⟨range_of_block hx [] _ [] (by simp), range_of_block hy [] _ [] (by simp)⟩ (fun hHeld2 => ?_)
  clear hK K hHeld
  have hHeld := hHeld2
  clear hHeld2
  try simp only [Act.put, List.setIfInBounds_toArray, List.set_cons_zero, List.set_cons_succ]
  refine wpAnyH_ready (rs := [11]) (by kernel_rfl) (by simp) ?_
  refine AllReadyH.cons (o := ({ dst := some 16, op := Op.call { callee := Callee.value (Operand.func 24), args := #[Operand.tmp 13, Operand.tmp 15], argTypes := #[38, 38] }, type := 4, pos := "law.go:53", after := #[{ on := 8, ground := Ground.data }, { on := 10, ground := Ground.data }, { on := 10, ground := Ground.chain }, { on := 7, ground := Ground.guard }], guard := some (7, true) } : Oper)) rfl (fun K hK => ?_) AllReadyH.nil
  go_simp
  refine (K4 q cap _ ha ho).mono ?_
  rintro e W2 ⟨rfl, hbb⟩
  replace hx := blk_below hx hbb
  replace hy := blk_below hy hbb
  replace ha := ha.below hbb
  replace hb := hb.below hbb
  replace hB := below2 hB hbb
  clear hbb
  go_wp2_with fail
  refine hK.out _ _ ⟨range_of_block hx [] _ [] (by simp), range_of_block hy [] _ [] (by simp)⟩ (fun hHeld2 => ?_)
  clear hK K hHeld
  have hHeld := hHeld2
  clear hHeld2
  try simp only [Act.put, List.setIfInBounds_toArray, List.set_cons_zero, List.set_cons_succ]
  refine wpAnyH_take (i := 12) (oi := ({ dst := some 17, op := Op.pick (Operand.tmp 12) (Operand.tmp 16) (Operand.const (Value.bool false)), type := 4, pos := "law.go:53", after := #[{ on := 7, ground := Ground.data }, { on := 11, ground := Ground.data }], guard := none } : Oper)) (v := .bool true) rfl (by kernel_rfl) (by kernel_rfl) (by kernel_rfl) (fun _ _ _ h => h) (Or.inl ⟨by rfl, fun W hSw => by go_simp⟩) (by assumption) ?_
  try simp only [Act.put, List.setIfInBounds_toArray, List.set_cons_zero, List.set_cons_succ]
  refine wpAnyH_take (i := 13) (oi := ({ dst := some 18, op := Op.move (Operand.tmp 17), type := 4, pos := "law.go:53", after := #[{ on := 12, ground := Ground.data }, { on := 11, ground := Ground.chain }], guard := none } : Oper)) (v := .bool true) rfl (by kernel_rfl) (by kernel_rfl) (by kernel_rfl) (fun _ _ _ h => h) (Or.inl ⟨by rfl, fun W hSw => by go_simp⟩) (by assumption) ?_
  try simp only [Act.put, List.setIfInBounds_toArray, List.set_cons_zero, List.set_cons_succ]
  refine wpAnyH_ready (rs := [14]) (by kernel_rfl) (by simp) ?_
  refine AllReadyH.cons (o := ({ dst := some 19, op := Op.call { callee := Callee.value (Operand.func 15), args := #[], argTypes := #[] }, type := 4, pos := "law.go:53", after := #[{ on := 13, ground := Ground.chain }, { on := 13, ground := Ground.guard }], guard := some (13, true) } : Oper)) rfl (fun K hK => ?_) AllReadyH.nil
  go_simp
  refine (works16_any _).mono ?_
  rintro e W2 ⟨rfl, hbb⟩
  replace hx := blk_below hx hbb
  replace hy := blk_below hy hbb
  replace ha := ha.below hbb
  replace hb := hb.below hbb
  replace hB := below2 hB hbb
  clear hbb
  go_wp2_with fail
  refine hK.out _ _ ⟨range_of_block hx [] _ [] (by simp), range_of_block hy [] _ [] (by simp)⟩ (fun hHeld2 => ?_)
  clear hK K hHeld
  have hHeld := hHeld2
  clear hHeld2
  try simp only [Act.put, List.setIfInBounds_toArray, List.set_cons_zero, List.set_cons_succ]
  refine wpAnyH_take (i := 15) (oi := ({ dst := some 20, op := Op.pick (Operand.tmp 18) (Operand.tmp 19) (Operand.const (Value.bool false)), type := 4, pos := "law.go:53", after := #[{ on := 13, ground := Ground.data }, { on := 14, ground := Ground.data }], guard := none } : Oper)) (v := .bool true) rfl (by kernel_rfl) (by kernel_rfl) (by kernel_rfl) (fun _ _ _ h => h) (Or.inl ⟨by rfl, fun W hSw => by go_simp⟩) (by assumption) ?_
  try simp only [Act.put, List.setIfInBounds_toArray, List.set_cons_zero, List.set_cons_succ]
  refine wpAnyH_take (i := 16) (oi := ({ dst := some 4, op := Op.assign (Operand.tmp 20), type := 4, pos := "law.go:53", after := #[{ on := 15, ground := Ground.data }, { on := 14, ground := Ground.chain }, { on := 0, ground := Ground.phase }, { on := 1, ground := Ground.phase }, { on := 2, ground := Ground.phase }, { on := 3, ground := Ground.phase }, { on := 4, ground := Ground.phase }, { on := 5, ground := Ground.phase }, { on := 6, ground := Ground.phase }, { on := 7, ground := Ground.phase }, { on := 8, ground := Ground.phase }, { on := 9, ground := Ground.phase }, { on := 10, ground := Ground.phase }, { on := 11, ground := Ground.phase }, { on := 12, ground := Ground.phase }, { on := 13, ground := Ground.phase }, { on := 14, ground := Ground.phase }, { on := 15, ground := Ground.phase }], guard := none } : Oper)) (v := .bool true) rfl (by kernel_rfl) (by kernel_rfl) (by kernel_rfl) (fun _ _ _ h => h) (Or.inl ⟨by rfl, fun W hSw => by go_simp⟩) (by assumption) ?_
  try simp only [Act.put, List.setIfInBounds_toArray, List.set_cons_zero, List.set_cons_succ]
  refine wpAnyH_done (by kernel_rfl) ?_ _
  refine NoPanic.normal ?_
  go_wp2
  go_ret
  exact ⟨rfl, hB⟩

end Go.Proofs.YtbdbefgfejdbjaaGreat
