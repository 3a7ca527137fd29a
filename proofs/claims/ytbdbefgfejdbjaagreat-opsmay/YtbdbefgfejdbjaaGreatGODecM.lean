/-
  ops.EncodeMsg, ops.DecodeMsg of the laws' one message.
  ops.DecodeMsg of the bytes of the laws' one message.
-/
import Derived.Test.YtbdbefgfejdbjaaGreatOMs3
import Derived.Test.YtbdbefgfejdbjaaGreatGOLayMsg
namespace Go.Proofs.YtbdbefgfejdbjaaGreat
open Go.RowKit Go.BigFrame
attribute [local go_sem] size_bstr toList_bstr

def hd2 : List Lit := [.int .i64 2, .int .i64 3, .int .u64 300, .int .u64 0, .int .u64 0, .int .u64 0, .bool true]
def b2 : List Lit := [.int .u64 0, .int .u64 0]
def tl2 : List Lit := (Lit.string [] :: Lit.int .i64 0 :: Lit.int .u64 0 :: Lit.int .i64 0 :: Lit.int .u64 0 :: Lit.int .i64 0 :: Lit.string [] :: Lit.string [] :: Lit.string [] :: Lit.bool false :: Lit.string [] :: Lit.int .i64 0 :: Lit.int .u64 0 :: Lit.int .i64 0 :: Lit.bool false :: Lit.string [] :: Lit.string [] :: Lit.int .u64 0 :: Lit.int .i64 0 :: Lit.int .i64 0 :: Lit.int .i64 0 :: Lit.int .i64 0 :: Lit.int .u64 0 :: Lit.int .u64 0 :: Lit.int .i64 0 :: Lit.string [] :: Lit.string [] :: Lit.string [] :: Lit.bool false :: Lit.string [] :: Lit.int .u64 0 :: Lit.int .i64 0 :: Lit.string [] :: Lit.string [] :: Lit.int .i64 0 :: Lit.bool false :: Lit.int .i64 0 :: Lit.string [] :: Lit.int .i64 0 :: Lit.int .i64 0 :: Lit.int .i64 0 :: Lit.int .i64 0 :: Lit.int .i64 0 :: Lit.int .u64 0 :: Lit.int .i64 0 :: Lit.int .i64 0 :: Lit.int .i64 0 :: [])
def mz : List Value := (Value.int .i64 0 :: Value.int .i64 0 :: Value.int .u64 0 :: Value.int .u64 0 :: Value.int .u64 0 :: Value.int .u64 0 :: Value.bool false :: Value.slice none 0 0 :: Value.int .u64 0 :: Value.int .u64 0 :: Value.slice none 0 0 :: Value.string ⟨#[]⟩ :: Value.int .i64 0 :: Value.int .u64 0 :: Value.int .i64 0 :: Value.int .u64 0 :: Value.int .i64 0 :: Value.string ⟨#[]⟩ :: Value.string ⟨#[]⟩ :: Value.string ⟨#[]⟩ :: Value.bool false :: Value.string ⟨#[]⟩ :: Value.int .i64 0 :: Value.int .u64 0 :: Value.int .i64 0 :: Value.bool false :: Value.string ⟨#[]⟩ :: Value.string ⟨#[]⟩ :: Value.int .u64 0 :: Value.int .i64 0 :: Value.int .i64 0 :: Value.int .i64 0 :: Value.int .i64 0 :: Value.int .u64 0 :: Value.int .u64 0 :: Value.int .i64 0 :: Value.string ⟨#[]⟩ :: Value.string ⟨#[]⟩ :: Value.string ⟨#[]⟩ :: Value.bool false :: Value.string ⟨#[]⟩ :: Value.int .u64 0 :: Value.int .i64 0 :: Value.string ⟨#[]⟩ :: Value.string ⟨#[]⟩ :: Value.int .i64 0 :: Value.bool false :: Value.int .i64 0 :: Value.string ⟨#[]⟩ :: Value.int .i64 0 :: Value.int .i64 0 :: Value.int .i64 0 :: Value.int .i64 0 :: Value.int .i64 0 :: Value.int .u64 0 :: Value.int .i64 0 :: Value.int .i64 0 :: Value.int .i64 0 :: [])
def L2 : List UInt8 := layKs msgK hd2 ++ (layEs [] ++ (layKs baseK b2 ++ (layMem [] ++ layKs tailK tl2)))
/-- The same, worked out. -/
def fitKb : Fk → Lit → Bool
  | .I, .int .i64 n => decide (0 ≤ n) && decide (n ≤ 2147483647)
  | .U, .int .u64 n => decide (0 ≤ n) && decide (n ≤ 18446744073709551615)
  | .B, .bool _ => true
  | .S, .string s => decide (s.length ≤ 1048576)
  | .G, .int .i64 n => decide (zig n ≤ 2147483647)
  | _, _ => false
def fitKsb : List Fk → List Lit → Bool
  | [], [] => true
  | k :: ks, v :: vs => fitKb k v && fitKsb ks vs
  | _, _ => false
theorem fitK_of {k : Fk} {v : Lit} (h : fitKb k v = true) : fitK k v := by
  unfold fitKb at h
  unfold fitK
  split at h <;> simp_all
theorem fitKs_of : ∀ {ks : List Fk} {vs : List Lit}, fitKsb ks vs = true → fitKs ks vs
  | [], [], _ => trivial
  | k :: ks, v :: vs, h => by
    simp only [fitKsb, Bool.and_eq_true] at h
    exact ⟨fitK_of h.1, fitKs_of h.2⟩
  | [], _ :: _, h => by simp [fitKsb] at h
  | _ :: _, [], h => by simp [fitKsb] at h
def tlen : Lit → Nat
  | .string s => s.length
  | _ => 0
theorem layKs_len2 : ∀ {ks : List Fk} {vs : List Lit}, fitKs ks vs → (layKs ks vs).length ≤ 10 * ks.length + (vs.map tlen).sum
  | [], [], _ => by simp [layKs]
  | k :: ks, v :: vs, h => by
    have h2 := layKs_len2 h.2
    have h1 : (layK k v).length ≤ 10 + tlen v := by
      have h1 := h.1
      unfold fitK at h1
      split at h1
      · rename_i n
        have := Lib.uvarint_length64 (x := n.toNat) (by omega)
        simp only [layK, tlen]; omega
      · rename_i n
        have := Lib.uvarint_length64 (x := n.toNat) (by omega)
        simp only [layK, tlen]; omega
      · rename_i b
        cases b <;> decide
      · rename_i s
        have := txt_len (s := s) (by omega)
        simp only [layK, tlen]; omega
      · rename_i n
        have := Lib.uvarint_length64 (x := zig n) (by omega)
        simp only [layK, tlen]; omega
      · exact h1.elim
    simp only [layKs, List.length_append, List.length_cons, List.map_cons, List.sum_cons]
    omega
  | [], _ :: _, h => h.elim
  | _ :: _, [], h => h.elim
theorem fit_hd2 : fitKs msgK hd2 := fitKs_of (by kernel_rfl)
theorem fit_b2 : fitKs baseK b2 := fitKs_of (by kernel_rfl)
theorem fit_tl2 : fitKs tailK tl2 := fitKs_of (by kernel_rfl)
theorem L2_len : L2.length ≤ 1048576 := by
  have h1 := layKs_len2 fit_hd2
  have h2 := layKs_len2 fit_b2
  have h3 := layKs_len2 fit_tl2
  have h4 := layMem_len (l := []) ⟨by simp, by simp⟩
  have h5 : (layEs []).length ≤ 10 := by
    show (Lib.uvarint 0 ++ []).length ≤ 10
    rw [List.append_nil]
    exact Lib.uvarint_length64 (by omega)
  have e1 : (hd2.map tlen).sum = 0 := by kernel_rfl
  have e2 : (b2.map tlen).sum = 0 := by kernel_rfl
  have e3 : (tl2.map tlen).sum = 0 := by kernel_rfl
  have l1 : msgK.length = 7 := rfl
  have l2 : baseK.length = 2 := rfl
  have l3 : tailK.length = 47 := rfl
  unfold L2
  simp only [List.length_append]
  omega

set_option maxHeartbeats 8000000 in
set_option maxRecDepth 100000 in
theorem oLay2_any (w : World) : Calls Tryz.prog 58 #[.agg (m2 none 0 none 0).toArray] w fun e w' => e = .returned (.string (bstr L2)) ∧ Below w.heap.size w w' :=
  oLayMsg_any hd2 b2 tl2 (.slice none 0 0) (layEs []) (.slice none 0 0) (layMem []) w fit_hd2 fit_b2 fit_tl2 (by simp [layEs, les]; exact Nat.le_trans (Lib.uvarint_length64 (x := 0) (by omega)) (by omega)) (fun W _ => oLayEnts_any none 0 [] W (fun h => absurd h (by simp)) (by simp) (by simp)) (by have := layMem_len (l := []) ⟨by simp, by simp⟩; omega) (fun W _ => oLayMem_any none 0 [] W (fun h => absurd h (by simp)) (by simp) (by simp))

set_option maxHeartbeats 8000000 in
set_option maxRecDepth 100000 in
theorem oEnc2_any (w : World) : Calls Tryz.prog 57 #[.agg (m2 none 0 none 0).toArray, .func (.func 26) #[] #[], .func (.func 58) #[] #[]] w fun e w' => e = .returned (.tuple #[.string (bstr L2), .int .i64 0]) ∧ Below w.heap.size w w' := by
  have hx0 := blk_new w 61 (m2 none 0 none 0).toArray
  have hb0 : Below w.heap.size w (w.alloc (.cells (m2 none 0 none 0).toArray 61)) := (Below.refl _ _).alloc (Nat.le_refl _) _
  have hr0 : (w.alloc (.cells (m2 none 0 none 0).toArray 61)).rangeAt w.heap.size 0 (m2 none 0 none 0) := range_of_block hx0 [] _ [] (by simp)
  go_enter Tryz.func57, Tryz.ntmps57
  go_wp2_with (first | refine wpList_load_mid rfl 61 _ rfl w.heap.size 0 rfl (m2 none 0 none 0) _ hr0 Tryz.underlying61 rfl (by kernel_rfl) ?_ | fail)
  refine (oMsg2_any none 0 none 0 _).mono ?_
  rintro x w2 ⟨rfl, hb2⟩
  have hr2 : w2.rangeAt w.heap.size 0 (m2 none 0 none 0) := range_of_block (blk_below hx0 hb2) [] _ [] (by simp)
  have hB2 := below2 hb0 hb2
  clear hx0 hb0 hr0 hb2
  go_wp2_with (first | refine wpList_load_mid rfl 61 _ rfl w.heap.size 0 rfl (m2 none 0 none 0) _ hr2 Tryz.underlying61 rfl (by kernel_rfl) ?_ | fail)
  refine (oLay2_any _).mono ?_
  rintro x w3 ⟨rfl, hb3⟩
  have hB3 := below2 hB2 hb3
  clear hr2 hB2 hb3
  go_wp2
  go_ret2
  exact ⟨rfl, hB3⟩

set_option maxHeartbeats 8000000 in
set_option maxRecDepth 100000 in
theorem oEncM2_any (w : World) : Calls Tryz.prog 25 #[.agg (m2 none 0 none 0).toArray] w fun e w' => e = .returned (.tuple #[.string (bstr L2), .int .i64 0]) ∧ Below w.heap.size w w' := by
  have hx0 := blk_new w 61 (m2 none 0 none 0).toArray
  have hb0 : Below w.heap.size w (w.alloc (.cells (m2 none 0 none 0).toArray 61)) := (Below.refl _ _).alloc (Nat.le_refl _) _
  have hr0 : (w.alloc (.cells (m2 none 0 none 0).toArray 61)).rangeAt w.heap.size 0 (m2 none 0 none 0) := range_of_block hx0 [] _ [] (by simp)
  go_enter Tryz.func25, Tryz.ntmps25
  go_wp2_with (first | refine wpList_load_mid rfl 61 _ rfl w.heap.size 0 rfl (m2 none 0 none 0) _ hr0 Tryz.underlying61 rfl (by kernel_rfl) ?_ | fail)
  refine (oEnc2_any _).mono ?_
  rintro x w2 ⟨rfl, hb2⟩
  have hB2 := below2 hb0 hb2
  clear hx0 hb0 hr0 hb2
  go_wp2
  go_ret2
  exact ⟨rfl, hB2⟩

end Go.Proofs.YtbdbefgfejdbjaaGreat

namespace Go.Proofs.YtbdbefgfejdbjaaGreat
open Go.RowKit Go.BigFrame
attribute [local go_sem] size_bstr toList_bstr

theorem ents_none (r : List UInt8) : entsN ⟨true, layEs [] ++ r⟩ = 0 ∧ entsS0 ⟨true, layEs [] ++ r⟩ = ⟨true, r⟩ := by
  obtain ⟨p1, p2, p3⟩ := nA_num (x := 0) (m := 8) (r := r) (by omega) (by omega)
  have e : layEs [] ++ r = Lib.uvarint 0 ++ r := by show (Lib.uvarint 0 ++ []) ++ r = _; rw [List.append_nil]
  rw [e]
  unfold entsN entsS0
  simp only
  rw [p1, p2, p3]
  exact ⟨rfl, rfl⟩
theorem mem_none (r : List UInt8) : memN ⟨true, layMem [] ++ r⟩ = 0 ∧ memS0 ⟨true, layMem [] ++ r⟩ = ⟨true, r⟩ := by
  obtain ⟨p1, p2, p3⟩ := nA_num (x := 0) (m := 5) (r := r) (by omega) (by omega)
  have e : layMem [] ++ r = Lib.uvarint 0 ++ r := by rw [layMem_eq]; show (Lib.uvarint 0 ++ []) ++ r = _; rw [List.append_nil]
  rw [e]
  unfold memN memS0
  simp only
  rw [p1, p2, p3]
  exact ⟨rfl, rfl⟩
theorem L2_take : entsL (takSs msgK ⟨true, L2⟩) = [] ∧ takVs msgK ⟨true, L2⟩ = hd2 ∧ takVs baseK (entsE (takSs msgK ⟨true, L2⟩)) = b2 ∧ memI (takSs baseK (entsE (takSs msgK ⟨true, L2⟩))) = [] ∧
    takVs tailK (memE (takSs baseK (entsE (takSs msgK ⟨true, L2⟩)))) = tl2 ∧ msgE ⟨true, L2⟩ = ⟨true, []⟩ := by
  obtain ⟨a1, a2⟩ := takes_lay (layEs [] ++ (layKs baseK b2 ++ (layMem [] ++ layKs tailK tl2))) fit_hd2
  obtain ⟨b1, b3⟩ := ents_none (layKs baseK b2 ++ (layMem [] ++ layKs tailK tl2))
  have b4 : entsE ⟨true, layEs [] ++ (layKs baseK b2 ++ (layMem [] ++ layKs tailK tl2))⟩ = ⟨true, layKs baseK b2 ++ (layMem [] ++ layKs tailK tl2)⟩ := by unfold entsE; rw [b1, b3]; rfl
  have b5 : entsL ⟨true, layEs [] ++ (layKs baseK b2 ++ (layMem [] ++ layKs tailK tl2))⟩ = [] := by unfold entsL; rw [b1]; rfl
  obtain ⟨c1, c2⟩ := takes_lay (layMem [] ++ layKs tailK tl2) fit_b2
  obtain ⟨d1, d2⟩ := mem_none (layKs tailK tl2)
  have d3 : memE ⟨true, layMem [] ++ layKs tailK tl2⟩ = ⟨true, layKs tailK tl2⟩ := by unfold memE; rw [d1, d2]; rfl
  have d4 : memI ⟨true, layMem [] ++ layKs tailK tl2⟩ = [] := by unfold memI; rw [d1]; rfl
  obtain ⟨e1, e2⟩ := takes_lay [] fit_tl2
  rw [List.append_nil] at e1 e2
  have hL : L2 = layKs msgK hd2 ++ (layEs [] ++ (layKs baseK b2 ++ (layMem [] ++ layKs tailK tl2))) := rfl
  unfold msgE
  rw [hL, a1, a2, b4, b5, c1, c2, d3, d4, e1, e2]
  exact ⟨rfl, rfl, rfl, rfl, rfl, rfl⟩
/-- What it answers. -/
def Dec2Q (w : World) (e : Ending) (w' : World) : Prop := Below w.heap.size w w' ∧ ∃ q cap q2 cap2, e = .returned (.tuple #[.agg (m2 q cap q2 cap2).toArray, .int .i64 0])

set_option maxHeartbeats 8000000 in
set_option maxRecDepth 100000 in
theorem oDecM_any (w : World) :
    Calls Tryz.prog 65 #[.string (bstr L2), .func (.func 26) #[] #[], .func (.func 66) #[] #[]] w (Dec2Q w) := by
  have hz0 := blk_new w 61 mz.toArray
  obtain ⟨Q, hQ⟩ : ∃ Q, Q = Dec2Q w := ⟨_, rfl⟩
  rw [← hQ]
  have HQ : Hid _ := hQ
  clear hQ
  go_enter Tryz.func65, Tryz.ntmps65
  go_wp2_with fail
  refine (jNew_any L2 _).mono ?_
  rintro x w1 ⟨g, nr, na, rfl, ⟨W0, hT⟩, hg, hna, hb1⟩
  rw [World.size_alloc] at hg hna
  have hz1 : Blk w1 w.heap.size 61 mz.toArray := blk_below hz0 hb1
  have hB1 : Below w.heap.size w w1 := bel_call hb1 (bel_alloc (Below.refl _ _))
  obtain ⟨N, hN⟩ : ∃ N, N = w1.heap.size := ⟨_, rfl⟩
  obtain ⟨w2, hw2⟩ : ∃ w2, w2 = w1.alloc (.cells #[tk1 nr na, tk2 nr na, tk3 nr na] 108) := ⟨_, rfl⟩
  have hb2 : Below w1.heap.size w1 w2 := by rw [hw2]; exact (Below.refl _ _).alloc (Nat.le_refl _) _
  have hz2 := blk_below hz1 hb2
  have hbx : Blk w2 N 108 #[tk1 nr na, tk2 nr na, tk3 nr na] := by rw [hw2, hN]; exact heap_alloc_new w1 _
  have c0 : w2.cell? ⟨N, 0, none⟩ = some (tk1 nr na) := (mcells hbx).1 0
  have c1 : w2.cell? ⟨N, 1, none⟩ = some (tk2 nr na) := (mcells hbx).1 1
  have c2 : w2.cell? ⟨N, 2, none⟩ = some (tk3 nr na) := (mcells hbx).1 2
  have hT2 := hT.step hb2
  have hgN : g < w1.heap.size := hT.rd.lt
  have hnaN : na < w1.heap.size := hT.rn
  have M1 : Hid (N ≠ g) := by show _ ≠ _; omega
  have M2 : Hid (N ≠ na) := by show _ ≠ _; omega
  have M3 : Hid (w.heap.size ≠ g) := by show _ ≠ _; omega
  have M4 : Hid (w.heap.size ≠ na) := by show _ ≠ _; omega
  have hwN : w.heap.size < N := by rw [hN]; exact blk_lt hz1
  have hN2 : w2.heap.size = N + 1 := by rw [hw2, hN]; simp
  have M5 : Hid (w.heap.size + 1 ≤ w2.heap.size) := by show _ ≤ _; omega
  have M6 : Hid (w.heap.size ≤ g ∧ w.heap.size ≤ na) := by constructor <;> omega
  have M7 : Hid (g < w2.heap.size ∧ na < w2.heap.size) := by constructor <;> omega
  have MB : Hid _ := bel_call hb2 hB1
  have HW : Hid _ := hw2
  have HN : Hid _ := hN
  have HZ : Hid (Blk w2 w.heap.size 61 mz.toArray) := hz2
  have HT2 : Hid _ := hT2
  clear hg hna hgN hnaN hb1 hB1 hb2 hz0 hz1 hz2 hw2 hT hwN hN2 hbx
  go_upto_region 2 with fail
  rw [← HN.out]
  have HW2 := HW.out
  rw [← HW2]
  clear HW2 HW HN hN
  go_wp2_with fail
  refine (oTakMsg_any g nr na ⟨true, L2⟩ W0 w2 HT2.out L2_len).mono ?_
  rintro x w3 ⟨q, cap, es, q2, cap2, rfl, _, hes, _, hT3, k3⟩
  obtain ⟨v1, v2, v3, v4, v5, v6⟩ := L2_take
  rw [v1] at hes
  obtain rfl : es = [] := List.map_eq_nil_iff.1 hes
  rw [v2, v3, v4, v5]
  rw [v6] at hT3
  rw [show msgV hd2 q cap [] b2 q2 cap2 [] tl2 = .agg (m2 q cap q2 cap2).toArray from rfl]
  clear v1 v2 v3 v4 v5 v6 hes
  replace c0 := (k3.cell (block_lt_of_cell c0) M1.out M2.out).trans c0
  replace c1 := (k3.cell (block_lt_of_cell c1) M1.out M2.out).trans c1
  replace c2 := (k3.cell (block_lt_of_cell c2) M1.out M2.out).trans c2
  have hz3 : Blk w3 w.heap.size 61 mz.toArray := (k3.2 _ (blk_lt HZ.out) M3.out M4.out).trans HZ.out
  have hone : (m2 q cap q2 cap2).toArray.all (·.oneCell') = true := by kernel_rfl
  obtain ⟨X, hX⟩ : ∃ X, X = w3.heap.size := ⟨_, rfl⟩
  obtain ⟨w4, hw4⟩ : ∃ w4, w4 = (w3.alloc (.cells mz.toArray 61)).setCells w3.heap.size 0 (m2 q cap q2 cap2).toArray.toList := ⟨_, rfl⟩
  have hb4 : Below w3.heap.size w3 w4 := by rw [hw4]; exact bel_cells (Nat.le_refl _) _ _ ((Below.refl _ _).alloc (Nat.le_refl _) _)
  have hx4 : Blk w4 X 61 (m2 q cap q2 cap2).toArray := by rw [hw4, hX]; exact blk_store (blk_new w3 61 mz.toArray) rfl
  have hz4 := blk_below hz3 hb4
  replace c0 := cell_below hb4 c0
  replace c1 := cell_below hb4 c1
  replace c2 := cell_below hb4 c2
  have hT4 := hT3.step hb4
  have k4 : Kt g na w2 w4 := k3.trans (Kt.below hb4)
  have HB4 : Hid _ := bel_kt MB.out HT2.out hT4 k4 M6.out.1 M6.out.2
  have hXw : w.heap.size < X := by rw [hX]; exact blk_lt hz3
  have MX : Hid _ := hXw
  have HW : Hid _ := hw4
  have HX : Hid _ := hX
  have HZ4 : Hid (Blk w4 w.heap.size 61 mz.toArray) := hz4
  have HX4 : Hid (Blk w4 X 61 (m2 q cap q2 cap2).toArray) := hx4
  clear hb4 hw4 hz3 hT3 k3 k4 hXw HT2 HZ MB hz4 hx4
  go_upto_region 3 with (first | refine wpList_store_mid rfl 61 _ _ rfl w3.heap.size 0 (m2 q cap q2 cap2).toArray rfl rfl (blk_there (blk_new w3 _ _) rfl) (by kernel_rfl) hone ?_ | fail)
  have HW2 := HW.out
  rw [← HX.out]
  rw [show mz.toArray = (Value.int .i64 0 :: Value.int .i64 0 :: Value.int .u64 0 :: Value.int .u64 0 :: Value.int .u64 0 :: Value.int .u64 0 :: Value.bool false :: Value.slice none 0 0 :: Value.int .u64 0 :: Value.int .u64 0 :: Value.slice none 0 0 :: Value.string ⟨#[]⟩ :: Value.int .i64 0 :: Value.int .u64 0 :: Value.int .i64 0 :: Value.int .u64 0 :: Value.int .i64 0 :: Value.string ⟨#[]⟩ :: Value.string ⟨#[]⟩ :: Value.string ⟨#[]⟩ :: Value.bool false :: Value.string ⟨#[]⟩ :: Value.int .i64 0 :: Value.int .u64 0 :: Value.int .i64 0 :: Value.bool false :: Value.string ⟨#[]⟩ :: Value.string ⟨#[]⟩ :: Value.int .u64 0 :: Value.int .i64 0 :: Value.int .i64 0 :: Value.int .i64 0 :: Value.int .i64 0 :: Value.int .u64 0 :: Value.int .u64 0 :: Value.int .i64 0 :: Value.string ⟨#[]⟩ :: Value.string ⟨#[]⟩ :: Value.string ⟨#[]⟩ :: Value.bool false :: Value.string ⟨#[]⟩ :: Value.int .u64 0 :: Value.int .i64 0 :: Value.string ⟨#[]⟩ :: Value.string ⟨#[]⟩ :: Value.int .i64 0 :: Value.bool false :: Value.int .i64 0 :: Value.string ⟨#[]⟩ :: Value.int .i64 0 :: Value.int .i64 0 :: Value.int .i64 0 :: Value.int .i64 0 :: Value.int .i64 0 :: Value.int .u64 0 :: Value.int .i64 0 :: Value.int .i64 0 :: Value.int .i64 0 :: []).toArray from rfl, ← HX.out] at HW2
  rw [← HW2]
  clear HW2 HW HX hX
  go_wp2_with fail
  refine (jWhole_any g nr na true [] W0 w4 hT4).mono ?_
  rintro x w5 ⟨rfl, rfl⟩
  rw [show (true && decide (([] : List UInt8).length = 0)) = true from rfl]
  clear hT4 c0 c1 c2
  have hl24 : (Tryz.prog.info? 61).map (·.size) = some (m2 q cap q2 cap2).length := by kernel_rfl
  have hrx : w5.rangeAt X 0 (m2 q cap q2 cap2) := range_of_block HX4.out [] (m2 q cap q2 cap2) [] (by simp)
  go_wp2_with (first | refine wpList_load_w (by kernel_rfl) 61 _ rfl X 0 rfl (m2 q cap q2 cap2) _ hrx Tryz.underlying61 rfl hl24 ?_ | fail)
  refine (oMsg2_any q cap q2 cap2 w5).mono ?_
  rintro x w6 ⟨rfl, hb6⟩
  have hz6 := blk_below HZ4.out hb6
  have hx6 := blk_below HX4.out hb6
  have hB6 := below2 HB4.out hb6
  clear hrx HX4 HZ4 HB4 hb6
  have hrx : w6.rangeAt X 0 (m2 q cap q2 cap2) := range_of_block hx6 [] (m2 q cap q2 cap2) [] (by simp)
  go_wp2_with (first | refine wpList_load_mid rfl 61 _ rfl X 0 rfl (m2 q cap q2 cap2) _ hrx Tryz.underlying61 rfl hl24 ?_ | refine wpList_store_mid rfl 61 _ _ rfl w.heap.size 0 (m2 q cap q2 cap2).toArray rfl rfl (blk_there hz6 rfl) hl24 hone ?_ | fail)
  refine res_two (cs := m2 q cap q2 cap2) rfl Tryz.underlying61 rfl hl24 rfl rfl (blk_store hz6 rfl) rfl ?_
  rw [HQ.out]
  exact ⟨bel_cells (Nat.le_refl _) _ _ hB6, q, cap, q2, cap2, rfl⟩


set_option maxHeartbeats 8000000 in
set_option maxRecDepth 100000 in
/-- ops.DecodeMsg. -/
theorem oDecodeM_any (w : World) : Calls Tryz.prog 27 #[.string (bstr L2)] w (Dec2Q w) := by
  have hz0 := blk_new w 61 mz.toArray
  have hB0 : Below w.heap.size w (w.alloc (.cells mz.toArray 61)) := (Below.refl _ _).alloc (Nat.le_refl _) _
  obtain ⟨Q, hQ⟩ : ∃ Q, Q = Dec2Q w := ⟨_, rfl⟩
  rw [← hQ]
  have HQ : Hid _ := hQ
  clear hQ
  go_enter Tryz.func27, Tryz.ntmps27
  go_wp2_with fail
  refine (oDecM_any _).mono ?_
  rintro x w1 ⟨hb1, q, cap, q2, cap2, rfl⟩
  have hz1 : Blk w1 w.heap.size 61 mz.toArray := blk_below hz0 hb1
  have hB1 := bel_call hb1 hB0
  clear hz0 hB0 hb1
  have hl24 : (Tryz.prog.info? 61).map (·.size) = some (m2 q cap q2 cap2).length := by kernel_rfl
  have hone : (m2 q cap q2 cap2).toArray.all (·.oneCell') = true := by kernel_rfl
  go_wp2_with (first | refine wpList_store_mid rfl 61 _ _ rfl w.heap.size 0 (m2 q cap q2 cap2).toArray rfl rfl (blk_there hz1 rfl) hl24 hone ?_ | fail)
  refine res_two (cs := m2 q cap q2 cap2) rfl Tryz.underlying61 rfl hl24 rfl rfl (blk_store hz1 rfl) rfl ?_
  rw [HQ.out]
  exact ⟨bel_cells (Nat.le_refl _) _ _ hB1, q, cap, q2, cap2, rfl⟩

end Go.Proofs.YtbdbefgfejdbjaaGreat
