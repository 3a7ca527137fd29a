/-
  session: what lies in a cell, read.
  The law OpsOther.
-/
import Derived.Test.YtbdbefgfejdbjaaGreatGOCmd
import Derived.Test.YtbdbefgfejdbjaaGreatGOWk
import Derived.Deep.DeepHandedRow
import Derived.Test.YtbdbefgfejdbjaaGreatGOSm
import Derived.Test.YtbdbefgfejdbjaaGreatGOEnB
namespace Go.Proofs.YtbdbefgfejdbjaaGreat
open Go.RowKit Go.BigFrame
attribute [local go_sem] size_bstr toList_bstr

def eqR (a b : Rz) : Bool := decide (a.err = b.err) && a.found == b.found && a.row == b.row && a.val == b.val && decide ((a.ver : Int) = (b.ver : Int))
theorem eqR_iff {a b : Rz} : eqR a b = true ↔ a = b := by
  cases a
  cases b
  simp [eqR, and_assoc]
  intros
  omega
theorem eqFields_rz (a b : Rz) (w : World) : (Op.equalIn 10000 46 (rzV a) (rzV b)).run Tryz.prog w = .ok (eqR a b) w := by
  have hS : Tryz.prog.underlying 46 = some (.struct (Tryz.prog.fieldsOf 46)) := by kernel_rfl
  have hp : Tryz.prog.stoodInHeld 46 = false := by kernel_rfl
  have u := Tryz.underlying9
  have ag := Tryz.isAgg9
  have sz := Tryz.sizeOf9
  have u2 := Tryz.underlying22
  have ag2 := Tryz.isAgg22
  have sz2 := Tryz.sizeOf22
  have u3 := Tryz.underlying4
  have ag3 := Tryz.isAgg4
  have sz3 := Tryz.sizeOf4
  have u4 := Tryz.underlying31
  have ag4 := Tryz.isAgg31
  have sz4 := Tryz.sizeOf31
  rw [show (10000 : Nat) = 9999 + 1 from rfl, run_equalIn_agg w 9999 46 _ _ hS hp]
  simp only [Program.fieldsOf, Tryz.underlying46]
  go_simp
  obtain ⟨r, c, v, g, x⟩ := a
  obtain ⟨r', c', v', g', x'⟩ := b
  simp only [eqR]
  by_cases h1 : r = r' <;> by_cases h2 : c = c' <;> by_cases h3 : v = v' <;> by_cases h4 : g = g' <;> by_cases h5 : (x : Int) = (x' : Int) <;> simp [h1, h2, h3, h4, h5]
theorem eqFields_rz9 (a b : Rz) (w : World) : (Op.equalIn 9999 46 (rzV a) (rzV b)).run Tryz.prog w = .ok (eqR a b) w := by
  have hS : Tryz.prog.underlying 46 = some (.struct (Tryz.prog.fieldsOf 46)) := by kernel_rfl
  have hp : Tryz.prog.stoodInHeld 46 = false := by kernel_rfl
  have u := Tryz.underlying9
  have ag := Tryz.isAgg9
  have sz := Tryz.sizeOf9
  have u2 := Tryz.underlying22
  have ag2 := Tryz.isAgg22
  have sz2 := Tryz.sizeOf22
  have u3 := Tryz.underlying4
  have ag3 := Tryz.isAgg4
  have sz3 := Tryz.sizeOf4
  have u4 := Tryz.underlying31
  have ag4 := Tryz.isAgg31
  have sz4 := Tryz.sizeOf31
  rw [show (9999 : Nat) = 9998 + 1 from rfl, run_equalIn_agg w 9998 46 _ _ hS hp]
  simp only [Program.fieldsOf, Tryz.underlying46]
  go_simp
  obtain ⟨r, c, v, g, x⟩ := a
  obtain ⟨r', c', v', g', x'⟩ := b
  simp only [eqR]
  by_cases h1 : r = r' <;> by_cases h2 : c = c' <;> by_cases h3 : v = v' <;> by_cases h4 : g = g' <;> by_cases h5 : (x : Int) = (x' : Int) <;> simp [h1, h2, h3, h4, h5]
theorem rz_eql (k : Int) (g : Bool) (r v : List UInt8) (n : Nat) (k' : Int) (g' : Bool) (r' v' : List UInt8) (n' : Nat) (w : World) : (binOp .eql 46 (.agg #[.int .i64 k, .bool g, .string (bstr r), .string (bstr v), .int .u64 (n : Int)]) (.agg #[.int .i64 k', .bool g', .string (bstr r'), .string (bstr v'), .int .u64 (n' : Int)])).run Tryz.prog w = .ok (.bool (eqR ⟨k, g, r, v, n⟩ ⟨k', g', r', v', n'⟩)) w := by
  have := eqFields_rz ⟨k, g, r, v, n⟩ ⟨k', g', r', v', n'⟩ w
  rw [run_eql_struct, this]
  rfl
theorem rz_guard (op : BinOp) (x y : Operand) (xs ys : Array Value) (w : World) : (eqGuard op 46 x y (.agg xs) (.agg ys)).run Tryz.prog w = .ok () w :=
  run_eqGuard_agg w op _ x y xs ys (by kernel_rfl)

end Go.Proofs.YtbdbefgfejdbjaaGreat

namespace Go.Proofs.YtbdbefgfejdbjaaGreat
open Go.RowKit Go.BigFrame
attribute [local go_sem] size_bstr toList_bstr

theorem zero_obj : Obj.cells etZ.toArray 38 = Obj.cells #[.int .u64 0, .int .u64 0, .int .i64 0, .int .i64 0, .int .i64 0, .int .u64 0, .int .u64 0, .int .i64 0, .string ⟨#[]⟩, .string ⟨#[]⟩, .string ⟨#[]⟩, .bool false, .string ⟨#[]⟩, .int .u64 0, .int .i64 0, .string ⟨#[]⟩, .string ⟨#[]⟩, .int .i64 0, .bool false, .int .i64 0, .string ⟨#[]⟩, .int .i64 0, .int .i64 0, .slice none 0 0] 38 := rfl
theorem et_room (e : Et) (q : Option Addr) (cap : Nat) : etOf (etL e) e.mem q cap = ⟨e.ix, e.te, e.kd, e.cm, e.mem, q, cap⟩ := rfl
theorem same_room (e : Et) (q : Option Addr) (cap : Nat) : sameE e ⟨e.ix, e.te, e.kd, e.cm, e.mem, q, cap⟩ = true := by
  unfold sameE
  simp
theorem dec_yes {l : List UInt8} {w : World} {x : Ending} {w' : World} (h : DecEQ l w x w') (hd : decEO l = true) : Below w.heap.size w w' ∧ ∃ q cap, x = .returned (.tuple #[.agg (etC (etOf (entHd l) (entMem l) q cap)).toArray, .int .i64 0]) ∧ INew w' (w.heap.size + 1) q (entMem l) := by
  obtain ⟨h1, h2⟩ := h
  rcases h2 with h2 | h2
  · exact ⟨h1, by obtain ⟨_, q, cap, e, i⟩ := h2; exact ⟨q, cap, e, i⟩⟩
  · rw [hd] at h2
    exact absurd h2.1 (by simp)
theorem dec_no {l : List UInt8} {w : World} {x : Ending} {w' : World} (h : DecEQ l w x w') (hd : decEO l = false) : Below w.heap.size w w' ∧ x = .returned (.tuple #[.agg etZ.toArray, .int .i64 4]) := by
  obtain ⟨h1, h2⟩ := h
  rcases h2 with h2 | h2
  · rw [hd] at h2
    exact absurd h2.1 (by simp)
  · exact ⟨h1, h2.2⟩

theorem dec_et {e : Et} {w : World} {x : Ending} {w' : World} (h : DecEQ (etB e) w x w') (hk : okEt e = true) (hi : InE e) : Below w.heap.size w w' ∧ ∃ q cap, x = .returned (.tuple #[.agg (etC ⟨e.ix, e.te, e.kd, e.cm, e.mem, q, cap⟩).toArray, .int .i64 0]) ∧ INew w' (w.heap.size + 1) q e.mem := by
  obtain ⟨d1, d2, d3⟩ := et_dec hk hi
  obtain ⟨h1, q, cap, h2, h3⟩ := dec_yes h d1
  rw [d2, d3, et_room] at h2
  rw [d3] at h3
  exact ⟨h1, q, cap, h2, h3⟩

set_option maxHeartbeats 16000000 in
set_option maxRecDepth 100000 in
theorem OOther_any (e : Et) (er : Int) (f : Bool) (ro va : List UInt8) (ve : Nat) (w : World) (hm : IArg w e.q e.mem) (hl : e.mem.length ≤ 9223372036854775807) (hi : InE e) :
    Calls Tryz.prog 8 #[.agg (etC e).toArray, .agg #[.int .i64 er, .bool f, .string (bstr ro), .string (bstr va), .int .u64 (ve : Int)]] w fun x w' => x = .returned (.bool true) ∧ Below w.heap.size w w' := by
  have HE := fun w h => oEncE_any e w h hl hi
  unfold ansE at HE
  obtain ⟨L, hL⟩ : ∃ L, L = (if okEt e = true then etB e else []) := ⟨_, rfl⟩
  obtain ⟨E, hE⟩ : ∃ E : Int, E = (if okEt e = true then 0 else 2) := ⟨_, rfl⟩
  rw [← hL, ← hE] at HE
  have HLE : Hid (okEt e = true ∧ L = etB e ∧ E = 0 ∨ E = 2) := by
    cases hk : okEt e with
    | true => rw [hk] at hL hE; exact .inl ⟨rfl, hL, hE⟩
    | false => rw [hk] at hE; exact .inr hE
  clear hL hE
  have hC : (etC e).length = 24 := rfl
  have hin : (Tryz.prog.info? 38).map (·.size) = some (etC e).length := by rw [hC]; kernel_rfl
  obtain ⟨w1, hw1⟩ : ∃ w1, w1 = (w.alloc (.cells (etC e).toArray 38)).alloc (.cells #[.int .i64 er, .bool f, .string (bstr ro), .string (bstr va), .int .u64 (ve : Int)] 46) := ⟨_, rfl⟩
  have hB1 : Below w.heap.size w w1 := by rw [hw1]; exact ((Below.refl _ _).alloc (Nat.le_refl _) _).alloc (by simp) _
  have hx1 : Blk w1 w.heap.size 38 (etC e).toArray := by rw [hw1]; exact (Below.heap_alloc _ _ _ (by simp)).trans (blk_new w _ _)
  have hz1 : Blk w1 (w.heap.size + 1) 46 #[.int .i64 er, .bool f, .string (bstr ro), .string (bstr va), .int .u64 (ve : Int)] := by
    have := blk_new (w.alloc (.cells (etC e).toArray 38)) 46 #[.int .i64 er, .bool f, .string (bstr ro), .string (bstr va), .int .u64 (ve : Int)]
    rw [World.size_alloc] at this
    rw [hw1]
    exact this
  have hm1 := hm.below hB1
  have HW : Hid _ := hw1
  clear hw1 hm
  go_enter Tryz.func8, Tryz.ntmps8
  go_upto_region 1 with fail
  have hw1 := HW.out
  rw [← hw1]
  clear hw1 HW
  go_wp2_with fail
  refine (works16_any _).mono ?_
  rintro x w2 ⟨rfl, hb2⟩
  have hx2 := blk_below hx1 hb2
  have hz2 := blk_below hz1 hb2
  have hm2 := hm1.below hb2
  have hB2 := below2 hB1 hb2
  clear hx1 hz1 hm1 hB1 hb2
  have hr2 : w2.rangeAt w.heap.size 0 (etC e) := range_of_block hx2 [] _ [] (by simp)
  go_wp2_with (first | refine wpList_load_mid rfl 38 _ rfl w.heap.size 0 rfl (etC e) _ hr2 Tryz.underlying38 rfl hin ?_ | fail)
  refine (HE w2 hm2).mono ?_
  rintro x w3 ⟨rfl, hb3⟩
  have hx3 := blk_below hx2 hb3
  have hz3 := blk_below hz2 hb3
  have hm3 := hm2.below hb3
  have hB3 := below2 hB2 hb3
  clear hr2 hx2 hz2 hm2 hB2 hb3 HE
  go_upto_if 28 with fail
  go_cut [7, 8, 9, 10, 11, 12] from 28 to 64 (fun s7 s8 s9 s10 s11 s12 wx => Hid (Blk wx (w.heap.size + 1) 46 #[.int .i64 er, .bool f, .string (bstr ro), .string (bstr va), .int .u64 (ve : Int)]) ∧ Below w.heap.size w wx)
  case first =>
    rcases HLE.out with ⟨h1, h2, h3⟩ | h3
    · subst h3
      have hlen := et_len h1 hi
      have HD2 : Hid (decEO (etB e ++ [0]) = false) := et_more h1 hi 0
      have HD3 : Hid (decEO (etB e).dropLast = false) := et_cut h1 hi
      have hne : 0 < (etB e).length := List.length_pos_iff.2 (et_ne h1 hi)
      have HD1 : Hid (∀ (w : World) (x : Ending) (w' : World), DecEQ (etB e) w x w' → Below w.heap.size w w' ∧ ∃ q cap, x = .returned (.tuple #[.agg (etC ⟨e.ix, e.te, e.kd, e.cm, e.mem, q, cap⟩).toArray, .int .i64 0]) ∧ INew w' (w.heap.size + 1) q e.mem) := fun w x w' h => dec_et h h1 hi
      rw [← h2] at hlen HD2 HD3 hne HD1
      clear h2 h1 HLE
      go_wp2_with fail
      refine (oDecodeE_any L w3 (by omega)).mono ?_
      rintro x w4 hx
      obtain ⟨hb4, q, cap, rfl, hn4⟩ := HD1.out _ _ _ hx
      clear hx HD1
      have hx4 := blk_below hx3 hb4
      have hz4 := blk_below hz3 hb4
      have hm4 := hm3.below hb4
      have hB4 := below2 hB3 hb4
      clear hx3 hz3 hm3 hB3 hb4
      dsimp only
      rename_i hk
      refine hk _ _ ?_
      go_step
      go_step
      go_step
      go_step
      go_step
      go_step
      go_step
      go_step
      go_step
      go_step
      go_step
      go_step
      obtain ⟨X, hX⟩ : ∃ X : Et, X = ⟨e.ix, e.te, e.kd, e.cm, e.mem, q, cap⟩ := ⟨_, rfl⟩
      have hXC : (etC X).length = 24 := rfl
      have hinX : (Tryz.prog.info? 38).map (·.size) = some (etC X).length := by rw [hXC]; kernel_rfl
      rw [← hX]
      have HSX : Hid (sameE e X = true) := by show _ = _; rw [hX]; exact same_room e q cap
      have HXQ : Hid (X.q = q ∧ X.mem = e.mem) := by show _ ∧ _; rw [hX]; exact ⟨rfl, rfl⟩
      clear hX
      obtain ⟨D, hD⟩ : ∃ D, D = w4.heap.size := ⟨_, rfl⟩
      obtain ⟨w5, hw5⟩ : ∃ w5, w5 = (w4.alloc (.cells etZ.toArray 38)).setCells w4.heap.size 0 (etC X).toArray.toList := ⟨_, rfl⟩
      have hb5 : Below w4.heap.size w4 w5 := by rw [hw5]; exact bel_cells (Nat.le_refl _) _ _ ((Below.refl _ _).alloc (Nat.le_refl _) _)
      have hd5 : Blk w5 D 38 (etC X).toArray := by rw [hw5, hD]; exact blk_store (blk_new w4 38 etZ.toArray) rfl
      have hx5 := blk_below hx4 hb5
      have hz5 := blk_below hz4 hb5
      have hm5 := hm4.below hb5
      have hn5 := hn4.below hb5
      have hB5 := below2 hB4 hb5
      have HW : Hid _ := hw5
      have HD : Hid _ := hD
      clear hw5 hb5 hx4 hz4 hm4 hn4 hB4
      refine wpList_store_mid rfl 38 _ _ rfl w4.heap.size 0 (etC X).toArray rfl rfl (blk_there (blk_new w4 _ _) rfl) hinX (by kernel_rfl) ?_
      have hw5 := HW.out
      rw [← HD.out] at hw5 ⊢
      rw [zero_obj] at hw5
      rw [← hw5]
      clear hw5 HW
      clear HD hD
      have happ : (bstr L ++ (⟨#[0]⟩ : ByteArray)) = bstr (L ++ [0]) := append_bstr L [0]
      have hap2 : ∀ W : World, (binOp .add 9 (.string (bstr L)) (.string ⟨#[0]⟩)).run Tryz.prog W = .ok (.string (bstr (L ++ [0]))) W := by
        intro W
        rw [← happ]
        go_simp
        omega
      have HX5 : Hid (Blk w5 w.heap.size 38 (etC e).toArray) := hx5
      have HZ5 : Hid (Blk w5 (w.heap.size + 1) 46 #[.int .i64 er, .bool f, .string (bstr ro), .string (bstr va), .int .u64 (ve : Int)]) := hz5
      have HE5 : Hid (Blk w5 D 38 (etC X).toArray) := hd5
      clear hx5 hz5 hd5 happ
      go_wp2_with fail
      refine (oDecodeE_any (L ++ [0]) w5 (by simp; omega)).mono ?_
      rintro x w6 hx
      obtain ⟨hb6, rfl⟩ := dec_no hx HD2.out
      have hx6 := blk_below HX5.out hb6
      have hz6 := blk_below HZ5.out hb6
      have he6 := blk_below HE5.out hb6
      have hm6 := hm5.below hb6
      have hn6 := hn5.below hb6
      have hB6 := below2 hB5 hb6
      clear hx hap2 HX5 HZ5 HE5 hm5 hn5 hB5 hb6
      dsimp only
      rename_i hk
      refine hk _ _ ?_
      go_step
      go_step
      go_step
      go_step
      go_step
      go_step
      go_step
      go_step
      go_step
      go_step
      go_step
      go_step
      obtain ⟨D2, hD2⟩ : ∃ D2, D2 = w6.heap.size := ⟨_, rfl⟩
      obtain ⟨w7, hw7⟩ : ∃ w7, w7 = (w6.alloc (.cells etZ.toArray 38)).setCells w6.heap.size 0 etZ.toArray.toList := ⟨_, rfl⟩
      have hb7 : Below w6.heap.size w6 w7 := by rw [hw7]; exact bel_cells (Nat.le_refl _) _ _ ((Below.refl _ _).alloc (Nat.le_refl _) _)
      have hx7 := blk_below hx6 hb7
      have hz7 := blk_below hz6 hb7
      have he7 := blk_below he6 hb7
      have hm7 := hm6.below hb7
      have hn7 := hn6.below hb7
      have hB7 := below2 hB6 hb7
      have HW : Hid _ := hw7
      have HDD : Hid _ := hD2
      clear hw7 hb7 hx6 hz6 he6 hm6 hn6 hB6
      refine wpList_store_mid rfl 38 _ _ rfl w6.heap.size 0 etZ.toArray rfl rfl (blk_there (blk_new w6 _ _) rfl) (by kernel_rfl) (by kernel_rfl) ?_
      have hw7 := HW.out
      rw [← HDD.out] at hw7 ⊢
      rw [zero_obj] at hw7
      rw [← hw7]
      clear hw7 HW
      clear HDD hD2
      have HX7 : Hid (Blk w7 w.heap.size 38 (etC e).toArray) := hx7
      have HZ7 : Hid (Blk w7 (w.heap.size + 1) 46 #[.int .i64 er, .bool f, .string (bstr ro), .string (bstr va), .int .u64 (ve : Int)]) := hz7
      have HE7 : Hid (Blk w7 D 38 (etC X).toArray) := he7
      clear hx7 hz7 he7
      have hsl := fun W : World => run_head (P := Tryz.prog) 9 L (L.length - 1) (by omega) W Tryz.underlying9
      have hmm : (L.length : Int) - 1 = ((L.length - 1 : Nat) : Int) := by omega
      have hdl : L.take (L.length - 1) = L.dropLast := List.dropLast_eq_take.symm
      rw [hdl] at hsl
      go_wp2_with fail
      refine (oDecodeE_any L.dropLast w7 (by rw [List.length_dropLast]; omega)).mono ?_
      rintro x w8 hx
      obtain ⟨hb8, rfl⟩ := dec_no hx HD3.out
      have hx8 := blk_below HX7.out hb8
      have hz8 := blk_below HZ7.out hb8
      have he8 := blk_below HE7.out hb8
      have hm8 := hm7.below hb8
      have hn8 := hn7.below hb8
      have hB8 := below2 hB7 hb8
      clear hx hsl hmm hdl HX7 HZ7 HE7 hm7 hn7 hB7 hb8
      dsimp only
      rename_i hk
      refine hk _ _ ?_
      go_step
      go_step
      go_step
      go_step
      go_step
      go_step
      go_step
      go_step
      go_step
      go_step
      go_step
      go_step
      obtain ⟨D3, hD3⟩ : ∃ D3, D3 = w8.heap.size := ⟨_, rfl⟩
      obtain ⟨w9, hw9⟩ : ∃ w9, w9 = (w8.alloc (.cells etZ.toArray 38)).setCells w8.heap.size 0 etZ.toArray.toList := ⟨_, rfl⟩
      have hb9 : Below w8.heap.size w8 w9 := by rw [hw9]; exact bel_cells (Nat.le_refl _) _ _ ((Below.refl _ _).alloc (Nat.le_refl _) _)
      have hx9 := blk_below hx8 hb9
      have hz9 := blk_below hz8 hb9
      have he9 := blk_below he8 hb9
      have hm9 := hm8.below hb9
      have hn9 := hn8.below hb9
      have hB9 := below2 hB8 hb9
      have HW : Hid _ := hw9
      have HDD : Hid _ := hD3
      clear hw9 hb9 hx8 hz8 he8 hm8 hn8 hB8
      refine wpList_store_mid rfl 38 _ _ rfl w8.heap.size 0 etZ.toArray rfl rfl (blk_there (blk_new w8 _ _) rfl) (by kernel_rfl) (by kernel_rfl) ?_
      have hw9 := HW.out
      rw [← HDD.out] at hw9 ⊢
      rw [zero_obj] at hw9
      rw [← hw9]
      clear hw9 HW
      clear HDD hD3
      go_upto_region 8 with fail
      have rm : w9.rangeAt w.heap.size 0 (etC e) := range_of_block hx9 [] _ [] (by simp)
      have rd : w9.rangeAt D 0 (etC X) := range_of_block he9 [] _ [] (by simp)
      have HZ9 : Hid (Blk w9 (w.heap.size + 1) 46 #[.int .i64 er, .bool f, .string (bstr ro), .string (bstr va), .int .u64 (ve : Int)]) := hz9
      have hnX : IArg w9 X.q X.mem := by rw [HXQ.out.1, HXQ.out.2]; exact hn9.arg
      have hSm := oSm_any e X w9 hm9 hnX hl
      rw [HSX.out] at hSm
      clear hx9 hz9 he9 hm9 hn9 hnX
      go_wp2_with (first | refine wpList_load_w (by kernel_rfl) 38 _ rfl w.heap.size 0 rfl (etC e) _ rm Tryz.underlying38 rfl hin ?_ | refine wpList_load_w (by kernel_rfl) 38 _ rfl D 0 rfl (etC X) _ rd Tryz.underlying38 rfl hinX ?_ | fail)
      refine hSm.mono ?_
      rintro x w10 ⟨rfl, hb10⟩
      have HZA : Hid _ := blk_below HZ9.out hb10
      have hB10 := below2 hB9 hb10
      clear rm rd hSm HZ9 hB9 hb10
      go_wp2
      go_meet
      case rel => exact ⟨HZA, hB10⟩
    · subst h3
      have HZ : Hid _ := hz3
      clear HLE hz3
      go_wp2
      go_meet
      case rel => exact ⟨HZ, hB3⟩
  case rest =>
    obtain ⟨HZ, hBc⟩ := hcut
    have K1 := jEncodeR_any ⟨er, f, ro, va, ve⟩ wc
    obtain ⟨T, hT⟩ : ∃ T, T = (if okR ⟨er, f, ro, va, ve⟩ = true then layR ⟨er, f, ro, va, ve⟩ else []) := ⟨_, rfl⟩
    obtain ⟨G, hG⟩ : ∃ G : Int, G = (if okR ⟨er, f, ro, va, ve⟩ = true then 0 else 2) := ⟨_, rfl⟩
    rw [← hT, ← hG] at K1
    have HTG : Hid (okR ⟨er, f, ro, va, ve⟩ = true ∧ T = layR ⟨er, f, ro, va, ve⟩ ∧ G = 0 ∨ T = [] ∧ G = 2) := by
      cases hk : okR ⟨er, f, ro, va, ve⟩ with
      | true => rw [hk] at hT hG; exact .inl ⟨rfl, hT, hG⟩
      | false => rw [hk] at hT hG; exact .inr ⟨hT, hG⟩
    clear hT hG HLE
    have hz := (mcells HZ.out).1
    have z0 : wc.cell? ⟨w.heap.size + 1, 0, none⟩ = some (.int .i64 er) := hz 0
    have z1 : wc.cell? ⟨w.heap.size + 1, 1, none⟩ = some (.bool f) := hz 1
    have z2 : wc.cell? ⟨w.heap.size + 1, 2, none⟩ = some (.string (bstr ro)) := hz 2
    have z3 : wc.cell? ⟨w.heap.size + 1, 3, none⟩ = some (.string (bstr va)) := hz 3
    have z4 : wc.cell? ⟨w.heap.size + 1, 4, none⟩ = some (.int .u64 (ve : Int)) := hz 4
    clear hz
    go_wp2_with fail
    refine K1.mono ?_
    rintro x v1 ⟨rfl, hb1⟩
    have HZ1 : Hid _ := blk_below HZ.out hb1
    have hB1 := below2 hBc hb1
    clear K1 z0 z1 z2 z3 z4 HZ hBc hb1
    rcases HTG.out with ⟨h1, h2, h3⟩ | ⟨h2, h3⟩
    · subst h3
      obtain ⟨q1, q2, q3⟩ := dec_lay h1 []
      have q4 : decO (layR ⟨er, f, ro, va, ve⟩) = true := by
        have := decO_lay h1 []
        simpa using this
      rw [List.append_nil] at q3
      have q5 := decO_more h1 0
      have q6 := decO_cut h1
      have q7 := layR_len h1
      have q8 := okR_iff.1 h1
      have hlen : T.length ≤ 100000 ∧ 0 < T.length := by
        rw [h2]
        simp only at q7 q8
        omega
      have hlen1 := hlen.1
      have hlen2 := hlen.2
      have J1 := fun w => jDecodeR_any T w (by omega)
      have J2 := fun w => jDecodeR_any (T ++ [0]) w (by simp; omega)
      have J3 := fun w => jDecodeR_any T.dropLast w (by rw [List.length_dropLast]; omega)
      rw [← h2] at q3 q4 q5 q6
      have e1 : rzV ⟨er, f, ro, va, ve⟩ = .agg #[.int .i64 er, .bool f, .string (bstr ro), .string (bstr va), .int .u64 (ve : Int)] := rfl
      have e0 : rzV rz0 = .agg #[.int .i64 0, .bool false, .string (bstr []), .string (bstr []), .int .u64 0] := rfl
      rw [q4, q3, if_pos rfl, if_pos rfl, e1] at J1
      rw [q5, if_neg (by simp), if_neg (by simp), e0] at J2
      rw [q6, if_neg (by simp), if_neg (by simp), e0] at J3
      clear q1 q2 q3 q4 q5 q6 q7 q8 hlen h2 HTG
      have HJ1 : Hid _ := J1
      have HJ2 : Hid _ := J2
      have HJ3 : Hid _ := J3
      clear J1 J2 J3
      go_wp2_with fail
      refine (HJ1.out v1).mono ?_
      rintro x v2 ⟨rfl, hb2⟩
      have HZ2 : Hid _ := blk_below HZ1.out hb2
      have hB2 := below2 hB1 hb2
      obtain ⟨Y, hY⟩ : ∃ Y, Y = v2.heap.size := ⟨_, rfl⟩
      obtain ⟨v3, hv3⟩ : ∃ v3, v3 = v2.alloc (.cells #[.int .i64 er, .bool f, .string (bstr ro), .string (bstr va), .int .u64 (ve : Int)] 46) := ⟨_, rfl⟩
      have hb3 : Below v2.heap.size v2 v3 := by rw [hv3]; exact (Below.refl _ _).alloc (Nat.le_refl _) _
      have HY3 : Hid (Blk v3 Y 46 #[.int .i64 er, .bool f, .string (bstr ro), .string (bstr va), .int .u64 (ve : Int)]) := by show Blk _ _ _ _; rw [hv3, hY]; exact blk_new v2 _ _
      have HZ3 : Hid _ := blk_below HZ2.out hb3
      have hB3' := below2 hB2 hb3
      have HW : Hid _ := hv3
      have HYE : Hid _ := hY
      clear hv3 hb3 hb2 hB1 hB2 HZ1 HZ2 hY
      go_upto_region 14 with fail
      have hv3 := HW.out
      rw [← HYE.out]
      rw [← hv3]
      clear hv3 HW HYE
      have happ : (bstr T ++ (⟨#[0]⟩ : ByteArray)) = bstr (T ++ [0]) := append_bstr T [0]
      have hap2 : ∀ W : World, (binOp .add 9 (.string (bstr T)) (.string ⟨#[0]⟩)).run Tryz.prog W = .ok (.string (bstr (T ++ [0]))) W := by
        intro W
        rw [← happ]
        go_simp
        omega
      clear happ
      go_wp2_with fail
      refine (HJ2.out v3).mono ?_
      rintro x v4 ⟨rfl, hb4⟩
      have HY4 : Hid _ := blk_below HY3.out hb4
      have HZ4 : Hid _ := blk_below HZ3.out hb4
      have hB4 := below2 hB3' hb4
      obtain ⟨v5, hv5⟩ : ∃ v5, v5 = v4.alloc (.cells #[.int .i64 0, .bool false, .string (bstr []), .string (bstr []), .int .u64 0] 46) := ⟨_, rfl⟩
      have hb5 : Below v4.heap.size v4 v5 := by rw [hv5]; exact (Below.refl _ _).alloc (Nat.le_refl _) _
      have HY5 : Hid _ := blk_below HY4.out hb5
      have HZ5 : Hid _ := blk_below HZ4.out hb5
      have hB5 := below2 hB4 hb5
      have HW : Hid _ := hv5
      clear hv5 hb5 hb4 hB3' hB4 HY3 HZ3 HY4 HZ4 hap2
      go_upto_region 15 with fail
      have hv5 := HW.out
      rw [← hv5]
      clear hv5 HW
      have hsl := fun W : World => run_head (P := Tryz.prog) 9 T (T.length - 1) (by omega) W Tryz.underlying9
      have hmm : (T.length : Int) - 1 = ((T.length - 1 : Nat) : Int) := by omega
      have hdl : T.take (T.length - 1) = T.dropLast := List.dropLast_eq_take.symm
      rw [hdl] at hsl
      go_wp2_with fail
      refine (HJ3.out v5).mono ?_
      rintro x v6 ⟨rfl, hb6⟩
      have HY6 : Hid _ := blk_below HY5.out hb6
      have HZ6 : Hid _ := blk_below HZ5.out hb6
      have hB6 := below2 hB5 hb6
      obtain ⟨v7, hv7⟩ : ∃ v7, v7 = v6.alloc (.cells #[.int .i64 0, .bool false, .string (bstr []), .string (bstr []), .int .u64 0] 46) := ⟨_, rfl⟩
      have hb7 : Below v6.heap.size v6 v7 := by rw [hv7]; exact (Below.refl _ _).alloc (Nat.le_refl _) _
      have HY7 : Hid _ := blk_below HY6.out hb7
      have HZ7 : Hid _ := blk_below HZ6.out hb7
      have hB7 := below2 hB6 hb7
      have HW : Hid _ := hv7
      clear hv7 hb7 hb6 hB5 hB6 HY5 HZ5 HY6 HZ6 hsl hmm hdl
      go_upto_region 16 with fail
      have hv7 := HW.out
      rw [← hv7]
      clear hv7 HW
      have hy := (mcells HY7.out).1
      have y0 : v7.cell? ⟨Y, 0, none⟩ = some (.int .i64 er) := hy 0
      have y1 : v7.cell? ⟨Y, 1, none⟩ = some (.bool f) := hy 1
      have y2 : v7.cell? ⟨Y, 2, none⟩ = some (.string (bstr ro)) := hy 2
      have y3 : v7.cell? ⟨Y, 3, none⟩ = some (.string (bstr va)) := hy 3
      have y4 : v7.cell? ⟨Y, 4, none⟩ = some (.int .u64 (ve : Int)) := hy 4
      have hz := (mcells HZ7.out).1
      have z0 : v7.cell? ⟨w.heap.size + 1, 0, none⟩ = some (.int .i64 er) := hz 0
      have z1 : v7.cell? ⟨w.heap.size + 1, 1, none⟩ = some (.bool f) := hz 1
      have z2 : v7.cell? ⟨w.heap.size + 1, 2, none⟩ = some (.string (bstr ro)) := hz 2
      have z3 : v7.cell? ⟨w.heap.size + 1, 3, none⟩ = some (.string (bstr va)) := hz 3
      have z4 : v7.cell? ⟨w.heap.size + 1, 4, none⟩ = some (.int .u64 (ve : Int)) := hz 4
      have hq := fun W => rz_eql er f ro va ve er f ro va ve W
      have hge := rz_guard
      rw [eqR_iff.2 rfl] at hq
      clear hy hz HY7 HZ7 HJ1 HJ2 HJ3
      go_wp2
      go_ret
      exact ⟨rfl, hB7⟩
    · subst h2
      subst h3
      clear HTG
      go_wp2
      go_ret
      exact ⟨rfl, hB1⟩

end Go.Proofs.YtbdbefgfejdbjaaGreat
