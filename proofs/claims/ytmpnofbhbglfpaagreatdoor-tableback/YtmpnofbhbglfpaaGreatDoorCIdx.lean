/-
  The closures by which the indices of a list of cells are put in order.
-/
import Derived.Test.YtmpnofbhbglfpaaGreatDoorGCRow
import Derived.BigQuiet
import Derived.Deep.RegionHeld3
import Derived.Shelf.SlSortCmp.QuietGrown
namespace Go.Proofs.YtmpnofbhbglfpaaGreatDoor
open Go.RowKit Go.BigFrame Go.Sort
attribute [local go_sem] size_bstr toList_bstr ls_def

set_option maxHeartbeats 2000000 in
set_option maxRecDepth 100000 in
theorem first1_any (nl b off cap : Nat) (cs : List Cl) (x y : Nat) (hx : x < cs.length) (hy : y < cs.length) (W : World) (hl : W.cell? ⟨nl, 0, none⟩ = some (.slice (some ⟨b, off, none⟩) cs.length cap)) (hR : CRow W b off cs) :
    Calls Tryz.prog 87 #[.int .i64 x, .int .i64 y, .pointer (some ⟨nl, 0, none⟩)] W fun e w' => e = .returned (.int .i64 (ccl cs[x] cs[y])) ∧ ∃ q os', w' = grow (W.drewN q) os' := by
  obtain ⟨a0, a1, a2, a3, a4⟩ := hR x hx
  obtain ⟨b0, b1, b2, b3, b4⟩ := hR y hy
  have hx0 : (x : Int) < (cs.length : Int) := by omega
  have hy0 : (y : Int) < (cs.length : Int) := by omega
  have hcon := Cmp_grow cs[x] cs[y]
  generalize cs[x] = p at *
  generalize cs[y] = q at *
  obtain ⟨r, c, v, g, z⟩ := p
  obtain ⟨r', c', v', g', z'⟩ := q
  simp only at a0 a1 a2 a3 a4 b0 b1 b2 b3 b4
  have mixed : Tryz.prog.follows .mixedOrders = true := by kernel_rfl
  have hbl : b < W.heap.size := block_lt_of_cell a0
  have hnl : nl < W.heap.size := block_lt_of_cell hl
  have kl := fun n os => cell_grown (a := ⟨nl, 0, none⟩) hnl hl n os
  have ka0 := fun n os => cell_grown (a := ⟨b, off + x * 5, none⟩) hbl a0 n os
  have ka1 := fun n os => cell_grown (a := ⟨b, off + x * 5 + 1, none⟩) hbl a1 n os
  have ka2 := fun n os => cell_grown (a := ⟨b, off + x * 5 + 2, none⟩) hbl a2 n os
  have ka3 := fun n os => cell_grown (a := ⟨b, off + x * 5 + 3, none⟩) hbl a3 n os
  have ka4 := fun n os => cell_grown (a := ⟨b, off + x * 5 + 4, none⟩) hbl a4 n os
  have kb0 := fun n os => cell_grown (a := ⟨b, off + y * 5, none⟩) hbl b0 n os
  have kb1 := fun n os => cell_grown (a := ⟨b, off + y * 5 + 1, none⟩) hbl b1 n os
  have kb2 := fun n os => cell_grown (a := ⟨b, off + y * 5 + 2, none⟩) hbl b2 n os
  have kb3 := fun n os => cell_grown (a := ⟨b, off + y * 5 + 3, none⟩) hbl b3 n os
  have kb4 := fun n os => cell_grown (a := ⟨b, off + y * 5 + 4, none⟩) hbl b4 n os
  clear a0 a1 a2 a3 a4 b0 b1 b2 b3 b4 hl hR
  generalize hcv : ccl _ _ = cv at hcon ⊢
  clear hcv
  go_enter Tryz.func87, Tryz.ntmps87
  go_wp2_with fail
  go_quiet_grown (first | (go_at_call 48; exact Calls.grown_of (hcon _)))
  go_wp2
  go_ret
  exact ⟨rfl, _, _, rfl⟩

set_option maxHeartbeats 1000000 in
theorem isNaNI_any (x : Int) (w : World) : Calls Tryz.prog 128 #[.int .i64 x] w fun e w' => e = .returned (.bool false) ∧ w' = w := by
  go_enter Tryz.func128, Tryz.ntmps128
  go_wp2
  go_ret
  exact ⟨by simp, rfl⟩

set_option maxHeartbeats 1000000 in
theorem CompareI_any (x y : Int) (w : World) : Calls Tryz.prog 89 #[.int .i64 x, .int .i64 y] w fun e w' => e = .returned (.int .i64 (Lib.compareInt x y)) ∧ w' = w := by
  go_enter Tryz.func89, Tryz.ntmps89
  go_wp2_with (go_at_call 128; refine (isNaNI_any _ _).mono ?_; rintro e w' ⟨rfl, hw⟩; rw [hw])
  all_goals (go_ret; refine ⟨?_, rfl⟩; unfold Lib.compareInt; (repeat' split) <;> first | rfl | (exfalso; omega))

set_option maxHeartbeats 1000000 in
theorem first2_any (x y : Int) (w : World) : Calls Tryz.prog 88 #[.int .i64 x, .int .i64 y] w fun e w' => e = .returned (.int .i64 (Lib.compareInt x y)) ∧ w' = w := by
  go_enter Tryz.func88, Tryz.ntmps88
  go_wp2_with (go_at_call 89; refine (CompareI_any _ _ _).mono ?_; rintro e w' ⟨rfl, hw⟩; rw [hw])
  go_ret
  exact ⟨rfl, rfl⟩

/-- Which of two indices is ahead. -/
def ci (cs : List Cl) (x y : Nat) (hx : x < cs.length) (hy : y < cs.length) : Int := if ccl cs[x] cs[y] = 0 then Lib.compareInt x y else ccl cs[x] cs[y]

set_option maxHeartbeats 2000000 in
set_option maxRecDepth 100000 in
theorem cmpI_any (nb nf nl b off cap : Nat) (cs : List Cl) (x y : Nat) (hx : x < cs.length) (hy : y < cs.length) (W : World) (hby : W.cell? ⟨nb, 0, none⟩ = some (.slice (some ⟨nf, 0, none⟩) 2 2))
    (h0 : W.cell? ⟨nf, 0, none⟩ = some (.func (.func 87) #[] #[.pointer (some ⟨nl, 0, none⟩)])) (h1 : W.cell? ⟨nf, 1, none⟩ = some (.func (.func 88) #[] #[]))
    (hl : W.cell? ⟨nl, 0, none⟩ = some (.slice (some ⟨b, off, none⟩) cs.length cap)) (hR : CRow W b off cs) :
    Calls Tryz.prog 127 #[.int .i64 x, .int .i64 y, .pointer (some ⟨nb, 0, none⟩)] W fun e w' => e = .returned (.int .i64 (ci cs x y hx hy)) ∧ ∃ q os', w' = grow (W.drewN q) os' := by
  have hcon := first1_any nl b off cap cs x y hx hy W hl hR
  unfold ci
  generalize hcv : ccl cs[x] cs[y] = cv at *
  have hb1 : nf < W.heap.size := block_lt_of_cell h0
  have kb1 := fun n os => cell_grown (a := ⟨nf, 1, none⟩) hb1 h1 n os
  clear hcv hl hR
  generalize hcx : (if cv = 0 then Lib.compareInt (x : Int) (y : Int) else cv) = cx
  have HX : Hid _ := hcx
  clear hcx
  go_enter Tryz.func127, Tryz.ntmps127
  go_wp2_with fail
  go_loopw [11] (fun s11 wr => ∃ i : Nat, s11 = .int .i64 (i : Int) ∧ (i = 0 ∧ wr = W ∨ i = 1 ∧ cv = 0 ∧ (∃ q os, wr = grow (W.drewN q) os) ∨ i = 2 ∧ cv = 0 ∧ Lib.compareInt x y = 0 ∧ (∃ q os, wr = grow (W.drewN q) os))) (fun s11 _ => 2 - (intOf s11).toNat)
  case atStart => exact ⟨0, rfl, Or.inl ⟨rfl, rfl⟩⟩
  case round =>
    obtain ⟨i, rfl, h⟩ := hrel
    rcases h with ⟨rfl, rfl⟩ | ⟨rfl, rfl, q, os, rfl⟩ | ⟨rfl, rfl, hd, q, os, rfl⟩
    · go_wp2_with fail
      refine hcon.mono ?_
      clear hcon
      rintro e w1 ⟨rfl, q, os, rfl⟩
      have HG : Hid (∃ q' os', grow (wr.drewN q) os = grow (wr.drewN q') os') := ⟨q, os, rfl⟩
      generalize grow (wr.drewN q) os = W1 at *
      by_cases hz : cv = 0
      · subst hz
        go_wp2
        go_roundw
        case rel => exact ⟨1, by go_num, Or.inr (Or.inl ⟨by simp, by simp, HG.out⟩)⟩
        case measure => simp [intOf]
      · have hd' : (cv == 0) = false := by simpa using hz
        go_wp2
        go_ret
        exact ⟨by rw [← HX.out, if_neg hz]; rfl, HG.out⟩
    · replace kb1 := kb1 q os
      have HG : Hid (∃ q' os', grow (W.drewN q) os = grow (W.drewN q') os') := ⟨q, os, rfl⟩
      generalize grow (W.drewN q) os = W1 at *
      have hx2 : Lib.compareInt (x : Int) (y : Int) = cx := by have := HX.out; simpa using this
      have h2 := first2_any (x : Int) (y : Int) W1
      rw [hx2] at h2
      have HX2 : Hid _ := hx2
      clear HX hx2
      go_wp2_with fail
      refine h2.mono ?_
      clear h2
      rintro e w2 ⟨rfl, rfl⟩
      by_cases hd : cx = 0
      · have HX3 : Hid _ := HX2.out.trans hd
        subst hd
        go_wp2
        go_roundw
        case rel => exact ⟨2, by go_num, Or.inr (Or.inr ⟨by simp, by simp, HX3.out, HG.out⟩)⟩
        case measure => simp [intOf]
      · have hd' : (cx == 0) = false := by simpa using hd
        go_wp2
        go_ret
        exact ⟨rfl, HG.out⟩
    · go_wp2
      go_ret
      exact ⟨by rw [← HX.out, hd]; simp, _, _, rfl⟩

end Go.Proofs.YtmpnofbhbglfpaaGreatDoor
