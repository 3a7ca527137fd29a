/-
  bloom.Make where it refuses; the law's own works.
-/
import Derived.Test.YtiingodillcleaaBMk
namespace Go.Proofs.Ytiingodillcleaa
open Go.RowKit
attribute [local go_sem] size_bstr getElem_bstr toList_bstr

set_option maxHeartbeats 1000000 in
theorem Make_arg (q : Option Addr) (n cap : Nat) (b : Int) (w : World) (hb : b < 1 ∨ 32 < b) :
    Calls Try.prog 9 #[.slice q n cap, .int .i64 b] w fun e w' => e = .returned (.tuple #[.string (bstr []), .int .i64 2]) ∧ w' = w := by
  by_cases h : b < 1
  · go_enter Try.func9, Try.ntmps9
    go_wp2
    go_ret2
    exact ⟨rfl, rfl⟩
  · have h2 : 32 < b := by omega
    go_enter Try.func9, Try.ntmps9
    go_wp2
    go_ret2
    exact ⟨rfl, rfl⟩
set_option maxHeartbeats 1000000 in
theorem Make_long (q : Option Addr) (n cap : Nat) (b : Int) (w : World) (h1 : 1 ≤ b) (h2 : b ≤ 32) (hn : 32768 < n) :
    Calls Try.prog 9 #[.slice q n cap, .int .i64 b] w fun e w' => e = .returned (.tuple #[.string (bstr []), .int .i64 3]) ∧ w' = w := by
  have g1 : ¬ b < 1 := by omega
  have g2 : ¬ 32 < b := by omega
  have g3 : (32768 : Int) < (n : Int) := by omega
  go_enter Try.func9, Try.ntmps9
  go_wp2
  go_ret2
  exact ⟨rfl, rfl⟩

theorem mk_none : mkF [] 10 = [6, 0, 0, 0, 0, 0, 0, 0, 0] := by decide +kernel
theorem mk_none_a : hasF [6, 0, 0, 0, 0, 0, 0, 0, 0] [97] = false := by decide +kernel
theorem Make_nil (b : Nat) (w : World) (hb1 : 1 ≤ b) (hb : b ≤ 32) :
    Calls Try.prog 9 #[.slice none 0 0, .int .i64 (b : Int)] w fun e w' => e = .returned (.tuple #[.string (bstr (mkF [] b)), .int .i64 0]) ∧ Below w.heap.size w w' :=
  Make_ok none 0 0 0 [] b w (fun h => absurd h (by simp)) hb1 hb (by simp) (fun s h => by cases h)

set_option maxHeartbeats 2000000 in
set_option maxRecDepth 100000 in
theorem works9_any (w : World) :
    Calls Try.prog 11 #[] w fun e w' => e = .returned (.bool true) ∧ Below w.heap.size w w' := by
  have hm1 := Make_nil 10 w (by decide) (by decide)
  rw [mk_none] at hm1
  go_enter Try.func11, Try.ntmps11
  go_wp2_with fail
  refine hm1.mono ?_
  rintro e w1 ⟨rfl, hb1⟩
  clear hm1
  go_wp2_with fail
  have hB2 : (w1.alloc (.cells #[.string (bstr [97]), .string (bstr [98])] 9)).heap[w1.heap.size]? = some (.cells #[.string (bstr [97]), .string (bstr [98])] 9 (0, 0)) := heap_alloc_new _ _
  have hb2 : Below w1.heap.size w1 (w1.alloc (.cells #[.string (bstr [97]), .string (bstr [98])] 9)) := (Below.refl _ _).alloc (Nat.le_refl _) _
  have hsz : w1.heap.size < (w1.alloc (.cells #[.string (bstr [97]), .string (bstr [98])] 9)).heap.size := by simp
  obtain ⟨w2, hw2⟩ : ∃ w2, w2 = w1.alloc (.cells #[.string (bstr [97]), .string (bstr [98])] 9) := ⟨_, rfl⟩
  have ew2 : w1.alloc (.cells #[.string ⟨#[97]⟩, .string ⟨#[98]⟩] 9) = w2 := by rw [hw2]; rfl
  rw [ew2]
  rw [← hw2] at hB2 hb2 hsz
  have hsa : SArg w2 (some ⟨w1.heap.size, 0, none⟩) w1.heap.size 0 [[97], [98]] := fun _ => ⟨rfl, fun j hj => by
    rw [(cells_block hB2).1]
    match j, hj with
    | 0, _ => rfl
    | 1, _ => rfl, hsz⟩
  have hm2 := Make_ok (some ⟨w1.heap.size, 0, none⟩) w1.heap.size 0 2 [[97], [98]] 10 w2 hsa (by decide) (by decide) (by decide) (fun s hs => by simp at hs; rcases hs with rfl | rfl <;> decide)
  have hl9 : (mkF [[97], [98]] 10).length = 9 := by rw [mkF_length]; rfl
  have hha : hasF (mkF [[97], [98]] 10) [97] = true := hasF_mk (by simp)
  have hhb : hasF (mkF [[97], [98]] 10) [98] = true := hasF_mk (by simp)
  generalize mkF [[97], [98]] 10 = FF at *
  refine hm2.mono ?_
  rintro e w3 ⟨rfl, hb3⟩
  have hbe3 := below2 (below2 hb1 hb2) hb3
  clear hm2 hsa hB2 hsz ew2 hw2 hb1 hb2 hb3
  have hl9i : (FF.length : Int) = 9 := by omega
  have h1 := Has_any FF [97] w3 (by omega) (by decide)
  rw [hha] at h1
  have hsta : (bstr [6, 0, 0, 0, 0, 0, 0, 0, 0]) = ⟨#[6, 0, 0, 0, 0, 0, 0, 0, 0]⟩ := rfl
  have HL9 : Hid _ := hl9
  clear hl9
  go_wp2_with fail
  refine h1.mono ?_
  rintro e w4 ⟨rfl, hb4⟩
  have hbe4 := below2 hbe3 hb4
  have h2 := Has_any FF [98] w4 (by have := HL9.out; omega) (by decide)
  rw [hhb] at h2
  clear h1 hb4 hbe3
  go_wp2_with fail
  refine h2.mono ?_
  rintro e w5 ⟨rfl, hb5⟩
  have hbe5 := below2 hbe4 hb5
  have h3 := Has_any [6, 0, 0, 0, 0, 0, 0, 0, 0] [97] w5 (by decide) (by decide)
  rw [mk_none_a] at h3
  clear h2 hb5 hbe4
  go_wp2_with fail
  refine h3.mono ?_
  rintro e w6 ⟨rfl, hb6⟩
  have hbe6 := below2 hbe5 hb6
  go_wp2
  go_ret
  exact ⟨rfl, hbe6⟩

end Go.Proofs.Ytiingodillcleaa
