/-
  The document's Look (acreageref17).
-/
import Derived.Test.YtmgibkglbddlpaaDoorJRd17
namespace Go.Proofs.YtmgibkglbddlpaaDoor
open Go.RowKit Go.BigFrame
attribute [local go_sem] size_bstr toList_bstr

theorem lk_of {c : List UInt8} {q k : Nat} (h : lkK c q = k) : Ending.returned (.tuple #[rzV (lkR c q), .bool (lkA c q), .int .i64 (lkE c q)]) = .returned (.tuple #[rzV (if k = 2 then rdR c else rz0), .bool (decide (k = 2)), .int .i64 (if k = 0 then 2 else if k = 1 then 4 else if k = 3 then 12 else 0)]) := by
  unfold lkR lkA lkE
  rw [h]

set_option maxHeartbeats 8000000 in
set_option maxRecDepth 100000 in
theorem rLook_any (c : List UInt8) (q : Nat) (w : World) (hl : c.length ≤ 65536) :
    Calls Tryd.prog 6 #[.string (bstr c), .int .u64 (q : Int)] w fun e w' => e = .returned (.tuple #[rzV (lkR c q), .bool (lkA c q), .int .i64 (lkE c q)]) ∧ Below w.heap.size w w' := by
  obtain ⟨w1, hw1⟩ : ∃ w1, w1 = w.alloc (.cells #[.int .i64 0, .bool false, .string ⟨#[]⟩, .string ⟨#[]⟩, .int .u64 0] 25) := ⟨_, rfl⟩
  have hz1 : RzB w1 w.heap.size rz0 := by rw [hw1]; exact RzB.new w
  have hB1 : Below w.heap.size w w1 := by rw [hw1]; exact bel_alloc (Below.refl _ _)
  have HW : Hid _ := hw1
  obtain ⟨sq, hsq⟩ : ∃ sq, sq = decide (1 ≤ q ∧ q ≤ 1099511627776) := ⟨_, rfl⟩
  have HS : Hid _ := hsq
  obtain ⟨z0, z1, z2, z3, z4⟩ := hz1.facts
  simp only at z0 z1 z2 z3 z4
  have fz := hz1.frz
  clear hw1 hsq
  go_enter Tryd.func6, Tryd.ntmps6
  go_upto_region 1 with fail
  rw [← HW.out]
  clear HW
  go_wp2_with fail
  refine (rMay_any q w1).mono ?_
  rintro e w2 ⟨rfl, rfl⟩
  rw [← HS.out]
  cases sq with
  | false =>
    have hk : lkK c q = 0 := if_neg (of_decide_eq_false HS.out.symm)
    have E2 : Hid _ := lk_of hk
    clear hk
    go_wp2
    exact ret_rz3 (x := .bool false) (y := .int .i64 2) rfl rfl rfl rfl (hz1.set rz0) rfl ⟨E2.out.symm, bel_set5 hB1⟩
  | true =>
    have hs1 := of_decide_eq_true HS.out.symm
    by_cases hc : c = []
    · subst hc
      have hk : lkK [] q = 4 := by unfold lkK; rw [if_pos hs1, rdE_nil, rdN_nil, if_pos rfl, if_neg (by omega), if_neg (by omega)]
      have E2 : Hid _ := lk_of hk
      clear hk hs1
      go_wp2
      exact ret_rz3 (x := .bool false) (y := .int .i64 0) rfl rfl rfl rfl (hz1.set rz0) rfl ⟨E2.out.symm, bel_set5 hB1⟩
    · have he : c.isEmpty = false := by cases c <;> simp at hc ⊢
      have HC : Hid (c ≠ []) := hc
      have HS1 : Hid _ := hs1
      clear hc hs1
      go_wp2_with fail
      refine (rRead_any c w2 hl).mono ?_
      rintro e w3 ⟨n, r, rfl, hr, hb3⟩
      have hz3 := hz1.below hb3 hz1.lt
      have hB3 := bel_call hb3 hB1
      clear hz1 hB1 hb3 z0 z1 z2 z3 z4 fz
      obtain ⟨de, df, dr, dv, dn⟩ := r
      have HRR : Hid _ := hr
      clear hr
      obtain ⟨X, hX⟩ : ∃ X, X = w3.heap.size := ⟨_, rfl⟩
      obtain ⟨w4, hw4⟩ : ∃ w4, w4 = w3.alloc (.cells #[.int .i64 de, .bool df, .string (bstr dr), .string (bstr dv), .int .u64 (dn : Int)] 25) := ⟨_, rfl⟩
      have hb4 : Below w3.heap.size w3 w4 := by rw [hw4]; exact bel_alloc (Below.refl _ _)
      have hx4 : RzB w4 X ⟨de, df, dr, dv, dn⟩ := by rw [hw4, hX]; exact heap_alloc_new w3 _
      have hz4 := hz3.below hb4 hz3.lt
      have hB4 := bel_call hb4 hB3
      have HW : Hid _ := hw4
      have HN : Hid _ := hX
      clear hw4 hb4 hz3 hB3
      obtain ⟨k, hk⟩ : ∃ k, k = rdOk c := ⟨_, rfl⟩
      have HK : Hid _ := hk
      rw [← hk]
      clear hk
      go_upto_region 6 with fail
      rw [← HN.out]
      have HW2 := HW.out
      rw [← HW2]
      clear HW2 HW HN hX
      obtain ⟨x0, x1, x2, x3, x4⟩ := hx4.facts
      obtain ⟨z0, z1, z2, z3, z4⟩ := hz4.facts
      simp only at x0 x1 x2 x3 x4 z0 z1 z2 z3 z4
      have fz := hz4.frz
      cases k with
      | false =>
        have hE : rdE c = 4 := by unfold rdE; rw [if_neg HC.out, ← HK.out]; rfl
        have hk : lkK c q = 1 := by unfold lkK; rw [if_pos HS1.out, if_neg (by rw [hE]; decide)]
        have E2 : Hid _ := lk_of hk
        clear hk hE
        go_wp2
        exact ret_rz3 (x := .bool false) (y := .int .i64 4) rfl rfl rfl rfl (hz4.set rz0) rfl ⟨E2.out.symm, bel_set5 hB4⟩
      | true =>
        obtain ⟨hn, hr⟩ := HRR.out HK.out.symm
        have hE : rdE c = 0 := by unfold rdE; rw [if_neg HC.out, ← HK.out]; rfl
        have hN : rdN c = n := by unfold rdN; rw [← HK.out, if_pos rfl, hn]
        have hR : rdR c = ⟨de, df, dr, dv, dn⟩ := by unfold rdR; rw [← HK.out, if_pos rfl, hr]
        rcases (show n < q ∨ q < n ∨ q = n by omega) with h | h | h
        · have hk : lkK c q = 4 := by unfold lkK; rw [if_pos HS1.out, if_pos hE, hN, if_neg (by omega), if_neg (by omega)]
          have E2 : Hid _ := lk_of hk
          have hi : (n : Int) < (q : Int) := by omega
          clear hk hE hN hR hn hr
          go_wp2
          exact ret_rz3 (x := .bool false) (y := .int .i64 0) rfl rfl rfl rfl (hz4.set rz0) rfl ⟨E2.out.symm, bel_set5 hB4⟩
        · have hk : lkK c q = 3 := by unfold lkK; rw [if_pos HS1.out, if_pos hE, hN, if_neg (by omega), if_pos h]
          have E2 : Hid _ := lk_of hk
          have hi : (q : Int) < (n : Int) := by omega
          clear hk hE hN hR hn hr
          go_wp2
          exact ret_rz3 (x := .bool false) (y := .int .i64 12) rfl rfl rfl rfl (hz4.set rz0) rfl ⟨E2.out.symm, bel_set5 hB4⟩
        · have hk : lkK c q = 2 := by unfold lkK; rw [if_pos HS1.out, if_pos hE, hN, if_pos h]
          have e2 := lk_of hk
          rw [hR] at e2
          have E2 : Hid _ := e2
          clear hk hE hN hR hn hr e2
          subst h
          go_wp2
          exact ret_rz3 (x := .bool true) (y := .int .i64 0) rfl rfl rfl rfl (hz4.set ⟨de, df, dr, dv, dn⟩) rfl ⟨E2.out.symm, bel_set5 hB4⟩

end Go.Proofs.YtmgibkglbddlpaaDoor
