/-
  The document's Put; the law SessionPuts.
-/
import Derived.Test.YtmgibkglbddlpaaJRf2
import Derived.Test.YtmgibkglbddlpaaJWks
namespace Go.Proofs.Ytmgibkglbddlpaa
open Go.RowKit Go.BigFrame
attribute [local go_sem] size_bstr toList_bstr append_bstr

theorem rMay_any (n : Nat) (w : World) :
    Calls Try.prog 14 #[.int .u64 (n : Int)] w fun x w' => x = .returned (.bool (decide (1 ≤ n ∧ n ≤ 1099511627776))) ∧ w' = w := by
  go_enter Try.func14, Try.ntmps14
  by_cases h0 : 1 ≤ n
  · by_cases h1 : n ≤ 1099511627776
    · have g0 : (1 : Int) ≤ (n : Int) := by omega
      have g1 : (n : Int) ≤ 1099511627776 := by omega
      rw [decide_eq_true ⟨h0, h1⟩]
      clear h0 h1
      go_wp2
      go_ret
      exact ⟨rfl, rfl⟩
    · have g0 : (1 : Int) ≤ (n : Int) := by omega
      have g1 : (1099511627776 : Int) < (n : Int) := by omega
      rw [decide_eq_false (fun h => h1 h.2)]
      clear h0 h1
      go_wp2
      go_ret
      exact ⟨congrArg (fun b => Ending.returned (.bool b)) (decide_eq_false (by omega)), rfl⟩
  · have g0 : (n : Int) < 1 := by omega
    rw [decide_eq_false (fun h => h0 h.1)]
    clear h0
    go_wp2
    go_ret
    exact ⟨rfl, rfl⟩

set_option maxHeartbeats 4000000 in
set_option maxRecDepth 100000 in
theorem rPut17_any (q : Nat) (r : Rz) (w : World) (hq : q < 18446744073709551616) :
    Calls Try.prog 7 #[.int .u64 (q : Int), rzV r] w fun e w' => e = .returned (.tuple #[.string (bstr (ptL q r)), .int .i64 (ptE q r)]) ∧ Below w.heap.size w w' := by
  have henc := rEncode_any r
  have hu := Lib.uvarint_length64 hq
  obtain ⟨B, hB⟩ : ∃ B, B = if okR r then layR r else [] := ⟨_, rfl⟩
  have hBl : B.length ≤ 70000 := by
    rw [hB]
    split
    · rename_i h
      have h1 := okR_iff.1 h
      have h2 := (layR_len h).1
      omega
    · simp
  obtain ⟨E, hE⟩ : ∃ E : Int, E = if okR r then 0 else 2 := ⟨_, rfl⟩
  rw [← hB, ← hE] at henc
  obtain ⟨sq, hsq⟩ : ∃ sq, sq = decide (1 ≤ q ∧ q ≤ 1099511627776) := ⟨_, rfl⟩
  obtain ⟨P, hP⟩ : ∃ P, P = ptL q r := ⟨_, rfl⟩
  obtain ⟨F, hF⟩ : ∃ F, F = ptE q r := ⟨_, rfl⟩
  rw [← hP, ← hF]
  have HB : Hid _ := hB
  have HE : Hid _ := hE
  have HS : Hid _ := hsq
  have HP : Hid _ := hP
  have HF : Hid _ := hF
  clear hB hE hsq hP hF
  obtain ⟨U, hU⟩ : ∃ U, U = Lib.uvarint q := ⟨_, rfl⟩
  rw [← hU] at hu
  have HU : Hid _ := hU
  clear hU
  obtain ⟨N, hN⟩ : ∃ N, N = r := ⟨_, rfl⟩
  obtain ⟨de, df, dr, dv, dn⟩ := N
  rw [← hN] at henc ⊢
  have HN : Hid _ := hN
  clear hN
  go_enter Try.func7, Try.ntmps7
  go_wp2_with fail
  refine (henc _).mono ?_
  rintro e w1 ⟨rfl, hb1⟩
  have hB1 := bel_call hb1 (bel_alloc (Below.refl _ _))
  clear hb1
  have hlen : ¬ (9223372036854775807 < U.length + B.length) := by omega
  go_wp2_with fail
  refine (rMay_any q w1).mono ?_
  rintro e w2 ⟨rfl, rfl⟩
  rw [← HS.out]
  cases sq with
  | false =>
    have hk : ptK q r = 0 := if_neg (of_decide_eq_false HS.out.symm)
    obtain rfl : P = [] := by rw [HP.out]; unfold ptL; rw [hk]; rfl
    obtain rfl : F = 2 := by rw [HF.out]; unfold ptE; rw [hk]; rfl
    clear hk
    go_wp2
    go_ret2
    exact ⟨rfl, hB1⟩
  | true =>
    have hs1 := of_decide_eq_true HS.out.symm
    cases hok : okR r with
    | false =>
      have hk : ptK q r = 0 := by unfold ptK; rw [if_pos hs1, if_neg (by rw [hok]; decide)]
      obtain rfl : P = [] := by rw [HP.out]; unfold ptL; rw [hk]; rfl
      obtain rfl : F = 2 := by rw [HF.out]; unfold ptE; rw [hk]; rfl
      obtain rfl : E = 2 := by rw [HE.out, hok]; rfl
      clear hk hs1 hok
      go_wp2
      go_ret2
      exact ⟨rfl, hB1⟩
    | true =>
      obtain rfl : E = 0 := by rw [HE.out, hok]; rfl
      have hBe : B = layR r := by rw [HB.out, hok]; rfl
      have hss : ssL q r = U ++ B := by rw [hBe, HU.out]; rfl
      have HSS : Hid _ := hss
      clear hBe hss
      go_wp2_with fail
      refine (RPutNumber_any [] q w2 (by simp) hq).mono ?_
      rintro e w3 ⟨rfl, hb3⟩
      rw [List.nil_append, ← HU.out]
      have hB3 := bel_call hb3 hB1
      have hadd : ∀ W : World, (binOp .add 9 (.string (bstr U)) (.string (bstr B))).run Try.prog W = .ok (.string (bstr (U ++ B))) W := by
        intro W
        go_simp
      have hlen2 : U.length + B.length ≤ 9223372036854775807 := by omega
      clear hb3 hB1 hlen
      have hss := HSS.out
      by_cases hle : U.length + B.length ≤ 65536
      · have hk : ptK q r = 2 := by unfold ptK; rw [if_pos hs1, if_pos hok, if_pos (by rw [hss, List.length_append]; exact hle)]
        obtain rfl : P = U ++ B := by rw [HP.out]; unfold ptL; rw [hk, if_pos rfl, hss]
        obtain rfl : F = 0 := by rw [HF.out]; unfold ptE; rw [hk]; rfl
        have hli : (U.length : Int) + (B.length : Int) ≤ 65536 := by omega
        clear hk hs1 hok hss
        go_wp2
        go_ret2
        exact ⟨rfl, hB3⟩
      · have hk : ptK q r = 1 := by unfold ptK; rw [if_pos hs1, if_pos hok, if_neg (by rw [hss, List.length_append]; exact hle)]
        obtain rfl : P = [] := by rw [HP.out]; unfold ptL; rw [hk]; rfl
        obtain rfl : F = 3 := by rw [HF.out]; unfold ptE; rw [hk]; rfl
        have hli : 65536 < (U.length : Int) + (B.length : Int) := by omega
        clear hk hs1 hok hss hle
        go_wp2
        go_ret2
        exact ⟨rfl, hB3⟩


set_option maxHeartbeats 4000000 in
set_option maxRecDepth 100000 in
theorem SPuts_any (q : Nat) (e : Int) (f : Bool) (ro va : List UInt8) (ve : Nat) (w : World) (hq : q < 18446744073709551616) (_hve : ve < 18446744073709551616) :
    Calls Try.prog 3 #[.int .u64 (q : Int), .agg #[.int .i64 e, .bool f, .string (bstr ro), .string (bstr va), .int .u64 (ve : Int)]] w fun x w' => x = .returned (.bool true) ∧ Below w.heap.size w w' := by
  have hcr := fun w : World => run_cut (P := Try.prog) 9 ro 100 100 rfl w Try.underlying9
  have hcv := fun w : World => run_cut (P := Try.prog) 9 va 131072 131072 rfl w Try.underlying9
  obtain ⟨w1, hw1⟩ : ∃ w1, w1 = w.alloc (.cells #[.int .i64 e, .bool f, .string (bstr ro), .string (bstr va), .int .u64 (ve : Int)] 25) := ⟨_, rfl⟩
  have hz1 : RzB w1 w.heap.size ⟨e, f, ro, va, ve⟩ := by rw [hw1]; exact heap_alloc_new w _
  have hB1 : Below w.heap.size w w1 := by rw [hw1]; exact bel_alloc (Below.refl _ _)
  have HW : Hid _ := hw1
  clear hw1
  go_enter Try.func3, Try.ntmps3
  go_upto_region 1 with fail
  rw [← HW.out]
  clear HW
  obtain ⟨z0, z1, z2, z3, z4⟩ := hz1.facts
  have fz := hz1.frz
  simp only at z0 z1 z2 z3 z4
  obtain ⟨w2, hw2⟩ : ∃ w2, w2 = w1.setCell ⟨w.heap.size, 3, none⟩ (.string (bstr (va.take 131072))) := ⟨_, rfl⟩
  have hz2 : RzB w2 w.heap.size ⟨e, f, ro, va.take 131072, ve⟩ := by rw [hw2]; exact heap_set_same hz1 (o := 3) _
  have hB2 : Below w.heap.size w w2 := by rw [hw2]; exact bel_set hB1 (Nat.le_refl _)
  have HW : Hid _ := hw2
  clear hw2 hB1 hz1
  go_upto_region 2 with fail
  have HW2 := HW.out
  rw [← HW2]
  clear HW HW2 z0 z1 z2 z3 z4 fz hcv
  generalize va.take 131072 = va' at *
  obtain ⟨z0, z1, z2, z3, z4⟩ := hz2.facts
  have fz := hz2.frz
  simp only at z0 z1 z2 z3 z4
  obtain ⟨w3, hw3⟩ : ∃ w3, w3 = w2.setCell ⟨w.heap.size, 2, none⟩ (.string (bstr (ro.take 100))) := ⟨_, rfl⟩
  have hz3 : RzB w3 w.heap.size ⟨e, f, ro.take 100, va', ve⟩ := by rw [hw3]; exact heap_set_same hz2 (o := 2) _
  have hB3 : Below w.heap.size w w3 := by rw [hw3]; exact bel_set hB2 (Nat.le_refl _)
  have HW : Hid _ := hw3
  clear hw3 hB2 hz2
  go_upto_region 3 with fail
  have HW2 := HW.out
  rw [← HW2]
  clear HW HW2 z0 z1 z2 z3 z4 fz hcr
  generalize ro.take 100 = ro' at *
  obtain ⟨z0, z1, z2, z3, z4⟩ := hz3.facts
  simp only at z0 z1 z2 z3 z4
  have h1 := jPut_any q ⟨e, f, ro', va', ve⟩
  have h2 := rPut17_any q ⟨e, f, ro', va', ve⟩
  generalize ptL q ⟨e, f, ro', va', ve⟩ = L at *
  generalize ptE q ⟨e, f, ro', va', ve⟩ = E at *
  have H1 : Hid _ := h1
  have H2 : Hid _ := h2
  clear h1 h2
  go_wp2_with fail
  refine (H1.out w3 hq).mono ?_
  rintro x w4 ⟨rfl, hb4⟩
  replace z0 := cell_below hb4 z0
  replace z1 := cell_below hb4 z1
  replace z2 := cell_below hb4 z2
  replace z3 := cell_below hb4 z3
  replace z4 := cell_below hb4 z4
  have hB4 := bel_call hb4 hB3
  clear hb4 hB3 hz3
  go_wp2_with fail
  refine (H2.out w4 hq).mono ?_
  rintro x w5 ⟨rfl, hb5⟩
  have hB5 := bel_call hb5 hB4
  clear hb5 hB4 z0 z1 z2 z3 z4
  go_wp2_with fail
  refine (works17_any w5).mono ?_
  rintro x w6 ⟨rfl, hb6⟩
  have hB6 := bel_call hb6 hB5
  go_wp2
  go_ret
  exact ⟨rfl, hB6⟩

end Go.Proofs.Ytmgibkglbddlpaa
