/-
  The document's Put (acreageref17).
-/
import Derived.Test.YtmgibkglbddlpaaDoorJRf2
import Derived.Test.YtmgibkglbddlpaaDoorJWks
namespace Go.Proofs.YtmgibkglbddlpaaDoor
open Go.RowKit Go.BigFrame
attribute [local go_sem] size_bstr toList_bstr append_bstr

theorem rMay_any (n : Nat) (w : World) :
    Calls Tryd.prog 13 #[.int .u64 (n : Int)] w fun x w' => x = .returned (.bool (decide (1 ≤ n ∧ n ≤ 1099511627776))) ∧ w' = w := by
  go_enter Tryd.func13, Tryd.ntmps13
  by_cases h0 : 1 ≤ n
  · by_cases h1 : n ≤ 1099511627776
    · have g0 : (1 : Int) ≤ (n : Int) := by omega
      have g1 : (n : Int) ≤ 1099511627776 := by omega
      rw [decide_eq_true ⟨h0, h1⟩]
      clear h0 h1
      go_wp2
      go_ret
      exact ⟨rfl, rfl⟩
    · have g0 : (1 : Int) ≤ (n : Int) := by omega
      have g1 : (1099511627776 : Int) < (n : Int) := by omega
      rw [decide_eq_false (fun h => h1 h.2)]
      clear h0 h1
      go_wp2
      go_ret
      exact ⟨congrArg (fun b => Ending.returned (.bool b)) (decide_eq_false (by omega)), rfl⟩
  · have g0 : (n : Int) < 1 := by omega
    rw [decide_eq_false (fun h => h0 h.1)]
    clear h0
    go_wp2
    go_ret
    exact ⟨rfl, rfl⟩

set_option maxHeartbeats 4000000 in
set_option maxRecDepth 100000 in
theorem rPut17_any (q : Nat) (r : Rz) (w : World) (hq : q < 18446744073709551616) :
    Calls Tryd.prog 25 #[.int .u64 (q : Int), rzV r] w fun e w' => e = .returned (.tuple #[.string (bstr (ptL q r)), .int .i64 (ptE q r)]) ∧ Below w.heap.size w w' := by
  have henc := rEncode_any r
  have hu := Lib.uvarint_length64 hq
  obtain ⟨B, hB⟩ : ∃ B, B = if okR r then layR r else [] := ⟨_, rfl⟩
  have hBl : B.length ≤ 70000 := by
    rw [hB]
    split
    · rename_i h
      have h1 := okR_iff.1 h
      have h2 := (layR_len h).1
      omega
    · simp
  obtain ⟨E, hE⟩ : ∃ E : Int, E = if okR r then 0 else 2 := ⟨_, rfl⟩
  rw [← hB, ← hE] at henc
  obtain ⟨sq, hsq⟩ : ∃ sq, sq = decide (1 ≤ q ∧ q ≤ 1099511627776) := ⟨_, rfl⟩
  obtain ⟨P, hP⟩ : ∃ P, P = ptL q r := ⟨_, rfl⟩
  obtain ⟨F, hF⟩ : ∃ F, F = ptE q r := ⟨_, rfl⟩
  rw [← hP, ← hF]
  have HB : Hid _ := hB
  have HE : Hid _ := hE
  have HS : Hid _ := hsq
  have HP : Hid _ := hP
  have HF : Hid _ := hF
  clear hB hE hsq hP hF
  obtain ⟨U, hU⟩ : ∃ U, U = Lib.uvarint q := ⟨_, rfl⟩
  rw [← hU] at hu
  have HU : Hid _ := hU
  clear hU
  obtain ⟨N, hN⟩ : ∃ N, N = r := ⟨_, rfl⟩
  obtain ⟨de, df, dr, dv, dn⟩ := N
  rw [← hN] at henc ⊢
  have HN : Hid _ := hN
  clear hN
  go_enter Tryd.func25, Tryd.ntmps25
  go_wp2_with fail
  refine (henc _).mono ?_
  rintro e w1 ⟨rfl, hb1⟩
  have hB1 := bel_call hb1 (bel_alloc (Below.refl _ _))
  clear hb1
  have hlen : ¬ (9223372036854775807 < U.length + B.length) := by omega
  go_wp2_with fail
  refine (rMay_any q w1).mono ?_
  rintro e w2 ⟨rfl, rfl⟩
  rw [← HS.out]
  cases sq with
  | false =>
    have hk : ptK q r = 0 := if_neg (of_decide_eq_false HS.out.symm)
    obtain rfl : P = [] := by rw [HP.out]; unfold ptL; rw [hk]; rfl
    obtain rfl : F = 2 := by rw [HF.out]; unfold ptE; rw [hk]; rfl
    clear hk
    go_wp2
    go_ret2
    exact ⟨rfl, hB1⟩
  | true =>
    have hs1 := of_decide_eq_true HS.out.symm
    cases hok : okR r with
    | false =>
      have hk : ptK q r = 0 := by unfold ptK; rw [if_pos hs1, if_neg (by rw [hok]; decide)]
      obtain rfl : P = [] := by rw [HP.out]; unfold ptL; rw [hk]; rfl
      obtain rfl : F = 2 := by rw [HF.out]; unfold ptE; rw [hk]; rfl
      obtain rfl : E = 2 := by rw [HE.out, hok]; rfl
      clear hk hs1 hok
      go_wp2
      go_ret2
      exact ⟨rfl, hB1⟩
    | true =>
      obtain rfl : E = 0 := by rw [HE.out, hok]; rfl
      have hBe : B = layR r := by rw [HB.out, hok]; rfl
      have hss : ssL q r = U ++ B := by rw [hBe, HU.out]; rfl
      have HSS : Hid _ := hss
      clear hBe hss
      go_wp2_with fail
      refine (RPutNumber_any [] q w2 (by simp) hq).mono ?_
      rintro e w3 ⟨rfl, hb3⟩
      rw [List.nil_append, ← HU.out]
      have hB3 := bel_call hb3 hB1
      have hadd : ∀ W : World, (binOp .add 9 (.string (bstr U)) (.string (bstr B))).run Tryd.prog W = .ok (.string (bstr (U ++ B))) W := by
        intro W
        go_simp
      have hlen2 : U.length + B.length ≤ 9223372036854775807 := by omega
      clear hb3 hB1 hlen
      have hss := HSS.out
      by_cases hle : U.length + B.length ≤ 65536
      · have hk : ptK q r = 2 := by unfold ptK; rw [if_pos hs1, if_pos hok, if_pos (by rw [hss, List.length_append]; exact hle)]
        obtain rfl : P = U ++ B := by rw [HP.out]; unfold ptL; rw [hk, if_pos rfl, hss]
        obtain rfl : F = 0 := by rw [HF.out]; unfold ptE; rw [hk]; rfl
        have hli : (U.length : Int) + (B.length : Int) ≤ 65536 := by omega
        clear hk hs1 hok hss
        go_wp2
        go_ret2
        exact ⟨rfl, hB3⟩
      · have hk : ptK q r = 1 := by unfold ptK; rw [if_pos hs1, if_pos hok, if_neg (by rw [hss, List.length_append]; exact hle)]
        obtain rfl : P = [] := by rw [HP.out]; unfold ptL; rw [hk]; rfl
        obtain rfl : F = 3 := by rw [HF.out]; unfold ptE; rw [hk]; rfl
        have hli : 65536 < (U.length : Int) + (B.length : Int) := by omega
        clear hk hs1 hok hss hle
        go_wp2
        go_ret2
        exact ⟨rfl, hB3⟩



end Go.Proofs.YtmgibkglbddlpaaDoor
