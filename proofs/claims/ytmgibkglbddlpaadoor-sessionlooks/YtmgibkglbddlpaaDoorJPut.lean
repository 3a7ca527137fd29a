/-
  session.Put.
-/
import Derived.Test.YtmgibkglbddlpaaDoorJSe2
namespace Go.Proofs.YtmgibkglbddlpaaDoor
open Go.RowKit Go.BigFrame
attribute [local go_sem] size_bstr toList_bstr append_bstr

/-- A session's bytes; what Put answers. -/
def ssL (q : Nat) (r : Rz) : List UInt8 := Lib.uvarint q ++ layR r
def ptK (q : Nat) (r : Rz) : Nat := if 1 ≤ q ∧ q ≤ 1099511627776 then (if okR r = true then (if (ssL q r).length ≤ 65536 then 2 else 1) else 0) else 0
def ptL (q : Nat) (r : Rz) : List UInt8 := if ptK q r = 2 then ssL q r else []
def ptE (q : Nat) (r : Rz) : Int := if ptK q r = 0 then 2 else if ptK q r = 1 then 3 else 0

set_option maxHeartbeats 4000000 in
set_option maxRecDepth 100000 in
theorem jPut_any (q : Nat) (r : Rz) (w : World) (hq : q < 18446744073709551616) :
    Calls Tryd.prog 10 #[.int .u64 (q : Int), rzV r] w fun e w' => e = .returned (.tuple #[.string (bstr (ptL q r)), .int .i64 (ptE q r)]) ∧ Below w.heap.size w w' := by
  have henc := jEncodeR_any r
  have hu := Lib.uvarint_length64 hq
  obtain ⟨B, hB⟩ : ∃ B, B = if okR r then layR r else [] := ⟨_, rfl⟩
  have hBl : B.length ≤ 70000 := by
    rw [hB]
    split
    · rename_i h
      have h1 := okR_iff.1 h
      have h2 := (layR_len h).1
      omega
    · simp
  obtain ⟨E, hE⟩ : ∃ E : Int, E = if okR r then 0 else 2 := ⟨_, rfl⟩
  rw [← hB, ← hE] at henc
  obtain ⟨sq, hsq⟩ : ∃ sq, sq = decide (1 ≤ q ∧ q ≤ 1099511627776) := ⟨_, rfl⟩
  obtain ⟨P, hP⟩ : ∃ P, P = ptL q r := ⟨_, rfl⟩
  obtain ⟨F, hF⟩ : ∃ F, F = ptE q r := ⟨_, rfl⟩
  rw [← hP, ← hF]
  have hup := putNum [] q w hq (by simp)
  have HB : Hid _ := hB
  have HE : Hid _ := hE
  have HS : Hid _ := hsq
  have HP : Hid _ := hP
  have HF : Hid _ := hF
  clear hB hE hsq hP hF hup
  obtain ⟨U, hU⟩ : ∃ U, U = Lib.uvarint q := ⟨_, rfl⟩
  rw [← hU] at hu
  have HU : Hid _ := hU
  clear hU
  obtain ⟨N, hN⟩ : ∃ N, N = r := ⟨_, rfl⟩
  obtain ⟨de, df, dr, dv, dn⟩ := N
  rw [← hN] at henc ⊢
  have HN : Hid _ := hN
  clear hN
  go_enter Tryd.func10, Tryd.ntmps10
  go_wp2_with fail
  refine (henc _).mono ?_
  rintro e w1 ⟨rfl, hb1⟩
  have hB1 := bel_call hb1 (bel_alloc (Below.refl _ _))
  clear hb1
  go_wp2_with fail
  refine (putNum [] q w1 hq (by simp)).mono ?_
  rintro e w2 ⟨rfl, hb2⟩
  rw [List.nil_append, ← HU.out]
  have hB2 := bel_call hb2 hB1
  clear hb2 hB1
  have hlen : ¬ (9223372036854775807 < U.length + B.length) := by omega
  go_wp2_with fail
  refine (jSeq_any q w2).mono ?_
  rintro e w3 ⟨rfl, rfl⟩
  rw [← HS.out]
  cases sq with
  | false =>
    have hk : ptK q r = 0 := if_neg (of_decide_eq_false HS.out.symm)
    obtain rfl : P = [] := by rw [HP.out]; unfold ptL; rw [hk]; rfl
    obtain rfl : F = 2 := by rw [HF.out]; unfold ptE; rw [hk]; rfl
    clear hk
    go_wp2
    go_ret2
    exact ⟨rfl, hB2⟩
  | true =>
    have hs1 := of_decide_eq_true HS.out.symm
    cases hok : okR r with
    | false =>
      have hk : ptK q r = 0 := by unfold ptK; rw [if_pos hs1, if_neg (by rw [hok]; decide)]
      obtain rfl : P = [] := by rw [HP.out]; unfold ptL; rw [hk]; rfl
      obtain rfl : F = 2 := by rw [HF.out]; unfold ptE; rw [hk]; rfl
      obtain rfl : E = 2 := by rw [HE.out, hok]; rfl
      clear hk hs1 hok
      go_wp2
      go_ret2
      exact ⟨rfl, hB2⟩
    | true =>
      obtain rfl : E = 0 := by rw [HE.out, hok]; rfl
      have hBe : B = layR r := by rw [HB.out, hok]; rfl
      have hss : ssL q r = U ++ B := by rw [hBe, HU.out]; rfl
      by_cases hle : U.length + B.length ≤ 65536
      · have hk : ptK q r = 2 := by unfold ptK; rw [if_pos hs1, if_pos hok, if_pos (by rw [hss, List.length_append]; exact hle)]
        obtain rfl : P = U ++ B := by rw [HP.out]; unfold ptL; rw [hk, if_pos rfl, hss]
        obtain rfl : F = 0 := by rw [HF.out]; unfold ptE; rw [hk]; rfl
        have hli : (U.length : Int) + (B.length : Int) ≤ 65536 := by omega
        clear hk hs1 hok hBe hss
        go_wp2
        go_ret2
        exact ⟨rfl, hB2⟩
      · have hk : ptK q r = 1 := by unfold ptK; rw [if_pos hs1, if_pos hok, if_neg (by rw [hss, List.length_append]; exact hle)]
        obtain rfl : P = [] := by rw [HP.out]; unfold ptL; rw [hk]; rfl
        obtain rfl : F = 3 := by rw [HF.out]; unfold ptE; rw [hk]; rfl
        have hli : 65536 < (U.length : Int) + (B.length : Int) := by omega
        clear hk hs1 hok hBe hss hle
        go_wp2
        go_ret2
        exact ⟨rfl, hB2⟩

end Go.Proofs.YtmgibkglbddlpaaDoor
