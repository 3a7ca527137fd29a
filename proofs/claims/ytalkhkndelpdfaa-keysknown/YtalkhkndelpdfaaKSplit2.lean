/-
  The contracts of keys.Split where it refuses, of the document's own Split, of the law's 'works', of User and Stored.
-/
import Derived.Test.YtalkhkndelpdfaaKSplit
namespace Go.Proofs.Ytalkhkndelpdfaa
open Go.RowKit
attribute [local go_sem] size_bstr toList_bstr ls_def
attribute [local go_sem high] rng_eql rng_neq rng_guard

theorem cell_drew1 (W : World) (a : Addr) : W.drew.cell? a = W.cell? a := rfl
theorem set4_cell_d {W : World} {n o : Nat} {p q r s v : Value} (h : W.cell? ⟨n, o, none⟩ = some v) :
    ((((W.setCell ⟨n + 1, 0, none⟩ p).setCell ⟨n + 1, 1, none⟩ q).setCell ⟨n + 1 + 1, 0, none⟩ r).setCell ⟨n + 1 + 1, 1, none⟩ s).drew.cell? ⟨n, o, none⟩ = some v := (cell_drew1 _ _).trans (set4_cell h)
theorem set2_cell_d {W : World} {n o : Nat} {p q v : Value} (h : W.cell? ⟨n, o, none⟩ = some v) :
    ((W.setCell ⟨n + 1, 0, none⟩ p).setCell ⟨n + 1, 1, none⟩ q).drew.cell? ⟨n, o, none⟩ = some v := (cell_drew1 _ _).trans (set2_cell h)

/-- What a split answers. -/
def splitV (lo hi k : List UInt8) : Value := if splitB lo hi k = true then triV lo k k hi 0 else triV [] [] [] [] 2

set_option maxHeartbeats 2000000 in
theorem Split_no1 (lo hi k : List UInt8) (w : World) (hm : mayB lo hi = false) :
    Calls Try.prog 7 #[rngV lo hi, .string (bstr k)] w fun e w' => e = .returned (triV [] [] [] [] 2) ∧ Below w.heap.size w w' := by
  have hB := spW_below w lo hi
  have hF := Sp3.start w lo hi
  have hck := Check_any lo hi (spW w lo hi)
  rw [hm, if_neg (by simp)] at hck
  go_enter Try.func7, Try.ntmps7
  go_wp2_with fail
  refine hck.mono ?_
  rintro e w1 ⟨rfl, hb1⟩
  replace hF := hF.step hb1
  replace hB := below2 hB hb1
  clear hb1
  obtain ⟨_, c0, c1, d0, d1, e0, e1, f0, f1, h0, h1⟩ := id hF
  go_wp2
  generalize hW : (((_ : World).setCell ⟨w.heap.size + 1, 0, none⟩ _).setCell ⟨w.heap.size + 1, 1, none⟩ _).setCell ⟨w.heap.size + 1 + 1, 0, none⟩ _ = W2
  generalize hW3 : W2.setCell ⟨w.heap.size + 1 + 1, 1, none⟩ _ = W'
  subst hW
  obtain ⟨r0, r1, r2, r3⟩ := set4_reads d0 d1 e0 e1 hW3
  refine bodyPost_ret (v := triV [] [] [] [] 2) (by rw [res3 Try.results7]; simp [go_sem, r0, r1, r2, r3]; rfl) rfl ⟨rfl, ?_⟩
  rw [← hW3]
  exact below_set4 _ _ _ _ hB (Nat.le_succ _)

set_option maxHeartbeats 2000000 in
theorem Split_no2 (lo hi k : List UInt8) (w : World) (hm : mayB lo hi = true) (hk : ¬ k.length ≤ 24) :
    Calls Try.prog 7 #[rngV lo hi, .string (bstr k)] w fun e w' => e = .returned (triV [] [] [] [] 2) ∧ Below w.heap.size w w' := by
  have hB := spW_below w lo hi
  have hF := Sp3.start w lo hi
  have hck := Check_any lo hi (spW w lo hi)
  rw [hm, if_pos rfl] at hck
  have g1 : decide ((24 : Int) < (k.length : Int)) = true := by rw [decide_eq_true_eq]; omega
  go_enter Try.func7, Try.ntmps7
  go_wp2_with fail
  refine hck.mono ?_
  rintro e w1 ⟨rfl, hb1⟩
  replace hF := hF.step hb1
  replace hB := below2 hB hb1
  clear hb1
  obtain ⟨_, c0, c1, d0, d1, e0, e1, f0, f1, h0, h1⟩ := id hF
  go_wp2
  generalize hW : (((_ : World).setCell ⟨w.heap.size + 1, 0, none⟩ _).setCell ⟨w.heap.size + 1, 1, none⟩ _).setCell ⟨w.heap.size + 1 + 1, 0, none⟩ _ = W2
  generalize hW3 : W2.setCell ⟨w.heap.size + 1 + 1, 1, none⟩ _ = W'
  subst hW
  obtain ⟨r0, r1, r2, r3⟩ := set4_reads d0 d1 e0 e1 hW3
  refine bodyPost_ret (v := triV [] [] [] [] 2) (by rw [res3 Try.results7]; simp [go_sem, r0, r1, r2, r3]; rfl) rfl ⟨rfl, ?_⟩
  rw [← hW3]
  exact below_set4 _ _ _ _ hB (Nat.le_succ _)

set_option maxHeartbeats 2000000 in
theorem Split_no3 (lo hi k : List UInt8) (w : World) (hm : mayB lo hi = true) (hk : k.length ≤ 24) (hh : hasB lo hi k = false) :
    Calls Try.prog 7 #[rngV lo hi, .string (bstr k)] w fun e w' => e = .returned (triV [] [] [] [] 2) ∧ Below w.heap.size w w' := by
  have hB := spW_below w lo hi
  have hF := Sp3.start w lo hi
  have hck := Check_any lo hi (spW w lo hi)
  rw [hm, if_pos rfl] at hck
  have hha : ∀ W, Calls Try.prog 5 #[rngV lo hi, .string (bstr k)] W fun e w' => e = .returned (.bool false) ∧ Below W.heap.size W w' := by
    intro W
    have := Has_any lo hi k W
    rw [hh] at this
    exact this
  have g1 : decide ((24 : Int) < (k.length : Int)) = false := by rw [decide_eq_false_iff_not]; omega
  go_enter Try.func7, Try.ntmps7
  go_wp2_with fail
  refine hck.mono ?_
  rintro e w1 ⟨rfl, hb1⟩
  replace hF := hF.step hb1
  replace hB := below2 hB hb1
  clear hb1
  obtain ⟨_, c0, c1, d0, d1, e0, e1, f0, f1, h0, h1⟩ := id hF
  go_wp2_with fail
  refine (hha _).mono ?_
  rintro e w2 ⟨rfl, hb2⟩
  replace hF := hF.step hb2
  replace hB := below2 hB hb2
  clear hb2
  clear c0 c1 d0 d1 e0 e1 f0 f1 h0 h1
  obtain ⟨_, c0, c1, d0, d1, e0, e1, f0, f1, h0, h1⟩ := id hF
  go_wp2
  generalize hW : (((_ : World).setCell ⟨w.heap.size + 1, 0, none⟩ _).setCell ⟨w.heap.size + 1, 1, none⟩ _).setCell ⟨w.heap.size + 1 + 1, 0, none⟩ _ = W2
  generalize hW3 : W2.setCell ⟨w.heap.size + 1 + 1, 1, none⟩ _ = W'
  subst hW
  obtain ⟨r0, r1, r2, r3⟩ := set4_reads d0 d1 e0 e1 hW3
  refine bodyPost_ret (v := triV [] [] [] [] 2) (by rw [res3 Try.results7]; simp [go_sem, r0, r1, r2, r3]; rfl) rfl ⟨rfl, ?_⟩
  rw [← hW3]
  exact below_set4 _ _ _ _ hB (Nat.le_succ _)

set_option maxHeartbeats 2000000 in
theorem Split_no4 (lo hi k : List UInt8) (w : World) (hm : mayB lo hi = true) (hk : k.length ≤ 24) (hh : hasB lo hi k = true) (he : k = lo) :
    Calls Try.prog 7 #[rngV lo hi, .string (bstr k)] w fun e w' => e = .returned (triV [] [] [] [] 2) ∧ Below w.heap.size w w' := by
  subst he
  have hB := spW_below w k hi
  have hF := Sp3.start w k hi
  have hck := Check_any k hi (spW w k hi)
  rw [hm, if_pos rfl] at hck
  have hha : ∀ W, Calls Try.prog 5 #[rngV k hi, .string (bstr k)] W fun e w' => e = .returned (.bool true) ∧ Below W.heap.size W w' := by
    intro W
    have := Has_any k hi k W
    rw [hh] at this
    exact this
  have g1 : decide ((24 : Int) < (k.length : Int)) = false := by rw [decide_eq_false_iff_not]; omega
  go_enter Try.func7, Try.ntmps7
  go_wp2_with fail
  refine hck.mono ?_
  rintro e w1 ⟨rfl, hb1⟩
  replace hF := hF.step hb1
  replace hB := below2 hB hb1
  clear hb1
  obtain ⟨_, c0, c1, d0, d1, e0, e1, f0, f1, h0, h1⟩ := id hF
  go_wp2_with fail
  refine (hha _).mono ?_
  rintro e w2 ⟨rfl, hb2⟩
  replace hF := hF.step hb2
  replace hB := below2 hB hb2
  clear hb2
  clear c0 c1 d0 d1 e0 e1 f0 f1 h0 h1
  obtain ⟨_, c0, c1, d0, d1, e0, e1, f0, f1, h0, h1⟩ := id hF
  go_wp2
  generalize hW : (((_ : World).setCell ⟨w.heap.size + 1, 0, none⟩ _).setCell ⟨w.heap.size + 1, 1, none⟩ _).setCell ⟨w.heap.size + 1 + 1, 0, none⟩ _ = W2
  generalize hW3 : W2.setCell ⟨w.heap.size + 1 + 1, 1, none⟩ _ = W'
  subst hW
  obtain ⟨r0, r1, r2, r3⟩ := set4_reads d0 d1 e0 e1 hW3
  refine bodyPost_ret (v := triV [] [] [] [] 2) (by rw [res3 Try.results7]; simp [go_sem, r0, r1, r2, r3]; rfl) rfl ⟨rfl, ?_⟩
  rw [← hW3]
  exact below_set4 _ _ _ _ hB (Nat.le_succ _)

theorem Split_any (lo hi k : List UInt8) (w : World) :
    Calls Try.prog 7 #[rngV lo hi, .string (bstr k)] w fun e w' => e = .returned (splitV lo hi k) ∧ Below w.heap.size w w' := by
  unfold splitV
  cases hs : splitB lo hi k with
  | true => rw [if_pos rfl]; exact Split_ok lo hi k w hs
  | false =>
    rw [if_neg (by simp)]
    cases hm : mayB lo hi with
    | false => exact Split_no1 lo hi k w hm
    | true =>
      by_cases hk : k.length ≤ 24
      · cases hh : hasB lo hi k with
        | false => exact Split_no3 lo hi k w hm hk hh
        | true =>
          refine Split_no4 lo hi k w hm hk hh ?_
          have := (not_congr (splitB_iff lo hi k)).1 (by rw [hs]; simp)
          exact Classical.byContradiction fun hn => this ⟨hm, hk, hh, hn⟩
      · exact Split_no2 lo hi k w hm hk

end Go.Proofs.Ytalkhkndelpdfaa
