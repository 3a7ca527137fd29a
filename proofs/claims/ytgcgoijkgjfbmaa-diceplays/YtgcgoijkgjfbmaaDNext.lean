/-
  The contract of dice's Next; of Lay; what the law's own works answers.
-/
import Derived.Test.YtgcgoijkgjfbmaaDTake
namespace Go.Proofs.Ytgcgoijkgjfbmaa
open Go.RowKit Go.BigFrame

/-- What Next answers, and what is left behind it. -/
def nxV (n : Int) (l : List UInt8) : Int := if l.length < wid n then 0 else (tk (wid n) 0 l : Int) % n
def nxR (n : Int) (l : List UInt8) : List UInt8 := l.drop (wid n)
theorem tk_zero (l : List UInt8) : tk 0 0 l = 0 := rfl
theorem tk_one (a : UInt8) (l : List UInt8) : tk 1 0 (a :: l) = a.toNat := by simp [tk]
theorem tk_two (a b : UInt8) (l : List UInt8) : tk 2 0 (a :: b :: l) = a.toNat * 256 + b.toNat := by simp [tk]
theorem tk_lt (k : Nat) (l : List UInt8) (h2 : k ≤ 2) : tk k 0 l < 65536 := by
  match k, l with
  | 0, _ => rw [tk_zero]; omega
  | 1, [] => simp [tk]
  | 1, a :: l => rw [tk_one]; have := a.toNat_lt; omega
  | 2, [] => simp [tk]
  | 2, [a] => simp [tk]; have := a.toNat_lt; omega
  | 2, a :: b :: l => rw [tk_two]; have := a.toNat_lt; have := b.toNat_lt; omega
  | k + 3, _ => omega
theorem wid_le (n : Int) : wid n ≤ 2 := by unfold wid; split; omega; split <;> omega
theorem wid_pos {n : Int} (h : wid n ≠ 0) : 2 ≤ n := by unfold wid at h; split at h; omega; split at h <;> omega

set_option maxHeartbeats 2000000 in
set_option maxRecDepth 100000 in
theorem Next_any (g B C : Nat) (n : Int) (l : List UInt8) (w : World) (h : Dc w B C g l) :
    Calls Try.prog 11 #[.pointer (some ⟨g, 0, none⟩), .int .i64 n] w fun e w' => e = .returned (.int .i64 (nxV n l)) ∧ Dc w' B C g (nxR n l) ∧ w.grownBy w' (some g) := by
  unfold nxV nxR
  have hw := width_any n w
  have hw2 := wid_le n
  have hwp := @wid_pos n
  generalize wid n = k at *
  by_cases h0 : k = 0
  · subst h0
    rw [if_neg (by omega), List.drop_zero]
    go_enter Try.func11, Try.ntmps11
    go_wp2_with fail
    refine hw.mono ?_
    rintro e w1 ⟨rfl, rfl⟩
    go_wp2_with fail
    refine (none_any g B C l _ h).mono ?_
    rintro e w1 ⟨rfl, rfl⟩
    go_wp2
    go_ret
    exact ⟨by simp [tk_zero], h, grown_refl _ _⟩
  · have hn := hwp h0
    have hk0 : ((k : Int) == 0) = false := by simp; omega
    by_cases hl : l.length < k
    · rw [if_pos hl, List.drop_of_length_le (by omega)]
      have hz : (0 : Int).tmod n = 0 := Int.zero_tmod n
      go_enter Try.func11, Try.ntmps11
      go_wp2_with fail
      refine hw.mono ?_
      rintro e w1 ⟨rfl, rfl⟩
      go_wp2_with fail
      refine (none_any g B C l _ h).mono ?_
      rintro e w1 ⟨rfl, rfl⟩
      go_wp2_with fail
      refine (take_few g B C k l _ h hl).mono ?_
      rintro e w1 ⟨rfl, hd, hg⟩
      go_wp2
      go_ret
      exact ⟨rfl, hd, hg⟩
    · rw [if_neg hl]
      have ht := tk_lt k l hw2
      have hT := take_some g B C k l w h (by omega) hw2
      generalize tk k 0 l = t at *
      have hm : (t : Int).tmod n = (t : Int) % n := Int.tmod_eq_emod_of_nonneg (by omega)
      have hm0 : 0 ≤ (t : Int) % n := Int.emod_nonneg _ (by omega)
      have hm1 : (t : Int) % n ≤ t := by
        obtain ⟨m, rfl⟩ := Int.eq_ofNat_of_zero_le (show 0 ≤ n by omega)
        have := Nat.mod_le t m
        omega
      go_enter Try.func11, Try.ntmps11
      go_wp2_with fail
      refine hw.mono ?_
      rintro e w1 ⟨rfl, rfl⟩
      go_wp2_with fail
      refine (none_any g B C l _ h).mono ?_
      rintro e w1 ⟨rfl, rfl⟩
      go_wp2_with fail
      refine hT.mono ?_
      rintro e w1 ⟨rfl, hd, hg⟩
      go_wp2
      go_ret
      exact ⟨rfl, hd, hg⟩

set_option maxHeartbeats 2000000 in
theorem Next_nil (n : Int) (w : World) :
    Calls Try.prog 11 #[.pointer none, .int .i64 n] w fun e w' => e = .returned (.int .i64 0) ∧ w' = w := by
  have hw := width_any n w
  generalize wid n = k at *
  go_enter Try.func11, Try.ntmps11
  go_wp2_with fail
  refine hw.mono ?_
  rintro e w1 ⟨rfl, rfl⟩
  go_wp2_with fail
  refine (none_nil _).mono ?_
  rintro e w1 ⟨rfl, rfl⟩
  go_wp2
  go_ret
  exact ⟨rfl, rfl⟩

end Go.Proofs.Ytgcgoijkgjfbmaa
