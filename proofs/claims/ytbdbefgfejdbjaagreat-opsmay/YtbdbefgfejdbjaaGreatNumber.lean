/-
  The contract of wire's 'number', over this seat's translation: it answers 'numOf' of the bytes, and the world is as it was.
-/
import Derived.Test.YtbdbefgfejdbjaaGreatGNumTail
import Derived.WalkMore
namespace Go.Proofs.YtbdbefgfejdbjaaGreat
open Go.RowKit

set_option maxHeartbeats 8000000 in
set_option maxRecDepth 100000 in
theorem number_any (s : ByteArray) (w : World) (hs : s.size ≤ maxLen) :
    Calls Tryz.prog 142 #[.string s] w fun e w' => e = .returned (.tuple #[.int .u64 (numOf s.data.toList).1, .int .i64 (numOf s.data.toList).2]) ∧ w' = w := by
  unfold maxLen at hs
  by_cases h10 : (s.size : Int) ≤ 10
  all_goals
    go_enter Tryz.func142, Tryz.ntmps142
    go_wp2
    go_step3
    go_wp2
    go_step3
    go_wp2
    go_loop [4, 10] (fun vs vi => ∃ (k : Nat) (z : Int), vi = .int .i64 k ∧ vs = .int .u64 z ∧ k ≤ s.size ∧ k ≤ 10 ∧ Hid (Tail s.data.toList k z)) (fun _ vi => 10 - (intOf vi).toNat)
    case atStart => exact ⟨0, 0, rfl, rfl, by omega, by omega, .inl ⟨by omega, 0, rfl, by decide, rfl⟩⟩
    case round =>
      obtain ⟨k, z, rfl, rfl, hk, hk10, HT⟩ := hrel
      by_cases hlt : k < s.size ∧ k < 10
      · obtain ⟨hlt1, hlt2⟩ := hlt
        have hks : k = 0 ∨ k = 1 ∨ k = 2 ∨ k = 3 ∨ k = 4 ∨ k = 5 ∨ k = 6 ∨ k = 7 ∨ k = 8 ∨ k = 9 := by omega
        rcases hks with rfl | rfl | rfl | rfl | rfl | rfl | rfl | rfl | rfl | rfl
        · have hb0 : ((0 : Nat) : Int) < (s.size : Int) := by omega
          go_wp2
          all_goals first
            | (have hc : (128 : Int) ≤ (s[0].toNat : Int) := by assumption
               exact ⟨⟨1, _, rfl, rfl, by omega, by omega, tail_next0 (by rw [← size_list]; exact hlt1) HT.out hc⟩, by simp [intOf]⟩)
            | (have hc : (s[0].toNat : Int) < 128 := by assumption
               try rw [Exit.noGoto_ret]
               go_ret2
               have hzz := tail_last0 (by rw [← size_list]; exact hlt1) HT.out hc
               exact ⟨ret_two hzz.1 hzz.2, rfl⟩)
        · have hb1 : ((1 : Nat) : Int) < (s.size : Int) := by omega
          go_wp2
          all_goals first
            | (have hc : (128 : Int) ≤ (s[1].toNat : Int) := by assumption
               exact ⟨⟨2, _, rfl, rfl, by omega, by omega, tail_next (p := 128) (by rw [← size_list]; exact hlt1) (by omega) (by decide +kernel) HT.out (by assumption)⟩, by simp [intOf]⟩)
            | (have hz : ((s[1].toNat : Int) == 0) = true := by assumption
               try rw [Exit.noGoto_ret]
               go_ret2
               have hzz := tail_zero (k := 1) (by rw [← size_list]; exact hlt1) (by omega) HT.out (by omega) hz
               exact ⟨ret_two (by rw [hzz]; rfl) (by rw [hzz]; rfl), rfl⟩)
            | (have hc : (s[1].toNat : Int) < 128 := by assumption
               try rw [Exit.noGoto_ret]
               go_ret2
               have hzz := tail_last (p := 128) (by rw [← size_list]; exact hlt1) (by omega) (by decide +kernel) HT.out (by assumption) (.inr (by assumption)) (.inl (by omega))
               exact ⟨ret_two hzz.1 hzz.2, rfl⟩)
        · have hb2 : ((2 : Nat) : Int) < (s.size : Int) := by omega
          go_wp2
          all_goals first
            | (have hc : (128 : Int) ≤ (s[2].toNat : Int) := by assumption
               exact ⟨⟨3, _, rfl, rfl, by omega, by omega, tail_next (p := 16384) (by rw [← size_list]; exact hlt1) (by omega) (by decide +kernel) HT.out (by assumption)⟩, by simp [intOf]⟩)
            | (have hz : ((s[2].toNat : Int) == 0) = true := by assumption
               try rw [Exit.noGoto_ret]
               go_ret2
               have hzz := tail_zero (k := 2) (by rw [← size_list]; exact hlt1) (by omega) HT.out (by omega) hz
               exact ⟨ret_two (by rw [hzz]; rfl) (by rw [hzz]; rfl), rfl⟩)
            | (have hc : (s[2].toNat : Int) < 128 := by assumption
               try rw [Exit.noGoto_ret]
               go_ret2
               have hzz := tail_last (p := 16384) (by rw [← size_list]; exact hlt1) (by omega) (by decide +kernel) HT.out (by assumption) (.inr (by assumption)) (.inl (by omega))
               exact ⟨ret_two hzz.1 hzz.2, rfl⟩)
        · have hb3 : ((3 : Nat) : Int) < (s.size : Int) := by omega
          go_wp2
          all_goals first
            | (have hc : (128 : Int) ≤ (s[3].toNat : Int) := by assumption
               exact ⟨⟨4, _, rfl, rfl, by omega, by omega, tail_next (p := 2097152) (by rw [← size_list]; exact hlt1) (by omega) (by decide +kernel) HT.out (by assumption)⟩, by simp [intOf]⟩)
            | (have hz : ((s[3].toNat : Int) == 0) = true := by assumption
               try rw [Exit.noGoto_ret]
               go_ret2
               have hzz := tail_zero (k := 3) (by rw [← size_list]; exact hlt1) (by omega) HT.out (by omega) hz
               exact ⟨ret_two (by rw [hzz]; rfl) (by rw [hzz]; rfl), rfl⟩)
            | (have hc : (s[3].toNat : Int) < 128 := by assumption
               try rw [Exit.noGoto_ret]
               go_ret2
               have hzz := tail_last (p := 2097152) (by rw [← size_list]; exact hlt1) (by omega) (by decide +kernel) HT.out (by assumption) (.inr (by assumption)) (.inl (by omega))
               exact ⟨ret_two hzz.1 hzz.2, rfl⟩)
        · have hb4 : ((4 : Nat) : Int) < (s.size : Int) := by omega
          go_wp2
          all_goals first
            | (have hc : (128 : Int) ≤ (s[4].toNat : Int) := by assumption
               exact ⟨⟨5, _, rfl, rfl, by omega, by omega, tail_next (p := 268435456) (by rw [← size_list]; exact hlt1) (by omega) (by decide +kernel) HT.out (by assumption)⟩, by simp [intOf]⟩)
            | (have hz : ((s[4].toNat : Int) == 0) = true := by assumption
               try rw [Exit.noGoto_ret]
               go_ret2
               have hzz := tail_zero (k := 4) (by rw [← size_list]; exact hlt1) (by omega) HT.out (by omega) hz
               exact ⟨ret_two (by rw [hzz]; rfl) (by rw [hzz]; rfl), rfl⟩)
            | (have hc : (s[4].toNat : Int) < 128 := by assumption
               try rw [Exit.noGoto_ret]
               go_ret2
               have hzz := tail_last (p := 268435456) (by rw [← size_list]; exact hlt1) (by omega) (by decide +kernel) HT.out (by assumption) (.inr (by assumption)) (.inl (by omega))
               exact ⟨ret_two hzz.1 hzz.2, rfl⟩)
        · have hb5 : ((5 : Nat) : Int) < (s.size : Int) := by omega
          go_wp2
          all_goals first
            | (have hc : (128 : Int) ≤ (s[5].toNat : Int) := by assumption
               exact ⟨⟨6, _, rfl, rfl, by omega, by omega, tail_next (p := 34359738368) (by rw [← size_list]; exact hlt1) (by omega) (by decide +kernel) HT.out (by assumption)⟩, by simp [intOf]⟩)
            | (have hz : ((s[5].toNat : Int) == 0) = true := by assumption
               try rw [Exit.noGoto_ret]
               go_ret2
               have hzz := tail_zero (k := 5) (by rw [← size_list]; exact hlt1) (by omega) HT.out (by omega) hz
               exact ⟨ret_two (by rw [hzz]; rfl) (by rw [hzz]; rfl), rfl⟩)
            | (have hc : (s[5].toNat : Int) < 128 := by assumption
               try rw [Exit.noGoto_ret]
               go_ret2
               have hzz := tail_last (p := 34359738368) (by rw [← size_list]; exact hlt1) (by omega) (by decide +kernel) HT.out (by assumption) (.inr (by assumption)) (.inl (by omega))
               exact ⟨ret_two hzz.1 hzz.2, rfl⟩)
        · have hb6 : ((6 : Nat) : Int) < (s.size : Int) := by omega
          go_wp2
          all_goals first
            | (have hc : (128 : Int) ≤ (s[6].toNat : Int) := by assumption
               exact ⟨⟨7, _, rfl, rfl, by omega, by omega, tail_next (p := 4398046511104) (by rw [← size_list]; exact hlt1) (by omega) (by decide +kernel) HT.out (by assumption)⟩, by simp [intOf]⟩)
            | (have hz : ((s[6].toNat : Int) == 0) = true := by assumption
               try rw [Exit.noGoto_ret]
               go_ret2
               have hzz := tail_zero (k := 6) (by rw [← size_list]; exact hlt1) (by omega) HT.out (by omega) hz
               exact ⟨ret_two (by rw [hzz]; rfl) (by rw [hzz]; rfl), rfl⟩)
            | (have hc : (s[6].toNat : Int) < 128 := by assumption
               try rw [Exit.noGoto_ret]
               go_ret2
               have hzz := tail_last (p := 4398046511104) (by rw [← size_list]; exact hlt1) (by omega) (by decide +kernel) HT.out (by assumption) (.inr (by assumption)) (.inl (by omega))
               exact ⟨ret_two hzz.1 hzz.2, rfl⟩)
        · have hb7 : ((7 : Nat) : Int) < (s.size : Int) := by omega
          go_wp2
          all_goals first
            | (have hc : (128 : Int) ≤ (s[7].toNat : Int) := by assumption
               exact ⟨⟨8, _, rfl, rfl, by omega, by omega, tail_next (p := 562949953421312) (by rw [← size_list]; exact hlt1) (by omega) (by decide +kernel) HT.out (by assumption)⟩, by simp [intOf]⟩)
            | (have hz : ((s[7].toNat : Int) == 0) = true := by assumption
               try rw [Exit.noGoto_ret]
               go_ret2
               have hzz := tail_zero (k := 7) (by rw [← size_list]; exact hlt1) (by omega) HT.out (by omega) hz
               exact ⟨ret_two (by rw [hzz]; rfl) (by rw [hzz]; rfl), rfl⟩)
            | (have hc : (s[7].toNat : Int) < 128 := by assumption
               try rw [Exit.noGoto_ret]
               go_ret2
               have hzz := tail_last (p := 562949953421312) (by rw [← size_list]; exact hlt1) (by omega) (by decide +kernel) HT.out (by assumption) (.inr (by assumption)) (.inl (by omega))
               exact ⟨ret_two hzz.1 hzz.2, rfl⟩)
        · have hb8 : ((8 : Nat) : Int) < (s.size : Int) := by omega
          go_wp2
          all_goals first
            | (have hc : (128 : Int) ≤ (s[8].toNat : Int) := by assumption
               exact ⟨⟨9, _, rfl, rfl, by omega, by omega, tail_next (p := 72057594037927936) (by rw [← size_list]; exact hlt1) (by omega) (by decide +kernel) HT.out (by assumption)⟩, by simp [intOf]⟩)
            | (have hz : ((s[8].toNat : Int) == 0) = true := by assumption
               try rw [Exit.noGoto_ret]
               go_ret2
               have hzz := tail_zero (k := 8) (by rw [← size_list]; exact hlt1) (by omega) HT.out (by omega) hz
               exact ⟨ret_two (by rw [hzz]; rfl) (by rw [hzz]; rfl), rfl⟩)
            | (have hc : (s[8].toNat : Int) < 128 := by assumption
               try rw [Exit.noGoto_ret]
               go_ret2
               have hzz := tail_last (p := 72057594037927936) (by rw [← size_list]; exact hlt1) (by omega) (by decide +kernel) HT.out (by assumption) (.inr (by assumption)) (.inl (by omega))
               exact ⟨ret_two hzz.1 hzz.2, rfl⟩)
        · have hb9 : ((9 : Nat) : Int) < (s.size : Int) := by omega
          go_wp2
          all_goals first
            | (have hc : (128 : Int) ≤ (s[9].toNat : Int) := by assumption
               exact ⟨⟨10, _, rfl, rfl, by omega, by omega, tail_next (p := 9223372036854775808) (by rw [← size_list]; exact hlt1) (by omega) (by decide +kernel) HT.out (by assumption)⟩, by simp [intOf]⟩)
            | (have hz : ((s[9].toNat : Int) == 0) = true := by assumption
               try rw [Exit.noGoto_ret]
               go_ret2
               have hzz := tail_zero (k := 9) (by rw [← size_list]; exact hlt1) (by omega) HT.out (by omega) hz
               exact ⟨ret_two (by rw [hzz]; rfl) (by rw [hzz]; rfl), rfl⟩)
            | (have hz : (1 : Int) < (s[9].toNat : Int) := by assumption
               try rw [Exit.noGoto_ret]
               go_ret2
               have hzz := tail_great (by rw [← size_list]; exact hlt1) HT.out hz (by assumption)
               exact ⟨ret_two (by rw [hzz]; rfl) (by rw [hzz]; rfl), rfl⟩)
            | (have hc : (s[9].toNat : Int) < 128 := by assumption
               try rw [Exit.noGoto_ret]
               go_ret2
               have hzz := tail_last (p := 9223372036854775808) (by rw [← size_list]; exact hlt1) (by omega) (by decide +kernel) HT.out (by assumption) (.inr (by assumption)) (.inr (by assumption))
               exact ⟨ret_two hzz.1 hzz.2, rfl⟩)
      · have hout := tail_out (by rwa [← size_list]) HT.out
        have HO : Hid (numOf s.data.toList = (0, 0)) := hout
        have hge : ¬ ((k : Int) < (s.size : Int) ∧ (k : Int) < 10) := by omega
        clear hout
        go_wp2
        try rw [Exit.noGoto_ret]
        go_ret2
        exact ⟨ret_two (by rw [HO.out]; rfl) (by rw [HO.out]; rfl), rfl⟩

end Go.Proofs.YtbdbefgfejdbjaaGreat
