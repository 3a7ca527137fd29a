/-
  Cut where it cuts nothing; Get where there is nothing.
-/
import Derived.Test.YtpldfakfgngaaaaGreatDoorWCut
namespace Go.Proofs.YtpldfakfgngaaaaGreatDoor
open Go.RowKit
attribute [local go_sem] size_bstr toList_bstr append_bstr

set_option maxHeartbeats 600000 in
theorem Cut_arg {k : Wk} {F : List Wf} {v : Value} (c : Nat) (w : World) (h : Wm w k F v) (h1 : c < fstF (Pw F)) :
    Calls Tryz.prog 18 #[.pointer (some ⟨k.g, 0, none⟩), .int .u64 (c : Int)] w fun e w' => e = .returned (.int .i64 2) ∧ w' = w := by
  have hn := wnone_any w h
  have hfi := First_any w h
  obtain ⟨a1, ha1⟩ : ∃ a1, a1 = fstF (Pw F) := ⟨_, rfl⟩
  rw [← ha1] at hfi h1
  have g1 : (c : Int) < (a1 : Int) := by omega
  clear ha1
  go_enter Tryz.func18, Tryz.ntmps18
  go_wp2_with fail
  refine hn.mono ?_
  rintro e w1 ⟨rfl, rfl⟩
  go_wp2_with fail
  refine hfi.mono ?_
  rintro e w2 ⟨rfl, hw2⟩
  obtain rfl : w1 = w2 := hw2.symm
  clear hw2
  go_wp2
  go_ret
  exact ⟨rfl, rfl⟩

set_option maxHeartbeats 600000 in
theorem Cut_over {k : Wk} {F : List Wf} {v : Value} (c : Nat) (w : World) (h : Wm w k F v) (hl : F.length ≤ 1000000) (h1 : fstF (Pw F) ≤ c) (h2 : nxtF (Pw F) ≤ c) (hnx : nxtF (Pw F) < 18446744073709551616) :
    Calls Tryz.prog 18 #[.pointer (some ⟨k.g, 0, none⟩), .int .u64 (c : Int)] w fun e w' => e = .returned (.int .i64 0) ∧ Below w.heap.size w w' := by
  have hn := wnone_any w h
  have hfi := First_any w h
  have hnt := Next_any w h (by omega) hnx
  obtain ⟨a1, ha1⟩ : ∃ a1, a1 = fstF (Pw F) := ⟨_, rfl⟩
  obtain ⟨a2, ha2⟩ : ∃ a2, a2 = nxtF (Pw F) := ⟨_, rfl⟩
  rw [← ha1] at hfi h1
  rw [← ha2] at hnt h2
  have g1 : ¬ (c : Int) < (a1 : Int) := by omega
  have g2 : (a2 : Int) ≤ (c : Int) := by omega
  clear ha1 ha2
  go_enter Tryz.func18, Tryz.ntmps18
  go_wp2_with fail
  refine hn.mono ?_
  rintro e w1 ⟨rfl, rfl⟩
  go_wp2_with fail
  refine hfi.mono ?_
  rintro e w2 ⟨rfl, hw2⟩
  obtain rfl : w1 = w2 := hw2.symm
  clear hw2
  go_wp2_with fail
  refine hnt.mono ?_
  rintro e w2 ⟨rfl, hb2⟩
  go_wp2
  go_ret
  exact ⟨rfl, hb2⟩

set_option maxHeartbeats 600000 in
theorem Get_none {k : Wk} {F : List Wf} {v : Value} (c : Nat) (w : World) (h : Wm w k F v) (hl : F.length ≤ 1000000) (h1 : c < fstF (Pw F) ∨ nxtF (Pw F) ≤ c) (hnx : nxtF (Pw F) < 18446744073709551616) :
    Calls Tryz.prog 22 #[.pointer (some ⟨k.g, 0, none⟩), .int .u64 (c : Int)] w fun e w' => e = .returned (.tuple #[.string ⟨#[]⟩, .int .i64 5]) ∧ Below w.heap.size w w' := by
  have hn := wnone_any w h
  have hfi := First_any w h
  have hnt := Next_any w h (by omega) hnx
  obtain ⟨a1, ha1⟩ : ∃ a1, a1 = fstF (Pw F) := ⟨_, rfl⟩
  obtain ⟨a2, ha2⟩ : ∃ a2, a2 = nxtF (Pw F) := ⟨_, rfl⟩
  rw [← ha1] at hfi h1
  rw [← ha2] at hnt h1
  clear ha1 ha2
  by_cases hlt : c < a1
  · have g1 : (c : Int) < (a1 : Int) := by omega
    go_enter Tryz.func22, Tryz.ntmps22
    go_wp2_with fail
    refine hn.mono ?_
    rintro e w1 ⟨rfl, rfl⟩
    go_wp2_with fail
    refine hfi.mono ?_
    rintro e w2 ⟨rfl, hw2⟩
    obtain rfl : w1 = w2 := hw2.symm
    clear hw2
    go_wp2
    go_ret2
    exact ⟨rfl, Below.refl _ _⟩
  · have g1 : ¬ (c : Int) < (a1 : Int) := by omega
    have g2 : (a2 : Int) ≤ (c : Int) := by omega
    go_enter Tryz.func22, Tryz.ntmps22
    go_wp2_with fail
    refine hn.mono ?_
    rintro e w1 ⟨rfl, rfl⟩
    go_wp2_with fail
    refine hfi.mono ?_
    rintro e w2 ⟨rfl, hw2⟩
    obtain rfl : w1 = w2 := hw2.symm
    clear hw2
    go_wp2_with fail
    refine hnt.mono ?_
    rintro e w2 ⟨rfl, hb2⟩
    go_wp2
    go_ret2
    exact ⟨rfl, hb2⟩

end Go.Proofs.YtpldfakfgngaaaaGreatDoor
