/-
  The document's answers for quorum: Check, Wins.
-/
import Derived.Test.YtdoiknfpgmglaaaURef
import Derived.Test.YtdoiknfpgmglaaaUWin
namespace Go.Proofs.Ytdoiknfpgmglaaa
open Go.RowKit Go.BigFrame

set_option maxHeartbeats 1000000 in
theorem RCheck_any (q : Option Addr) (cap : Nat) (l : List Int) (w : World) (h : IArg w q l) (hl : l.length ≤ 9223372036854775807) :
    Calls Try.prog 11 #[.slice q l.length cap] w fun e w' => e = .returned (.int .i64 (if chk l = true then 0 else 2)) ∧ Below w.heap.size w w' := by
  have hm := RMay_any q cap l w h hl
  by_cases hk : chk l = true
  · rw [if_pos hk]
    rw [hk] at hm
    clear hk
    go_enter Try.func11, Try.ntmps11
    go_wp2_with fail
    refine hm.mono ?_
    rintro e w1 ⟨rfl, hb⟩
    go_wp2
    go_ret
    exact ⟨rfl, hb⟩
  · rw [if_neg hk]
    have hk : chk l = false := by simpa using hk
    rw [hk] at hm
    clear hk
    go_enter Try.func11, Try.ntmps11
    go_wp2_with fail
    refine hm.mono ?_
    rintro e w1 ⟨rfl, hb⟩
    go_wp2
    go_ret
    exact ⟨rfl, hb⟩

set_option maxHeartbeats 4000000 in
set_option maxRecDepth 100000 in
theorem RWins_any (q : Option Addr) (cap : Nat) (l : List Int) (q2 : Option Addr) (cap2 : Nat) (y : List Int) (w : World) (h : IArg w q l) (hl : l.length ≤ 9223372036854775807) (h2 : IArg w q2 y) (hy : y.length ≤ 9223372036854775807) :
    Calls Try.prog 17 #[.slice q l.length cap, .slice q2 y.length cap2] w fun e w' => e = .returned (.bool (win l y)) ∧ Below w.heap.size w w' := by
  have hm := RMay_any q cap l w h hl
  obtain ⟨r, hr⟩ : ∃ r, r = win l y := ⟨_, rfl⟩
  rw [← hr]
  have HR : Hid (r = (chk l && decide (most l ≤ cntY l y))) := hr
  clear hr
  go_enter Try.func17, Try.ntmps17
  go_wp2
  go_loopw [5, 6] (fun s5 s6 wr => ∃ i : Nat, s6 = .int .i64 (i : Int) ∧ i ≤ l.length ∧ s5 = .int .i64 (cntY (l.take i) y : Int) ∧ wr = w) (fun _ s6 _ => l.length - (intOf s6).toNat)
  case atStart => exact ⟨0, rfl, Nat.zero_le _, rfl, rfl⟩
  case round =>
    obtain ⟨i, rfl, hil, rfl, rfl⟩ := hrel
    by_cases hlt : i < l.length
    · have hi1 : (i : Int) < (l.length : Int) := by omega
      obtain ⟨b, off, rfl, hr9⟩ := h (by omega)
      have c0 := hr9 i hlt
      have HT : Hid _ := cntY_take l y i hlt
      have hcn := cntY_le (l.take i) y
      have hcl : (l.take i).length ≤ i := by rw [List.length_take]; omega
      obtain ⟨n, hnn⟩ : ∃ n, n = cntY (l.take i) y := ⟨_, rfl⟩
      rw [← hnn] at hcn HT ⊢
      have hnb : n < 9223372036854775807 := by omega
      obtain ⟨x, hx⟩ : ∃ x, x = l[i] := ⟨_, rfl⟩
      rw [← hx] at c0 HT
      clear hx hr9 hnn hcl hcn
      have hh := RHas_any q2 cap2 y x wr h2 hy
      by_cases e : x ∈ y
      · have e' : decide (x ∈ y) = true := decide_eq_true e
        rw [e'] at hh
        have HT2 : Hid (cntY (l.take (i + 1)) y = n + 1) := by
          show _ = _
          rw [HT.out, if_pos e]
        clear HT e e'
        go_wp2_with fail
        refine hh.mono ?_
        rintro e w1 ⟨rfl, rfl⟩
        go_wp2
        go_roundw
        case rel => exact ⟨i + 1, by go_num, by omega, by rw [HT2.out]; go_num, trivial⟩
        case measure => simp [intOf]; omega
      · have e' : decide (x ∈ y) = false := decide_eq_false e
        rw [e'] at hh
        have HT2 : Hid (cntY (l.take (i + 1)) y = n) := by
          show _ = _
          rw [HT.out, if_neg e]
          rfl
        clear HT e e'
        go_wp2_with fail
        refine hh.mono ?_
        rintro e w1 ⟨rfl, rfl⟩
        go_wp2
        go_roundw
        case rel => exact ⟨i + 1, by go_num, by omega, by rw [HT2.out], trivial⟩
        case measure => simp [intOf]; omega
    · obtain rfl : i = l.length := by omega
      rw [List.take_length]
      have hcn := cntY_le l y
      generalize cntY l y = n at *
      have hM := fun w => RMost_any q cap l w hl
      generalize most l = k at *
      cases hk : chk l with
      | false =>
        have hr : r = false := by rw [HR.out, hk]; rfl
        subst hr
        rw [hk] at hm
        clear hk
        go_wp2_with fail
        refine hm.mono ?_
        rintro e w1 ⟨rfl, hb⟩
        go_wp2
        go_ret
        exact ⟨rfl, hb⟩
      | true =>
        have HRR : Hid (r = decide (k ≤ n)) := by show _ = _; rw [HR.out, hk]; rfl
        rw [hk] at hm
        clear hk
        go_wp2_with fail
        refine hm.mono ?_
        rintro e w1 ⟨rfl, hb⟩
        go_wp2_with fail
        refine (hM w1).mono ?_
        rintro e w2 ⟨rfl, rfl⟩
        go_wp2
        go_ret
        exact ⟨by rw [HRR.out]; rfl, hb⟩

end Go.Proofs.Ytdoiknfpgmglaaa
