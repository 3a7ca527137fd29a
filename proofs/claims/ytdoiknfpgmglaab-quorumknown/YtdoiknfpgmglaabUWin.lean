/-
  quorum.Wins.
-/
import Derived.Test.YtdoiknfpgmglaabUChk
namespace Go.Proofs.Ytdoiknfpgmglaab
open Go.RowKit Go.BigFrame

set_option maxHeartbeats 4000000 in
set_option maxRecDepth 100000 in
theorem Wins_any (q : Option Addr) (cap : Nat) (l : List Int) (q2 : Option Addr) (cap2 : Nat) (y : List Int) (w : World) (h : IArg w q l) (hl : l.length ≤ 9223372036854775807) (h2 : IArg w q2 y) (hy : y.length ≤ 9223372036854775807) :
    Calls Try.prog 6 #[.slice q l.length cap, .slice q2 y.length cap2] w fun e w' => e = .returned (.bool (win l y)) ∧ Below w.heap.size w w' := by
  have hc := Check_any q cap l w h hl
  obtain ⟨r, hr⟩ : ∃ r, r = win l y := ⟨_, rfl⟩
  rw [← hr]
  have HR : Hid (r = win l y) := hr
  clear hr
  by_cases hk : chk l = true
  case neg =>
    have hr : r = false := by rw [HR.out]; unfold win; simp [hk]
    subst hr
    rw [if_neg hk] at hc
    clear hk
    go_enter Try.func6, Try.ntmps6
    go_wp2_with fail
    refine hc.mono ?_
    rintro e w1 ⟨rfl, hb1⟩
    go_wp2
    go_ret
    exact ⟨rfl, hb1⟩
  case pos =>
  rw [if_pos hk] at hc
  have HK : Hid (chk l = true) := hk
  have hln := chk_len hk
  have hr : Hid (r = decide (most l ≤ cntY l y)) := by
    show _ = _
    rw [HR.out]
    unfold win
    simp [hk]
  clear hk HR
  go_enter Try.func6, Try.ntmps6
  go_wp2_with fail
  refine hc.mono ?_
  rintro e w1 ⟨rfl, hb1⟩
  have hn := nodes_any w1.heap.size 1 [(q2, cap2, y)] _ (lla_one w1 q2 cap2 y (h2.below hb1) hy 22) (by simp)
  have em : mkA 0 [(q2, cap2, y)] = mk 0 y := rfl
  rw [em] at hn
  clear em
  go_wp2_with fail
  refine hn.mono ?_
  rintro e w2 ⟨rfl, hb2⟩
  have hB2 : Below w.heap.size w w2 := below2 hb1 ((bel_alloc (Below.refl _ _) (Nat.le_refl _) _).trans (hb2.mono (by simp)))
  unfold ndV
  obtain ⟨a0, a1, a2, a3, a4, fz⟩ := nd_newc w2
  have hN := nd_alloc w2 (mk 0 y)
  have hB3 := bel_alloc hB2 (Nat.le_refl _) (.cells #[.bool (bt (mk 0 y) 0), .bool (bt (mk 0 y) 1), .bool (bt (mk 0 y) 2), .bool (bt (mk 0 y) 3), .bool (bt (mk 0 y) 4)] 37)
  have hI := h.below hB3
  have HS : Hid (∀ i (hi : i < l.length), bt (mk 0 y) l[i].toNat = decide (l[i] ∈ y)) := fun i hi => said_iff HK.out i hi
  have HMay : Hid (∀ j (_ : j < l.length), 0 ≤ l[j] ∧ l[j] < 5) := (chk_may HK.out).2.1
  clear hc hn hb1 hb2 hB2
  go_wp2
  generalize w2.alloc (.cells #[.bool (bt (mk 0 y) 0), .bool (bt (mk 0 y) 1), .bool (bt (mk 0 y) 2), .bool (bt (mk 0 y) 3), .bool (bt (mk 0 y) 4)] 37) = W at *
  clear a0 a1 a2 a3 a4 fz
  go_loopw [6, 17] (fun s6 s17 wr => ∃ i : Nat, s17 = .int .i64 (i : Int) ∧ i ≤ l.length ∧ s6 = .int .i64 (cntY (l.take i) y : Int) ∧ wr = W) (fun _ s17 _ => l.length - (intOf s17).toNat)
  case atStart => exact ⟨0, rfl, Nat.zero_le _, rfl, rfl⟩
  case round =>
    obtain ⟨i, rfl, hil, rfl, rfl⟩ := hrel
    by_cases hlt : i < l.length
    · have hi1 : (i : Int) < (l.length : Int) := by omega
      obtain ⟨b, off, rfl, hr9⟩ := hI (by omega)
      have c0 := hr9 i hlt
      have HT : Hid _ := cntY_take l y i hlt
      have hs := HS.out i hlt
      have hm := HMay.out i hlt
      have hcn := cntY_le (l.take i) y
      have hcl : (l.take i).length ≤ 5 := by rw [List.length_take]; omega
      obtain ⟨n, hnn⟩ : ∃ n, n = cntY (l.take i) y := ⟨_, rfl⟩
      rw [← hnn] at hcn HT ⊢
      obtain ⟨x, hx⟩ : ∃ x, x = l[i] := ⟨_, rfl⟩
      rw [← hx] at c0 hs hm HT
      clear hx hr9 hnn
      obtain ⟨k, rfl⟩ : ∃ k : Nat, x = (k : Int) := ⟨x.toNat, by omega⟩
      rw [Int.toNat_natCast] at hs
      have hk5 : k < 5 := by omega
      have c2 := hN.at_ hk5
      have hk6 : (k : Int) < 5 := by omega
      rw [hs] at c2
      by_cases e : (k : Int) ∈ y
      · have e' : decide ((k : Int) ∈ y) = true := decide_eq_true e
        rw [e'] at c2
        have HT2 : Hid (cntY (l.take (i + 1)) y = n + 1) := by
          show _ = _
          rw [HT.out, if_pos e]
        clear HT hs e e'
        go_wp2
        go_roundw
        case rel => exact ⟨i + 1, by go_num, by omega, by rw [HT2.out]; go_num, trivial⟩
        case measure => simp [intOf]; omega
      · have e' : decide ((k : Int) ∈ y) = false := decide_eq_false e
        rw [e'] at c2
        have HT2 : Hid (cntY (l.take (i + 1)) y = n) := by
          show _ = _
          rw [HT.out, if_neg e]
          rfl
        clear HT hs e e'
        go_wp2
        go_roundw
        case rel => exact ⟨i + 1, by go_num, by omega, by rw [HT2.out], trivial⟩
        case measure => simp [intOf]; omega
    · obtain rfl : i = l.length := by omega
      rw [List.take_length]
      have hcn := cntY_le l y
      generalize cntY l y = n at *
      go_wp2_with fail
      refine (Most_any q cap l wr hl).mono ?_
      rintro e w3 ⟨rfl, rfl⟩
      generalize most l = k at *
      go_wp2
      go_ret
      exact ⟨by rw [hr.out]; rfl, hB3⟩

end Go.Proofs.Ytdoiknfpgmglaab
