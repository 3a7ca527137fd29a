/-
  quorum.Check, Wins.
-/
import Derived.Test.YtdoiknfpgmglaabUNd
import Derived.Test.YtdoiknfpgmglaabULs
import Derived.Test.YtdoiknfpgmglaabUEql
import Derived.Test.YtdoiknfpgmglaabUFn
namespace Go.Proofs.Ytdoiknfpgmglaab
open Go.RowKit Go.BigFrame

theorem lla_one (w : World) (q : Option Addr) (c : Nat) (l : List Int) (h : IArg w q l) (hl : l.length ≤ 9223372036854775807) (t : TypeId) : LLA (w.alloc (.cells #[.slice q l.length c] t)) w.heap.size [(q, c, l)] := by
  intro i hi
  obtain rfl : i = 0 := by simp at hi; omega
  exact ⟨(mcells (heap_alloc_new w _)).1 0, h.below ((Below.refl _ _).alloc (Nat.le_refl _) _), hl⟩
theorem bt_zero (i : Nat) : bt 0 i = false := Nat.zero_testBit i
theorem nd_alloc (w : World) (m : Nat) : NdB (w.alloc (.cells #[.bool (bt m 0), .bool (bt m 1), .bool (bt m 2), .bool (bt m 3), .bool (bt m 4)] 37)) w.heap.size m := heap_alloc_new w _
theorem nd_newc (w : World) : (w.alloc (.cells #[.bool false, .bool false, .bool false, .bool false, .bool false] 37)).cell? ⟨w.heap.size, 0, none⟩ = some (.bool false) ∧ (w.alloc (.cells #[.bool false, .bool false, .bool false, .bool false, .bool false] 37)).cell? ⟨w.heap.size, 1, none⟩ = some (.bool false) ∧ (w.alloc (.cells #[.bool false, .bool false, .bool false, .bool false, .bool false] 37)).cell? ⟨w.heap.size, 2, none⟩ = some (.bool false) ∧ (w.alloc (.cells #[.bool false, .bool false, .bool false, .bool false, .bool false] 37)).cell? ⟨w.heap.size, 3, none⟩ = some (.bool false) ∧ (w.alloc (.cells #[.bool false, .bool false, .bool false, .bool false, .bool false] 37)).cell? ⟨w.heap.size, 4, none⟩ = some (.bool false) ∧ ∀ o, (w.alloc (.cells #[.bool false, .bool false, .bool false, .bool false, .bool false] 37)).frozen? ⟨w.heap.size, o, none⟩ = false := by
  have h := mcells (heap_alloc_new w (.cells #[.bool false, .bool false, .bool false, .bool false, .bool false] 37))
  exact ⟨h.1 0, h.1 1, h.1 2, h.1 3, h.1 4, h.2⟩
theorem nd_newm (w : World) (m : Nat) : (w.alloc (.cells #[.bool (bt m 0), .bool (bt m 1), .bool (bt m 2), .bool (bt m 3), .bool (bt m 4)] 37)).cell? ⟨w.heap.size, 0, none⟩ = some (.bool (bt m 0)) ∧ (w.alloc (.cells #[.bool (bt m 0), .bool (bt m 1), .bool (bt m 2), .bool (bt m 3), .bool (bt m 4)] 37)).cell? ⟨w.heap.size, 1, none⟩ = some (.bool (bt m 1)) ∧ (w.alloc (.cells #[.bool (bt m 0), .bool (bt m 1), .bool (bt m 2), .bool (bt m 3), .bool (bt m 4)] 37)).cell? ⟨w.heap.size, 2, none⟩ = some (.bool (bt m 2)) ∧ (w.alloc (.cells #[.bool (bt m 0), .bool (bt m 1), .bool (bt m 2), .bool (bt m 3), .bool (bt m 4)] 37)).cell? ⟨w.heap.size, 3, none⟩ = some (.bool (bt m 3)) ∧ (w.alloc (.cells #[.bool (bt m 0), .bool (bt m 1), .bool (bt m 2), .bool (bt m 3), .bool (bt m 4)] 37)).cell? ⟨w.heap.size, 4, none⟩ = some (.bool (bt m 4)) :=
  NdB.c (b := w.heap.size) (heap_alloc_new w _)
theorem bt_eq : ∀ m < 32, ((bt m 0 == false) && (bt m 1 == false) && (bt m 2 == false) && (bt m 3 == false) && (bt m 4 == false)) = decide (m = 0) := by decide +kernel

set_option maxHeartbeats 4000000 in
set_option maxRecDepth 100000 in
theorem Check_any (q : Option Addr) (cap : Nat) (l : List Int) (w : World) (h : IArg w q l) (hl : l.length ≤ 9223372036854775807) :
    Calls Try.prog 5 #[.slice q l.length cap] w fun e w' => e = .returned (.int .i64 (if chk l = true then 0 else 2)) ∧ Below w.heap.size w w' := by
  have HCH : Hid (chk l = (decide (mk 0 l ≠ 0) && decide (lst (mk 0 l) = l))) := rfl
  have hn := nodes_any w.heap.size 1 [(q, cap, l)] _ (lla_one w q cap l h hl 22) (by simp)
  have hm : mk 0 l < 32 := mk_lt l (by decide)
  have em : mkA 0 [(q, cap, l)] = mk 0 l := rfl
  rw [em] at hn
  obtain ⟨m, hm'⟩ : ∃ m, m = mk 0 l := ⟨_, rfl⟩
  rw [← hm'] at hn hm HCH
  clear hm' em
  obtain ⟨r, hr⟩ : ∃ r : Int, r = if chk l = true then 0 else 2 := ⟨_, rfl⟩
  rw [← hr]
  have HR : Hid _ := hr
  clear hr
  have q0 := fun w => nd_eql (bt m 0) (bt m 1) (bt m 2) (bt m 3) (bt m 4) false false false false false w
  rw [bt_eq m hm] at q0
  go_enter Try.func5, Try.ntmps5
  go_wp2_with fail
  refine hn.mono ?_
  rintro e w1 ⟨rfl, hb1⟩
  have hB1 : Below w.heap.size w w1 := (bel_alloc (Below.refl _ _) (Nat.le_refl _) _).trans (hb1.mono (by simp))
  unfold ndV
  obtain ⟨a0, a1, a2, a3, a4, fz⟩ := nd_newc w1
  obtain ⟨b0, b1, b2, b3, b4⟩ := nd_newm w1 m
  have hB2 := bel_alloc hB1 (Nat.le_refl _) (.cells #[.bool (bt m 0), .bool (bt m 1), .bool (bt m 2), .bool (bt m 3), .bool (bt m 4)] 37)
  by_cases hm0 : m = 0
  · have hd : decide (m = 0) = true := decide_eq_true hm0
    rw [hd] at q0
    have hr : r = 2 := by
      rw [HR.out, if_neg]
      rw [HCH.out]
      simp [hm0]
    subst hr
    clear hm0 hd
    go_wp2
    go_ret
    exact ⟨rfl, hB2⟩
  · have hd : decide (m = 0) = false := decide_eq_false hm0
    rw [hd] at q0
    have HM0 : Hid (m ≠ 0) := hm0
    clear hd
    go_wp2_with fail
    refine (list_any m _).mono ?_
    rintro e w2 ⟨v, rfl, hown, hb2⟩
    obtain ⟨hnl, q2, cap2, rfl, hI2⟩ := own_iarg hown
    have hB3 := below2 hB2 hb2
    have hll : (lst m).length ≤ 9223372036854775807 := by rw [lst_len m hm]; have := pop_pos m hm (by omega); omega
    generalize lst m = L at *
    clear hown hnl hm hm0 q0
    have hI := h.below hB3
    have hE := Equal_any q2 cap2 L q cap l w2 hI2 hI hll
    by_cases hLl : L = l
    · have hd : decide (L = l) = true := decide_eq_true hLl
      rw [hd] at hE HCH
      have hr : r = 0 := by
        rw [HR.out, if_pos]
        rw [HCH.out]
        simp [HM0.out]
      subst hr
      clear hLl hd
      go_wp2_with fail
      refine hE.mono ?_
      rintro e w3 ⟨rfl, hb3⟩
      have hB4 := below2 hB3 hb3
      go_wp2
      go_ret
      exact ⟨rfl, hB4⟩
    · have hd : decide (L = l) = false := decide_eq_false hLl
      rw [hd] at hE HCH
      have hr : r = 2 := by
        rw [HR.out, if_neg]
        rw [HCH.out]
        simp
      subst hr
      clear hLl hd
      go_wp2_with fail
      refine hE.mono ?_
      rintro e w3 ⟨rfl, hb3⟩
      have hB4 := below2 hB3 hb3
      go_wp2
      go_ret
      exact ⟨rfl, hB4⟩

end Go.Proofs.Ytdoiknfpgmglaab
