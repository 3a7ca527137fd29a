/-
  quorum.Meet.
-/
import Derived.Test.YtdoiknfpgmglaabUChk
namespace Go.Proofs.Ytdoiknfpgmglaab
open Go.RowKit Go.BigFrame

def meet (a b : List Int) : Bool := chk a && chk b && decide ((lst (mk (mk 0 a) b)).length < most a + most b)
theorem lla_two (w : World) (q q2 : Option Addr) (c c2 : Nat) (l m : List Int) (h : IArg w q l) (h2 : IArg w q2 m) (hl : l.length ≤ 9223372036854775807) (hm : m.length ≤ 9223372036854775807) (t : TypeId) : LLA (w.alloc (.cells #[.slice q l.length c, .slice q2 m.length c2] t)) w.heap.size [(q, c, l), (q2, c2, m)] := by
  intro i hi
  have hb := (Below.refl w.heap.size w).alloc (Nat.le_refl _) (.cells #[.slice q l.length c, .slice q2 m.length c2] t)
  rcases (by simp at hi; omega : i = 0 ∨ i = 1) with rfl | rfl
  · exact ⟨(mcells (heap_alloc_new w _)).1 0, h.below hb, hl⟩
  · exact ⟨(mcells (heap_alloc_new w _)).1 1, h2.below hb, hm⟩

set_option maxHeartbeats 4000000 in
set_option maxRecDepth 100000 in
theorem Meet_any (q : Option Addr) (cap : Nat) (l : List Int) (q2 : Option Addr) (cap2 : Nat) (y : List Int) (w : World) (h : IArg w q l) (hl : l.length ≤ 9223372036854775807) (h2 : IArg w q2 y) (hy : y.length ≤ 9223372036854775807) :
    Calls Try.prog 8 #[.slice q l.length cap, .slice q2 y.length cap2] w fun e w' => e = .returned (.bool (meet l y)) ∧ Below w.heap.size w w' := by
  have hc := Check_any q cap l w h hl
  obtain ⟨r, hr⟩ : ∃ r, r = meet l y := ⟨_, rfl⟩
  rw [← hr]
  have HR : Hid (r = meet l y) := hr
  clear hr
  by_cases hk : chk l = true
  case neg =>
    have hr : r = false := by rw [HR.out]; unfold meet; simp [hk]
    subst hr
    rw [if_neg hk] at hc
    clear hk
    go_enter Try.func8, Try.ntmps8
    go_wp2_with fail
    refine hc.mono ?_
    rintro e w1 ⟨rfl, hb1⟩
    go_wp2
    go_ret
    exact ⟨rfl, hb1⟩
  case pos =>
  rw [if_pos hk] at hc
  have HK : Hid (chk l = true) := hk
  have hln := chk_len hk
  clear hk
  go_enter Try.func8, Try.ntmps8
  go_wp2_with fail
  refine hc.mono ?_
  rintro e w1 ⟨rfl, hb1⟩
  have hc2 := Check_any q2 cap2 y w1 (h2.below hb1) hy
  by_cases hk2 : chk y = true
  case neg =>
    have hr : r = false := by rw [HR.out]; unfold meet; simp [hk2]
    subst hr
    rw [if_neg hk2] at hc2
    clear hk2
    go_wp2_with fail
    refine hc2.mono ?_
    rintro e w2 ⟨rfl, hb2⟩
    have hB2 := below2 hb1 hb2
    go_wp2
    go_ret
    exact ⟨rfl, hB2⟩
  case pos =>
  rw [if_pos hk2] at hc2
  have hln2 := chk_len hk2
  have hr : Hid (r = decide ((lst (mk (mk 0 l) y)).length < most l + most y)) := by
    show _ = _
    rw [HR.out]
    unfold meet
    simp [hk2, HK.out]
  have h5 : (lst (mk (mk 0 l) y)).length ≤ 5 := lstI_len _ 5
  have hm1 : most l ≤ 3 := by unfold most; omega
  have hm2 : most y ≤ 3 := by unfold most; omega
  clear HR hk2
  go_wp2_with fail
  refine hc2.mono ?_
  rintro e w2 ⟨rfl, hb2⟩
  have hB2 := below2 hb1 hb2
  go_wp2_with fail
  refine (Most_any q cap l w2 hl).mono ?_
  rintro e w3 ⟨rfl, rfl⟩
  go_wp2_with fail
  refine (Most_any q2 cap2 y w3 hy).mono ?_
  rintro e w4 ⟨rfl, rfl⟩
  have hn := nodes_any w4.heap.size 2 [(q, cap, l), (q2, cap2, y)] _ (lla_two w4 q q2 cap cap2 l y (h.below hB2) (h2.below hB2) hl hy 22) (by simp)
  have em : mkA 0 [(q, cap, l), (q2, cap2, y)] = mk (mk 0 l) y := rfl
  rw [em] at hn
  clear em hc hc2
  have e1 : wrap64 ((most l : Int) + (most y : Int)) = ((most l + most y : Nat) : Int) := by unfold wrap64; omega
  generalize most l = a at *
  generalize most y = b at *
  generalize mk (mk 0 l) y = m at *
  go_wp2_with fail
  refine hn.mono ?_
  rintro e w5 ⟨rfl, hb5⟩
  have hB5 : Below w.heap.size w w5 := below2 hB2 ((bel_alloc (Below.refl _ _) (Nat.le_refl _) _).trans (hb5.mono (by simp)))
  go_wp2_with fail
  refine (list_any m _).mono ?_
  rintro e w6 ⟨v, rfl, hown, hb6⟩
  obtain ⟨hnl, q6, cap6, rfl, hI6⟩ := own_iarg hown
  have hB6 := below2 hB5 hb6
  clear hown hnl
  generalize (lst m).length = n at *
  have HO : Hid (r = decide ((n : Int) < ((a + b : Nat) : Int))) := by
    show _ = _
    rw [hr.out]
    exact decide_eq_decide.2 (by omega)
  clear hr
  go_wp2
  go_ret
  exact ⟨by rw [HO.out, Int.natCast_add]; rfl, hB6⟩

end Go.Proofs.Ytdoiknfpgmglaab
