/-
  The law QuorumAsks.
-/
import Derived.Test.YtdoiknfpgmglaaaULaw
import Derived.Test.YtdoiknfpgmglaaaUSam
import Derived.Test.YtdoiknfpgmglaaaURMt
namespace Go.Proofs.Ytdoiknfpgmglaaa
open Go.RowKit Go.BigFrame

set_option maxHeartbeats 16000000 in
set_option maxRecDepth 100000 in
theorem QAsks_any (q : Option Addr) (cap : Nat) (l : List Int) (q2 : Option Addr) (cap2 : Nat) (m : List Int) (x : Int) (w : World) (h : IArg w q l) (hl : l.length ≤ 9223372036854775807) (hc : l.length ≤ cap) (hnil : q = none → l = [] ∧ cap = 0) (h2 : IArg w q2 m) (hl2 : m.length ≤ 9223372036854775807) (hc2 : m.length ≤ cap2) (hnil2 : q2 = none → m = [] ∧ cap2 = 0) :
    Calls Try.prog 3 #[.slice q l.length cap, .slice q2 m.length cap2, .int .i64 x] w fun e w' => e = .returned (.bool true) ∧ Below w.heap.size w w' := by
  have lA : (l.take 50).length ≤ 9223372036854775807 := by rw [List.length_take]; omega
  have lB : (m.take 50).length ≤ 9223372036854775807 := by rw [List.length_take]; omega
  have ho := fun w h => own_any q cap l w h hl hc hnil
  have ho2 := fun w h => own_any q2 cap2 m w h hl2 hc2 hnil2
  generalize l.take 50 = A at *
  generalize m.take 50 = B at *
  go_enter Try.func3, Try.ntmps3
  go_wp2_with fail
  refine (ho w h).mono ?_
  rintro e w1 ⟨v, rfl, hown, hb1⟩
  obtain ⟨_, p1, c1, rfl, hI1⟩ := own_iarg hown
  clear hown
  go_wp2_with fail
  refine (ho2 w1 (h2.below hb1)).mono ?_
  rintro e w2 ⟨v, rfl, hown, hb2⟩
  obtain ⟨_, p2, c2, rfl, hI2⟩ := own_iarg hown
  have hB2 := below2 hb1 hb2
  have hI1 := hI1.below hb2
  clear hown hb1 hb2
  go_wp2_with fail
  refine (ho w2 (h.below hB2)).mono ?_
  rintro e w3 ⟨v, rfl, hown, hb3⟩
  obtain ⟨_, p3, c3, rfl, hI3⟩ := own_iarg hown
  have hB3 := below2 hB2 hb3
  have hI1 := hI1.below hb3
  have hI2 := hI2.below hb3
  clear hown hb3 hB2
  go_wp2_with fail
  refine (ho2 w3 (h2.below hB3)).mono ?_
  rintro e w4 ⟨v, rfl, hown, hb4⟩
  obtain ⟨_, p4, c4, rfl, hI4⟩ := own_iarg hown
  have hB4 := below2 hB3 hb4
  have hI1 := hI1.below hb4
  have hI2 := hI2.below hb4
  have hI3 := hI3.below hb4
  clear hown hb4 hB3 h h2 hl hl2 hc hc2 hnil hnil2 ho ho2
  have hC := Check_any p1 c1 A w4 hI1 lA
  have hD := fun w h => RCheck_any p3 c3 A w h lA
  generalize (if chk A = true then (0 : Int) else 2) = r at *
  go_wp2_with fail
  refine hC.mono ?_
  rintro e w5 ⟨rfl, hb5⟩
  have hI1 := hI1.below hb5
  have hI2 := hI2.below hb5
  have hI3 := hI3.below hb5
  have hI4 := hI4.below hb5
  have hB5 := below2 hB4 hb5
  clear hC hb5 hB4
  go_wp2_with fail
  refine (hD w5 hI3).mono ?_
  rintro e w6 ⟨rfl, hb6⟩
  have hI1 := hI1.below hb6
  have hI2 := hI2.below hb6
  have hI3 := hI3.below hb6
  have hI4 := hI4.below hb6
  have hB6 := below2 hB5 hb6
  clear hD hb6 hB5
  have hH := Has_any p1 c1 A x w6 hI1 lA
  have hG := RHas_any p3 c3 A x w6 hI3 lA
  generalize decide (x ∈ A) = r2 at *
  go_wp2_with fail
  refine hH.mono ?_
  rintro e w7 ⟨rfl, rfl⟩
  go_wp2_with fail
  refine hG.mono ?_
  rintro e w8 ⟨rfl, rfl⟩
  clear hH hG
  have hH := Most_any p1 c1 A w8 lA
  have hG := RMost_any p3 c3 A w8 lA
  generalize most A = r3 at *
  go_wp2_with fail
  refine hH.mono ?_
  rintro e w9 ⟨rfl, rfl⟩
  go_wp2_with fail
  refine hG.mono ?_
  rintro e w10 ⟨rfl, rfl⟩
  clear hH hG
  have hH := Wins_any p1 c1 A p2 c2 B w10 hI1 lA hI2 lB
  have hG := fun w h h' => RWins_any p3 c3 A p4 c4 B w h lA h' lB
  generalize win A B = r4 at *
  go_wp2_with fail
  refine hH.mono ?_
  rintro e w11 ⟨rfl, hb⟩
  have hI1 := hI1.below hb
  have hI2 := hI2.below hb
  have hI3 := hI3.below hb
  have hI4 := hI4.below hb
  have hB11 := below2 hB6 hb
  clear hH hb hB6
  go_wp2_with fail
  refine (hG w11 hI3 hI4).mono ?_
  rintro e w12 ⟨rfl, hb⟩
  have hI1 := hI1.below hb
  have hI2 := hI2.below hb
  have hI3 := hI3.below hb
  have hI4 := hI4.below hb
  have hB12 := below2 hB11 hb
  clear hG hb hB11
  have hH := Meet_any p1 c1 A p2 c2 B w12 hI1 lA hI2 lB
  have hG := fun w h h' => RMeet_any p3 c3 A p4 c4 B w h lA h' lB
  generalize meet A B = r5 at *
  go_wp2_with fail
  refine hH.mono ?_
  rintro e w13 ⟨rfl, hb⟩
  have hI1 := hI1.below hb
  have hI2 := hI2.below hb
  have hI3 := hI3.below hb
  have hI4 := hI4.below hb
  have hB13 := below2 hB12 hb
  clear hH hb hB12
  go_wp2_with fail
  refine (hG w13 hI3 hI4).mono ?_
  rintro e w14 ⟨rfl, hb⟩
  have hI1 := hI1.below hb
  have hI2 := hI2.below hb
  have hI3 := hI3.below hb
  have hI4 := hI4.below hb
  have hB14 := below2 hB13 hb
  clear hG hb hB13
  have hH := RSame_any p1 c1 A p3 c3 A w14 hI1 hI3 lA
  rw [decide_eq_true (rfl : A = A)] at hH
  go_wp2_with fail
  refine hH.mono ?_
  rintro e w15 ⟨rfl, hb⟩
  have hI2 := hI2.below hb
  have hI4 := hI4.below hb
  have hB15 := below2 hB14 hb
  clear hH hb hB14
  have hH := RSame_any p2 c2 B p4 c4 B w15 hI2 hI4 lB
  rw [decide_eq_true (rfl : B = B)] at hH
  go_wp2_with fail
  refine hH.mono ?_
  rintro e w16 ⟨rfl, hb⟩
  have hB16 := below2 hB15 hb
  clear hH hb hB15
  go_wp2_with fail
  refine (works_any w16).mono ?_
  rintro e w17 ⟨rfl, hb⟩
  have hB17 := below2 hB16 hb
  go_wp2
  go_ret
  exact ⟨rfl, hB17⟩

end Go.Proofs.Ytdoiknfpgmglaaa
