/-
  The law QuorumChanges.
-/
import Derived.Test.YtdoiknfpgmglaaaULaw
import Derived.Test.YtdoiknfpgmglaaaUSam
import Derived.Test.YtdoiknfpgmglaaaURCg
namespace Go.Proofs.Ytdoiknfpgmglaaa
open Go.RowKit Go.BigFrame

set_option maxHeartbeats 16000000 in
set_option maxRecDepth 100000 in
theorem QChanges_any (q : Option Addr) (cap : Nat) (l : List Int) (x y : Int) (w : World) (h : IArg w q l) (hl : l.length ≤ 9223372036854775807) (hc : l.length ≤ cap) (hnil : q = none → l = [] ∧ cap = 0) :
    Calls Try.prog 5 #[.slice q l.length cap, .int .i64 x, .int .i64 y] w fun e w' => e = .returned (.bool true) ∧ Below w.heap.size w w' := by
  have lA : (l.take 50).length ≤ 9223372036854775807 := by rw [List.length_take]; omega
  have ho := fun w h => own_any q cap l w h hl hc hnil
  generalize l.take 50 = A at *
  have hL5 : (chgL A x y).length ≤ 5 := by
    unfold chgL
    split
    · exact lstI_len _ 5
    · simp
  go_enter Try.func5, Try.ntmps5
  go_wp2_with fail
  refine (ho w h).mono ?_
  rintro e w1 ⟨v, rfl, hown, hb1⟩
  obtain ⟨_, p1, c1, rfl, hI1⟩ := own_iarg hown
  clear hown
  have hG := Change_any p1 c1 A x y w1 hI1 lA
  have hR := fun p c w h => RChange_any p c A x y w h lA
  unfold ChgQ at hG hR
  generalize chgL A x y = C at *
  generalize chgE A x y = E at *
  go_wp2_with fail
  refine hG.mono ?_
  rintro e w2 ⟨⟨p2, c2, rfl, hI2⟩, hb2⟩
  have hB2 := below2 hb1 hb2
  have hI1 := hI1.below hb2
  clear hG hb1 hb2
  go_wp2_with fail
  refine (ho w2 (h.below hB2)).mono ?_
  rintro e w3 ⟨v, rfl, hown, hb3⟩
  obtain ⟨_, p3, c3, rfl, hI3⟩ := own_iarg hown
  have hB3 := below2 hB2 hb3
  have hI1 := hI1.below hb3
  have hI2 := hI2.below hb3
  clear hown hb3 hB2
  go_wp2_with fail
  refine (hR p3 c3 w3 hI3).mono ?_
  rintro e w4 ⟨⟨p4, c4, rfl, hI4⟩, hb4⟩
  have hB4 := below2 hB3 hb4
  have hI1 := hI1.below hb4
  have hI2 := hI2.below hb4
  clear hR hb4 hB3
  have hH := RSame_any p2 c2 C p4 c4 C w4 hI2 hI4 (by omega)
  rw [decide_eq_true (rfl : C = C)] at hH
  go_wp2_with fail
  refine hH.mono ?_
  rintro e w5 ⟨rfl, hb⟩
  have hB5 := below2 hB4 hb
  have hI1 := hI1.below hb
  clear hH hb hB4
  go_wp2_with fail
  refine (ho w5 (h.below hB5)).mono ?_
  rintro e w6 ⟨v, rfl, hown, hb⟩
  obtain ⟨_, p6, c6, rfl, hI6⟩ := own_iarg hown
  have hB6 := below2 hB5 hb
  have hI1 := hI1.below hb
  clear hown hb hB5 ho
  have hH := RSame_any p1 c1 A p6 c6 A w6 hI1 hI6 lA
  rw [decide_eq_true (rfl : A = A)] at hH
  go_wp2_with fail
  refine hH.mono ?_
  rintro e w7 ⟨rfl, hb⟩
  have hB7 := below2 hB6 hb
  clear hH hb hB6
  go_wp2_with fail
  refine (works_any w7).mono ?_
  rintro e w8 ⟨rfl, hb⟩
  have hB8 := below2 hB7 hb
  go_wp2
  go_ret
  exact ⟨rfl, hB8⟩

end Go.Proofs.Ytdoiknfpgmglaaa
