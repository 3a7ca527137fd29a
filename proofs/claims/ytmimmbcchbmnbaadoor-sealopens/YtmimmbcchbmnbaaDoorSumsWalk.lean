/-
  The walks of the laws SealSums and SealOpens over this seat's translation: each returns true, and of what was there nothing has turned.
-/
import Derived.Test.YtmimmbcchbmnbaaDoorPartsWalk
import Derived.Test.YtmimmbcchbmnbaaDoorSRef
namespace Go.Proofs.YtmimmbcchbmnbaaDoor
open Go.RowKit
attribute [local go_sem] size_bstr getElem_bstr toList_bstr append_bstr

set_option maxHeartbeats 2000000 in
theorem sums_walk (a b : List UInt8) (w : World) (ht : Tabs w) (ha : a.length ≤ 140737488355328) (hb : b.length ≤ 140737488355328) :
    Calls Tryd.prog 3 #[.string (bstr a), .string (bstr b)] w fun e w' => e = .returned (.bool true) ∧ Below w.heap.size w w' := by
  have hE0 : (⟨#[]⟩ : ByteArray) = bstr [] := rfl
  have hab : (a ++ b).length = a.length + b.length := List.length_append
  by_cases hs : (a ++ b).length ≤ 1048576
  · go_enter Tryd.func3, Tryd.ntmps3
    go_wp2_with fail
    refine (Frame_ok (a ++ b) _ hs ht).mono ?_
    rintro e w1 ⟨rfl, hb1⟩
    have ht1 := ht.below hb1
    go_wp2_with fail
    refine (RFrame_ok (a ++ b) _ hs).mono ?_
    rintro e w2 ⟨rfl, hb2⟩
    have ht2 := ht1.below hb2
    replace hb1 := bstep hb1 hb2
    clear hb2
    go_wp2_with fail
    refine (Sum_lit w2 2 [a, b] #[.string (bstr a), .string (bstr b)] rfl rfl ht2 (by decide) (all2 (by omega) (by omega))).mono ?_
    rintro e w3 ⟨rfl, hb2⟩
    have ht3 := ht2.below hb2
    replace hb1 := bstep hb1 hb2
    clear hb2
    rw [show [a, b].flatten = a ++ b from by simp]
    go_wp2_with fail
    refine (RSum_any (a ++ b) _ (by omega)).mono ?_
    rintro e w4 ⟨rfl, rfl⟩
    go_wp2_with fail
    refine (works_any _ ht3).mono ?_
    rintro e w5 ⟨rfl, hb2⟩
    replace hb1 := bstep hb1 hb2
    clear hb2
    go_wp2
    go_ret
    exact ⟨rfl, hb1⟩
  · go_enter Tryd.func3, Tryd.ntmps3
    go_wp2_with fail
    refine (Frame_long (a ++ b) _ (by omega) (by omega)).mono ?_
    rintro e w1 ⟨rfl, hb1⟩
    have ht1 := ht.below hb1
    go_wp2_with fail
    refine (RFrame_long (a ++ b) _ (by omega) (by omega)).mono ?_
    rintro e w2 ⟨rfl, hb2⟩
    have ht2 := ht1.below hb2
    replace hb1 := bstep hb1 hb2
    clear hb2
    go_wp2_with fail
    refine (Sum_lit w2 2 [a, b] #[.string (bstr a), .string (bstr b)] rfl rfl ht2 (by decide) (all2 (by omega) (by omega))).mono ?_
    rintro e w3 ⟨rfl, hb2⟩
    have ht3 := ht2.below hb2
    replace hb1 := bstep hb1 hb2
    clear hb2
    rw [show [a, b].flatten = a ++ b from by simp]
    go_wp2_with fail
    refine (RSum_any (a ++ b) _ (by omega)).mono ?_
    rintro e w4 ⟨rfl, rfl⟩
    go_wp2_with fail
    refine (works_any _ ht3).mono ?_
    rintro e w5 ⟨rfl, hb2⟩
    replace hb1 := bstep hb1 hb2
    clear hb2
    go_wp2
    go_ret
    exact ⟨rfl, hb1⟩

set_option maxHeartbeats 2000000 in
theorem opens_walk (s : List UInt8) (w : World) (ht : Tabs w) (hs : s.length ≤ 140737488355328) :
    Calls Tryd.prog 4 #[.string (bstr s)] w fun e w' => e = .returned (.bool true) ∧ Below w.heap.size w w' := by
  cases ho : opn s with
  | none =>
    have HO : Hid _ := ho
    clear ho
    go_enter Tryd.func4, Tryd.ntmps4
    go_wp2_with fail
    refine (Open_none s _ (by omega) ht HO.out).mono ?_
    rintro e w1 ⟨rfl, hb1⟩
    have ht1 := ht.below hb1
    go_wp2_with fail
    refine (ROpen_none s _ (by omega) HO.out).mono ?_
    rintro e w2 ⟨rfl, hb2⟩
    have ht2 := ht1.below hb2
    replace hb1 := bstep hb1 hb2
    clear hb2
    go_wp2_with fail
    refine (works_any _ ht2).mono ?_
    rintro e w3 ⟨rfl, hb2⟩
    replace hb1 := bstep hb1 hb2
    clear hb2
    go_wp2
    go_ret
    exact ⟨rfl, hb1⟩
  | some b =>
    have HO : Hid _ := ho
    clear ho
    go_enter Tryd.func4, Tryd.ntmps4
    go_wp2_with fail
    refine (Open_some s b _ (by omega) ht HO.out).mono ?_
    rintro e w1 ⟨rfl, hb1⟩
    have ht1 := ht.below hb1
    go_wp2_with fail
    refine (ROpen_some s b _ (by omega) HO.out).mono ?_
    rintro e w2 ⟨rfl, hb2⟩
    have ht2 := ht1.below hb2
    replace hb1 := bstep hb1 hb2
    clear hb2
    go_wp2_with fail
    refine (works_any _ ht2).mono ?_
    rintro e w3 ⟨rfl, hb2⟩
    replace hb1 := bstep hb1 hb2
    clear hb2
    go_wp2
    go_ret
    exact ⟨rfl, hb1⟩

end Go.Proofs.YtmimmbcchbmnbaaDoor
