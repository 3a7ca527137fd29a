/-
  The walks of the laws SealParts and SealBack over this seat's translation: each returns true, and of what was there nothing has turned.
-/
import Derived.Test.YtmimmbcchbmnbaaDoorWks
namespace Go.Proofs.YtmimmbcchbmnbaaDoor
open Go.RowKit
attribute [local go_sem] size_bstr getElem_bstr toList_bstr append_bstr

theorem all3 {a b c : List UInt8} {n : Nat} (ha : a.length ≤ n) (hb : b.length ≤ n) (hc : c.length ≤ n) : ∀ p ∈ [a, b, c], p.length ≤ n := by
  intro p hp
  simp at hp
  rcases hp with rfl | rfl | rfl
  · exact ha
  · exact hb
  · exact hc
theorem bstep {w a b : World} (h : Below w.heap.size w a) (k : Below a.heap.size a b) : Below w.heap.size w b := h.trans (k.mono h.size)

set_option maxHeartbeats 2000000 in
theorem parts_walk (a b c : List UInt8) (w : World) (ht : Tabs w) (ha : a.length ≤ 140737488355328) (hb : b.length ≤ 140737488355328) (hc : c.length ≤ 140737488355328) :
    Calls Tryd.prog 6 #[.string (bstr a), .string (bstr b), .string (bstr c)] w fun e w' => e = .returned (.bool true) ∧ Below w.heap.size w w' := by
  have hE0 : (⟨#[]⟩ : ByteArray) = bstr [] := rfl
  go_enter Tryd.func6, Tryd.ntmps6
  go_wp2_with fail
  refine (works_any _ ht).mono ?_
  rintro e w1 ⟨rfl, hb1⟩
  have ht1 := ht.below hb1
  go_wp2_with fail
  refine (Sum_lit w1 3 [a, b, c] #[.string (bstr a), .string (bstr b), .string (bstr c)] rfl rfl ht1 (by decide) (all3 (by omega) (by omega) (by omega))).mono ?_
  rintro e w2 ⟨rfl, hb2⟩
  have ht2 := ht1.below hb2
  replace hb1 := bstep hb1 hb2
  clear hb2
  rw [show [a, b, c].flatten = a ++ (b ++ c) from by simp]
  go_wp2_with fail
  refine (Sum_lit w2 1 [a ++ (b ++ c)] #[.string (bstr (a ++ (b ++ c)))] rfl rfl ht2 (by decide) (all1 (by simp only [List.length_append]; omega))).mono ?_
  rintro e w3 ⟨rfl, hb2⟩
  have ht3 := ht2.below hb2
  replace hb1 := bstep hb1 hb2
  clear hb2
  rw [show [a ++ (b ++ c)].flatten = a ++ (b ++ c) from by simp]
  go_wp2_with fail
  refine (Sum_lit w3 3 [a ++ b, [], c] #[.string (bstr (a ++ b)), .string (bstr []), .string (bstr c)] rfl rfl ht3 (by decide) (all3 (by simp only [List.length_append]; omega) (by simp) (by omega))).mono ?_
  rintro e w4 ⟨rfl, hb2⟩
  have ht4 := ht3.below hb2
  replace hb1 := bstep hb1 hb2
  clear hb2
  rw [show [a ++ b, [], c].flatten = a ++ (b ++ c) from by simp]
  go_wp2_with fail
  refine (Sum_lit w4 2 [a, b ++ c] #[.string (bstr a), .string (bstr (b ++ c))] rfl rfl ht4 (by decide) (all2 (by omega) (by simp only [List.length_append]; omega))).mono ?_
  rintro e w5 ⟨rfl, hb2⟩
  replace hb1 := bstep hb1 hb2
  clear hb2
  rw [show [a, b ++ c].flatten = a ++ (b ++ c) from by simp]
  go_wp2
  go_ret
  exact ⟨rfl, hb1⟩

set_option maxHeartbeats 2000000 in
theorem back_walk (l r : List UInt8) (w : World) (ht : Tabs w) (hl : l.length ≤ 140737488355328) (hr : r.length ≤ 140737488355328) :
    Calls Tryd.prog 7 #[.string (bstr l), .string (bstr r)] w fun e w' => e = .returned (.bool true) ∧ Below w.heap.size w w' := by
  have hE0 : (⟨#[]⟩ : ByteArray) = bstr [] := rfl
  by_cases hs : l.length ≤ 1048576
  · have HOP : Hid (opn (frm l ++ r) = some l) := opn_frm hs r
    have hfl := frm_length l
    go_enter Tryd.func7, Tryd.ntmps7
    go_wp2_with fail
    refine (works_any _ ht).mono ?_
    rintro e w1 ⟨rfl, hb1⟩
    have ht1 := ht.below hb1
    go_wp2_with fail
    refine (Frame_ok l _ hs ht1).mono ?_
    rintro e w2 ⟨rfl, hb2⟩
    have ht2 := ht1.below hb2
    replace hb1 := bstep hb1 hb2
    clear hb2
    go_wp2_with fail
    refine (Open_some _ l _ (by rw [List.length_append, hfl]; omega) ht2 HOP.out).mono ?_
    rintro e w3 ⟨rfl, hb2⟩
    replace hb1 := bstep hb1 hb2
    clear hb2
    have hg1 : ((8 : Int) + (l.length : Int) == (l.length : Int) + 8) = true := by simp; omega
    go_wp2
    go_ret
    exact ⟨rfl, hb1⟩
  · go_enter Tryd.func7, Tryd.ntmps7
    go_wp2_with fail
    refine (works_any _ ht).mono ?_
    rintro e w1 ⟨rfl, hb1⟩
    go_wp2_with fail
    refine (Frame_long l _ (by omega) (by omega)).mono ?_
    rintro e w2 ⟨rfl, hb2⟩
    replace hb1 := bstep hb1 hb2
    clear hb2
    have hg : decide ((1048576 : Int) < (l.length : Int)) = true := decide_eq_true (by omega)
    go_wp2
    go_ret
    exact ⟨rfl, hb1⟩

end Go.Proofs.YtmimmbcchbmnbaaDoor
