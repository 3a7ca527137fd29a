/-
  The law's own 'works' over this seat's translation: the chapter's first rows come out true.
-/
import Derived.Test.YtmimmbcchbmnbabDoorFst
namespace Go.Proofs.YtmimmbcchbmnbabDoor
open Go.RowKit
attribute [local go_sem] size_bstr getElem_bstr toList_bstr append_bstr

theorem frm_nil : frm [] = [0, 0, 0, 0, 28, 223, 68, 33] := by decide +kernel
theorem crc_nine : (crc [49, 50, 51, 52, 53, 54, 55, 56, 57]).toNat = 3421780262 := by decide +kernel
theorem all1 {a : List UInt8} {n : Nat} (ha : a.length ≤ n) : ∀ p ∈ [a], p.length ≤ n := by
  intro p hp
  simp at hp
  rw [hp]
  exact ha

theorem Frame_nil (w : World) (ht : Tabs w) :
    Calls Tryd.prog 6 #[.string (bstr [])] w fun e w' => e = .returned (.tuple #[.string (bstr [0, 0, 0, 0, 28, 223, 68, 33]), .int .i64 0]) ∧ Below w.heap.size w w' := by
  have hFr := Frame_ok [] w (by simp) ht
  rw [frm_nil] at hFr
  exact hFr

set_option maxHeartbeats 1000000 in
theorem works_any (w : World) (ht : Tabs w) :
    Calls Tryd.prog 5 #[] w fun e w' => e = .returned (.bool true) ∧ Below w.heap.size w w' := by
  have hE0 : (⟨#[]⟩ : ByteArray) = bstr [] := rfl
  have hE1 : (⟨#[120]⟩ : ByteArray) = bstr [120] := rfl
  have hE8 : (⟨#[0, 0, 0, 0, 28, 223, 68, 33]⟩ : ByteArray) = bstr [0, 0, 0, 0, 28, 223, 68, 33] := rfl
  have hE9 : (⟨#[49, 50, 51, 52, 53, 54, 55, 56, 57]⟩ : ByteArray) = bstr [49, 50, 51, 52, 53, 54, 55, 56, 57] := rfl
  have hop : opn ([0, 0, 0, 0, 28, 223, 68, 33] ++ [120]) = some [] := by
    rw [← frm_nil]
    exact opn_frm (by decide) _
  have HOP : Hid _ := hop
  clear hop
  go_enter Tryd.func5, Tryd.ntmps5
  go_wp2_with fail
  refine (Frame_nil _ ht).mono ?_
  rintro e w1 ⟨rfl, hb1⟩
  have ht1 := ht.below hb1
  go_wp2_with fail
  refine (Open_some _ [] _ (by simp) ht1 HOP.out).mono ?_
  rintro e w2 ⟨rfl, hb2⟩
  have ht2 := ht1.below hb2
  go_wp2_with fail
  refine (Sum_lit w2 1 [[49, 50, 51, 52, 53, 54, 55, 56, 57]] #[.string (bstr [49, 50, 51, 52, 53, 54, 55, 56, 57])] rfl rfl ht2 (by decide) (all1 (by simp))).mono ?_
  rintro e w3 ⟨rfl, hb3⟩
  rw [show [[49, 50, 51, 52, 53, 54, 55, 56, 57]].flatten = ([49, 50, 51, 52, 53, 54, 55, 56, 57] : List UInt8) from rfl, crc_nine]
  have hbe : Below w.heap.size w w3 := hb1.trans ((hb2.trans (hb3.mono hb2.size)).mono hb1.size)
  go_wp2
  go_ret
  exact ⟨rfl, hbe⟩

end Go.Proofs.YtmimmbcchbmnbabDoor
