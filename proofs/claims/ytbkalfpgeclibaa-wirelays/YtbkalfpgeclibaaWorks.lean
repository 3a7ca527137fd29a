/-
  The contract of the law's 'works': a number and a text, there and back: true.
-/
import Derived.Test.YtbkalfpgeclibaaReader
import Derived.Test.YtbkalfpgeclibaaPut
namespace Go.Proofs.Ytbkalfpgeclibaa
open Go.RowKit

theorem empty_append (l : List UInt8) : (⟨#[]⟩ : ByteArray) ++ bstr l = bstr l := by
  have : (⟨#[]⟩ : ByteArray) = bstr [] := rfl
  rw [this, append_bstr, List.nil_append]

theorem uvarint_300 : Lib.uvarint 300 = [172, 2] := by
  rw [Lib.uvarint_big (by omega), Lib.uvarint_small (by omega)]
  decide
theorem uvarint_2 : Lib.uvarint 2 = [2] := by
  rw [Lib.uvarint_small (by omega)]
  decide

set_option maxHeartbeats 1000000 in
theorem works_any (w : World) :
    Calls Try.prog 16 #[] w fun e w' => e = .returned (.bool true) ∧ Below w.heap.size w w' := by
  have hz : ((bstr [97, 98]).toList == [97, 98]) = true := by rw [toList_bstr]; decide
  go_enter Try.func16, Try.ntmps16
  go_wp2_with fail
  refine (PutNumber_any ⟨#[]⟩ 300 _ (by omega) (by decide)).mono ?_
  rintro e w1 ⟨rfl, hb1⟩
  rw [empty_append, uvarint_300]
  go_wp2_with fail
  refine (PutText_any (bstr [172, 2]) ⟨#[97, 98]⟩ _ (by decide) (by decide)).mono ?_
  rintro e w2 ⟨rfl, hb2⟩
  have e2 : bstr [172, 2] ++ bstr (Lib.uvarint (ByteArray.size ⟨#[97, 98]⟩)) ++ ⟨#[97, 98]⟩ = bstr [172, 2, 2, 97, 98] := by
    have h2 : ByteArray.size ⟨#[97, 98]⟩ = 2 := rfl
    rw [append_text, h2, uvarint_2, data_bstr]
    rfl
  rw [e2]
  go_wp2_with fail
  refine (New_any (bstr [172, 2, 2, 97, 98]) _).mono ?_
  rintro e w3 ⟨rfl, hr3, hb3⟩
  have hb13 := (hb1.trans (hb2.mono hb1.size)).trans (hb3.mono (hb1.trans (hb2.mono hb1.size)).size)
  have hsz : w.heap.size ≤ w2.heap.size := (hb1.trans (hb2.mono hb1.size)).size
  clear hb1 hb2 hb3 e2
  go_wp2_with fail
  refine (Number_yes _ _ 300 2 _ hr3 (by decide) (by decide) (by decide)).mono ?_
  rintro e w4 ⟨rfl, hr4, hg4⟩
  go_wp2_with fail
  refine (Text_yes _ _ 2 1 2 _ hr4 (by decide) (by decide) (by decide) (by decide) (by decide) (by decide)).mono ?_
  rintro e w5 ⟨rfl, hr5, hg5⟩
  have hb5 := (hb13.grown hg4 hb13.size (fun k hk => by cases hk; exact hsz)).grown hg5 (Nat.le_trans hb13.size hg4.size) (fun k hk => by cases hk; exact hsz)
  clear hb13 hg4 hg5 hr4 hr3
  have e5 : List.take 2 (List.drop 1 (List.drop 2 [172, 2, 2, 97, 98])) = ([97, 98] : List UInt8) := by decide
  rw [e5]
  go_wp2_with fail
  refine (Left_any _ _ _ hr5).mono ?_
  rintro e w6 ⟨rfl, rfl⟩
  go_wp2
  go_ret
  exact ⟨rfl, hb5⟩

end Go.Proofs.Ytbkalfpgeclibaa
