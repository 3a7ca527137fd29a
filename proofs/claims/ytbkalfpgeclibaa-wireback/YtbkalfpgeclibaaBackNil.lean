/-
  The walk of the law WireBack where there are no things.
-/
import Derived.Test.YtbkalfpgeclibaaBackWalk
namespace Go.Proofs.Ytbkalfpgeclibaa
open Go.RowKit Go.BigFrame
attribute [local go_sem] size_bstr getElem_bstr toList_bstr append_bstr

set_option maxHeartbeats 1000000 in
set_option maxRecDepth 100000 in
theorem back_nil (ao : Option Addr) (cap : Nat) (B : List UInt8) (w : World) :
    Calls Try.prog 4 #[.slice ao 0 cap, .string (bstr B)] w fun e w' => e = .returned (.bool true) ∧ Below w.heap.size w w' := by
  have hsl := fun w : World => run_cut (P := Try.prog) 9 B 1000 1000 rfl w Try.underlying9
  have hle : (B.take 1000).length ≤ 1000 := List.length_take_le _ _
  generalize B.take 1000 = beh at *
  have htb : beh.take beh.length = beh := List.take_length
  have hdb : beh.drop beh.length = [] := List.drop_length
  have HT : Hid (beh.take beh.length = beh) := htb
  have HD : Hid (beh.drop beh.length = []) := hdb
  clear htb hdb
  have he : (⟨#[]⟩ : ByteArray) ++ bstr beh = bstr beh := empty_append beh
  have h0 : ByteArray.size ⟨#[]⟩ = 0 := rfl
  go_enter Try.func4, Try.ntmps4
  go_wp2
  refine wp_loop_rounds 1 ?_
  rw [rounds_succ]
  go_wp2_with fail
  refine (New_any (bstr beh) _).mono ?_
  rintro e w3 ⟨rfl, hr, hb3⟩
  go_wp2
  refine wp_loop_rounds 1 ?_
  rw [rounds_succ]
  go_wp2_with fail
  refine (Take_yes _ beh beh.length _ hr (by omega) (Nat.le_refl _)).mono ?_
  rintro e w4 ⟨rfl, hr4, hg4⟩
  rw [HT.out]
  rw [HD.out] at hr4
  have hb4 := b_grown hb3 hg4 (Nat.le_refl _)
  clear hb3 hg4 hr
  go_wp2_with fail
  refine (Left_any _ [] _ hr4).mono ?_
  rintro e w5 ⟨rfl, rfl⟩
  go_wp2_with fail
  refine (works_any _).mono ?_
  rintro e w6 ⟨rfl, hb6⟩
  have hb7 := b_step hb4 hb6
  go_wp2
  go_ret
  exact ⟨rfl, hb7⟩

end Go.Proofs.Ytbkalfpgeclibaa
