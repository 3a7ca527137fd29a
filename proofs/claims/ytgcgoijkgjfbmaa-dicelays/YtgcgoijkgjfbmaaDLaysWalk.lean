/-
  The walk of the law DiceLays over this seat's translation: it returns true, and of what was there nothing has turned.
-/
import Derived.Test.YtgcgoijkgjfbmaaDRef
import Derived.Test.YtgcgoijkgjfbmaaDWks
namespace Go.Proofs.Ytgcgoijkgjfbmaa
open Go.RowKit Go.BigFrame
attribute [local go_sem] size_bstr toList_bstr

theorem own_below {w w' : World} {B e size n : Nat} {v : Value} {xs : List Value} (h : w.ownsRow B e size v n xs) (hb : Below w.heap.size w w') : w'.ownsRow B e size v n xs := by
  rcases h.2 with h0 | ⟨g, cap, cur, hv, hbg, hg, hnc, hcm, hcs, htake⟩
  · exact ⟨h.1, .inl h0⟩
  · exact ⟨h.1, .inr ⟨g, cap, cur, hv, hbg, (hb.block g (lt_of_block hg)).trans hg, hnc, hcm, hcs, htake⟩⟩

set_option maxHeartbeats 2000000 in
set_option maxRecDepth 100000 in
theorem lays_walk (q : Option Addr) (cap : Nat) (L : List Int) (w : World) (hA : IArg w q L) (hc : L.length ≤ cap) :
    Calls Try.prog 4 #[.slice q L.length cap] w fun e w' => e = .returned (.bool true) ∧ Below w.heap.size w w' := by
  obtain ⟨N, hN, hN3, hNl⟩ : ∃ N : Nat, min (L.length : Int) 1000 = (N : Int) ∧ N ≤ 1000 ∧ N ≤ L.length := ⟨min L.length 1000, by omega, by omega, by omega⟩
  have hI0 : (0 : Int) ≤ (N : Int) := by omega
  have hI1 : (N : Int) ≤ (cap : Int) := by omega
  go_enter Try.func4, Try.ntmps4
  go_wp2_with fail
  obtain ⟨l, hl, hlN⟩ : ∃ l, l = L.take N ∧ N = l.length := ⟨_, rfl, by rw [List.length_take]; omega⟩
  have hAl : IArg w q l := by rw [hl]; exact hA.take N
  have HL : Hid _ := hN
  clear hN hl
  subst hlN
  refine (Lay_any q cap l _ hAl (by omega)).mono ?_
  rintro e w1 ⟨v1, rfl, ho1, hb1⟩
  have hA1 := hAl.below hb1
  go_wp2_with fail
  refine (RLay_any q cap l _ hA1 (by omega)).mono ?_
  rintro e w2 ⟨v2, rfl, ho2, hb2⟩
  have ho1' := own_below ho1 hb2
  have hb := b_step hb1 hb2 (Nat.le_refl _)
  have k1 := run_convert_own (P := Try.prog) (src := 22) (dst := 9) ho1' Try.underlying22 Try.underlying5 Try.underlying9
  have k2 := run_convert_own (P := Try.prog) (src := 22) (dst := 9) ho2 Try.underlying22 Try.underlying5 Try.underlying9
  clear ho1 ho2 ho1' hb1 hb2
  go_wp2_with fail
  refine (works_any _).mono ?_
  rintro e w3 ⟨rfl, hb3⟩
  have hb4 := b_step hb hb3 (Nat.le_refl _)
  go_wp2
  go_ret
  exact ⟨rfl, hb4⟩

end Go.Proofs.Ytgcgoijkgjfbmaa
