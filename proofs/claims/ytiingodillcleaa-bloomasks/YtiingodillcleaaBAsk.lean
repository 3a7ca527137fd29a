/-
  BloomAsks, walked.
-/
import Derived.Test.YtiingodillcleaaBRef2
namespace Go.Proofs.Ytiingodillcleaa
open Go.RowKit
attribute [local go_sem] size_bstr getElem_bstr toList_bstr

set_option maxHeartbeats 2000000 in
set_option maxRecDepth 100000 in
theorem Asks_any (f s : List UInt8) (w : World) (hf : f.length ≤ 9223372036854775807) (hs : s.length ≤ 9223372036854775807) :
    Calls Try.prog 4 #[.string (bstr f), .string (bstr s)] w fun e w' => e = .returned (.bool true) ∧ Below w.heap.size w w' := by
  have hc1 := fun W => run_cut (P := Try.prog) 9 f 3000 3000 rfl W Try.underlying9
  have hc2 := fun W => run_cut (P := Try.prog) 9 s 1000 1000 rfl W Try.underlying9
  obtain ⟨ff, hff⟩ : ∃ ff, ff = f.take 3000 := ⟨_, rfl⟩
  obtain ⟨ss, hss⟩ : ∃ ss, ss = s.take 1000 := ⟨_, rfl⟩
  have hfl : ff.length ≤ 9223372036854775807 := by rw [hff, List.length_take]; omega
  have hsl : ss.length ≤ 9223372036854775807 := by rw [hss, List.length_take]; omega
  rw [← hff] at hc1
  rw [← hss] at hc2
  clear hff hss
  have h1 := Check_any ff w hfl
  have h2 := RCheck_any ff w hfl
  have h3 := Has_any ff ss w hfl hsl
  go_enter Try.func4, Try.ntmps4
  go_wp2_with fail
  refine h1.mono ?_
  rintro e w1 ⟨rfl, rfl⟩
  go_wp2_with fail
  refine h2.mono ?_
  rintro e w2 ⟨rfl, rfl⟩
  generalize ckE ff = cc at *
  clear h1 h2 hc1 hc2
  go_wp2_with fail
  refine h3.mono ?_
  rintro e w3 ⟨rfl, hb3⟩
  have h4 := RHas_any ff ss w3 hfl hsl
  generalize hasF ff ss = hh at *
  clear h3
  go_wp2_with fail
  refine h4.mono ?_
  rintro e w4 ⟨rfl, hb4⟩
  have h5 := works9_any w4
  clear h4
  go_wp2_with fail
  refine h5.mono ?_
  rintro e w5 ⟨rfl, hb5⟩
  go_wp2
  go_ret
  exact ⟨rfl, below2 (below2 hb3 hb4) hb5⟩

end Go.Proofs.Ytiingodillcleaa
