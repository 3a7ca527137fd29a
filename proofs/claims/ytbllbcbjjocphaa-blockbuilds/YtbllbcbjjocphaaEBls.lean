/-
  BlockBuilds, walked.
-/
import Derived.Test.YtbllbcbjjocphaaEAgn
import Derived.Test.YtbllbcbjjocphaaERBl
import Derived.Test.YtbllbcbjjocphaaCOwn
namespace Go.Proofs.Ytbllbcbjjocphaa
open Go.RowKit Go.BigFrame Go.Sort
attribute [local go_sem] size_bstr toList_bstr ls_def

set_option maxHeartbeats 2000000 in
set_option maxRecDepth 100000 in
theorem Builds_any (q : Option Addr) (b off cap : Nat) (cs : List Cl) (w : World) (hq : 0 < cs.length → q = some ⟨b, off, none⟩ ∧ CRow w b off cs ∧ b < w.heap.size) (hn : cs.length * 64 ≤ 140737488351232) (hnil : q = none → cs = [] ∧ cap = 0) :
    Calls Try.prog 3 #[.slice q cs.length cap] w fun e w' => e = .returned (.bool true) ∧ RowKit.Below w.heap.size w w' := by
  go_enter Try.func3, Try.ntmps3
  go_wp2_with fail
  refine (Own_any q b off cap cs w hq hn hnil).mono ?_
  rintro e w1 ⟨v, rfl, hown, hb1⟩
  obtain ⟨p, c, g, rfl, _, _, hp, _⟩ := own_get hown
  have hq1 := hq_step hq hb1 (fun h => (hq h).2.2)
  go_wp2_with fail
  refine (Build_any p g 0 c cs w1 hp hn).mono ?_
  rintro e w2 ⟨rfl, hb2⟩
  have hp2 := hq_step hp hb2 (fun h => (hp h).2.2)
  have hq2 := hq_step hq1 hb2 (fun h => (hq1 h).2.2)
  have hB2 := below2 hb1 hb2
  clear hown hp hq1 hb1 hb2
  go_wp2_with fail
  refine (RBuild_any q b off cap cs w2 hq2 hn).mono ?_
  rintro e w3 ⟨rfl, hb3⟩
  have hp3 := hq_step hp2 hb3 (fun h => (hp2 h).2.2)
  have hq3 := hq_step hq2 hb3 (fun h => (hq2 h).2.2)
  have hB3 := below2 hB2 hb3
  clear hp2 hq2 hB2 hb3
  have hss : (bldB cs == bldB cs) = true := by simp
  generalize bldB cs = bb at *
  generalize bldE cs = be at *
  go_wp2_with fail
  refine (Same_any p q g 0 c b off cap cs w3 (hq_two hp3) (hq_two hq3) (by omega)).mono ?_
  rintro e w4 ⟨rfl, hb4⟩
  have hB4 := below2 hB3 hb4
  clear hp3 hq3 hB3 hb4
  go_wp2_with fail
  refine (works10_any w4).mono ?_
  rintro e w5 ⟨rfl, hb5⟩
  have hB5 := below2 hB4 hb5
  go_wp2
  go_ret
  exact ⟨rfl, hB5⟩

end Go.Proofs.Ytbllbcbjjocphaa
