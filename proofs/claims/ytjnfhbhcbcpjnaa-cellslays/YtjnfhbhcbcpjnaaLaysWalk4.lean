/-
  The walk of the law CellsLays.
-/
import Derived.Test.YtjnfhbhcbcpjnaaCRefN
import Derived.Test.YtjnfhbhcbcpjnaaCOwn
namespace Go.Proofs.Ytjnfhbhcbcpjnaa
open Go.RowKit Go.BigFrame Go.Sort
attribute [local go_sem] size_bstr toList_bstr ls_def

set_option maxHeartbeats 4000000 in
set_option maxRecDepth 100000 in
theorem lays_walk (q : Option Addr) (b off cap : Nat) (cs : List Cl) (w : World) (hq : 0 < cs.length → q = some ⟨b, off, none⟩ ∧ CRow w b off cs ∧ b < w.heap.size) (hn : cs.length * 64 ≤ 140737488351232) (hnil : q = none → cs = [] ∧ cap = 0) :
    Calls Try.prog 3 #[.slice q cs.length cap] w fun e w' => e = .returned (.bool true) ∧ RowKit.Below w.heap.size w w' := by
  have hqs : ∀ W, RowKit.Below w.heap.size w W → (0 < cs.length → q = some ⟨b, off, none⟩ ∧ CRow W b off cs ∧ b < W.heap.size) := fun W hb h => ⟨(hq h).1, (hq h).2.1.step hb (hq h).2.2, Nat.lt_of_lt_of_le (hq h).2.2 hb.size⟩
  have hE := fun p g c W hq => Encode_any p g 0 c cs W hq hn
  have hF := fun W hq => REncode_any q b off cap cs W hq hn
  generalize encB cs = eB at *
  generalize encE cs = eE at *
  go_enter Try.func3, Try.ntmps3
  go_wp2_with fail
  refine (Own_any q b off cap cs w hq hn hnil).mono ?_
  rintro e w1 ⟨v1, rfl, hown1, hb1⟩
  obtain ⟨p1, c1, g1, rfl, _, hg1, hq1, _⟩ := own_get hown1
  clear hown1 hq
  go_wp2_with fail
  refine (hE p1 g1 c1 w1 hq1).mono ?_
  rintro e w2 ⟨rfl, hb2⟩
  have hq2 := hq_step hq1 hb2 (fun h => (hq1 h).2.2)
  replace hb2 := below2 hb1 hb2
  clear hb1 hq1 hE
  go_wp2_with fail
  refine (hF w2 (hqs w2 hb2)).mono ?_
  rintro e w3 ⟨rfl, hb3⟩
  have hq3 := hq_step hq2 hb3 (fun h => (hq2 h).2.2)
  replace hb3 := below2 hb2 hb3
  clear hb2 hq2 hF
  go_wp2_with fail
  refine (Same_any p1 q g1 0 c1 b off cap cs w3 (hq_two hq3) (hq_two (hqs w3 hb3)) (by omega)).mono ?_
  rintro e w4 ⟨rfl, hb4⟩
  replace hb4 := below2 hb3 hb4
  clear hb3 hq3
  go_wp2_with fail
  refine (works_any w4).mono ?_
  rintro e w5 ⟨rfl, hb5⟩
  replace hb5 := below2 hb4 hb5
  clear hb4
  go_wp2
  go_ret
  exact ⟨rfl, hb5⟩

end Go.Proofs.Ytjnfhbhcbcpjnaa
