/-
  The walk of the law CellsReads.
-/
import Derived.Test.YtjnfhbhcbcpjnaaRDecode
import Derived.Test.YtjnfhbhcbcpjnaaAgainWalk4
namespace Go.Proofs.Ytjnfhbhcbcpjnaa
open Go.RowKit Go.BigFrame Go.Sort
attribute [local go_sem] size_bstr toList_bstr ls_def

set_option maxHeartbeats 4000000 in
set_option maxRecDepth 100000 in
theorem reads_walk (s : List UInt8) (w : World) (hs : s.length ≤ 140737488351232) :
    Calls Try.prog 4 #[.string (bstr s)] w fun e w' => e = .returned (.bool true) ∧ RowKit.Below w.heap.size w w' := by
  cases hd : decR s with
  | none =>
    go_enter Try.func4, Try.ntmps4
    go_wp2_with fail
    refine (Decode_any s w (by omega)).mono ?_
    rintro e w1 ⟨_, hno, hb1⟩
    obtain rfl := hno hd
    clear hno
    go_wp2_with fail
    refine (RDecode_any s w1 (by omega)).mono ?_
    rintro e w2 ⟨_, hno, hb2⟩
    obtain rfl := hno hd
    have hb2' := below2 hb1 hb2
    clear hno hb1 hb2 hd
    have hsm := Same_any none none 0 0 0 0 0 0 [] w2 (by simp) (by simp) (by simp)
    go_wp2_with fail
    refine hsm.mono ?_
    rintro e w3 ⟨rfl, hb3⟩
    have hb3' := below2 hb2' hb3
    clear hb3 hsm
    go_wp2_with fail
    refine (works_any w3).mono ?_
    rintro e w4 ⟨rfl, hb4⟩
    have hb4' := below2 hb3' hb4
    clear hb4
    go_wp2
    go_ret
    exact ⟨rfl, hb4'⟩
  | some cs =>
    have hcl := (dec_enc hd).2.2
    go_enter Try.func4, Try.ntmps4
    go_wp2_with fail
    refine (Decode_any s w (by omega)).mono ?_
    rintro e w1 ⟨hy, _, hb1⟩
    obtain ⟨v1, rfl, hown1⟩ := hy cs hd
    obtain ⟨p1, c1, g1, rfl, _, _, hr1, _⟩ := own_get hown1
    clear hy hown1
    go_wp2_with fail
    refine (RDecode_any s w1 (by omega)).mono ?_
    rintro e w2 ⟨hy, _, hb2⟩
    obtain ⟨v2, rfl, hown2⟩ := hy cs hd
    obtain ⟨p2, c2, g2, rfl, _, _, hr2, _⟩ := own_get hown2
    have hr1' := hq_step hr1 hb2 (fun h => (hr1 h).2.2)
    have hb2' := below2 hb1 hb2
    clear hy hown2 hb1 hb2 hd hr1
    go_wp2_with fail
    refine (Same_any p1 p2 g1 0 c1 g2 0 c2 cs w2 (hq_two hr1') (hq_two hr2) (by omega)).mono ?_
    rintro e w3 ⟨rfl, hb3⟩
    have hb3' := below2 hb2' hb3
    clear hb3 hr1' hr2
    go_wp2_with fail
    refine (works_any w3).mono ?_
    rintro e w4 ⟨rfl, hb4⟩
    have hb4' := below2 hb3' hb4
    clear hb4
    go_wp2
    go_ret
    exact ⟨rfl, hb4'⟩

end Go.Proofs.Ytjnfhbhcbcpjnaa
