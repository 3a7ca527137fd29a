/-
  BlockReads and BlockFinds, walked.
-/
import Derived.Test.YtbllbcbjjocphaaGERf
import Derived.Test.YtbllbcbjjocphaaEWks
import Derived.Test.YtbllbcbjjocphaaCOwn
namespace Go.Proofs.Ytbllbcbjjocphaa
open Go.RowKit Go.BigFrame Go.Sort
attribute [local go_sem] size_bstr toList_bstr ls_def

set_option maxHeartbeats 2000000 in
set_option maxRecDepth 100000 in
theorem Reads_any (s : List UInt8) (w : World) (hs : s.length ≤ 9223372036854775807) :
    Calls Try.prog 4 #[.string (bstr s)] w fun e w' => e = .returned (.bool true) ∧ RowKit.Below w.heap.size w w' := by
  go_enter Try.func4, Try.ntmps4
  go_wp2_with fail
  refine (Read_any s w hs).mono ?_
  rintro e w1 ⟨hQ, hb1⟩
  have hR := fun W => RRead_any s W hs
  obtain ⟨L, q, c, rfl, hG, hL, hown⟩ | ⟨rfl, hno⟩ := hQ
  · go_wp2_with fail
    refine (hR _).mono ?_
    rintro e w2 ⟨hQ2, hb2⟩
    obtain ⟨L', q', c', rfl, hG', hL', hown'⟩ | ⟨rfl, hno⟩ := hQ2
    case inr => exact absurd hL (hno L hG)
    obtain rfl := hG.inj hG' (hL.trans hL'.symm)
    obtain ⟨p, cap, g, hv, _, _, hp, _⟩ := own_get (own_step hown hb2)
    cases hv
    obtain ⟨p', cap', g', hv, _, _, hp', _⟩ := own_get hown'
    cases hv
    have hm : L.length ≤ 6000 := by
      have h1 := body_many L hG.ok
      have h2 := hG.len
      rw [blkB_len] at h2
      omega
    have hB2 := below2 hb1 hb2
    clear hown hown' hG hG' hL hL' hR hb1 hb2
    go_wp2_with fail
    refine (Same_any q q' g 0 c g' 0 c' L w2 (hq_two hp) (hq_two hp') (by omega)).mono ?_
    rintro e w3 ⟨rfl, hb3⟩
    have hB3 := below2 hB2 hb3
    go_wp2_with fail
    refine (works10_any _).mono ?_
    rintro e w4 ⟨rfl, hb4⟩
    have hB4 := below2 hB3 hb4
    go_wp2
    go_ret
    exact ⟨rfl, hB4⟩
  · go_wp2_with fail
    refine (hR _).mono ?_
    rintro e w2 ⟨hQ2, hb2⟩
    obtain ⟨L', q', c', rfl, hG', hL', hown'⟩ | ⟨rfl, _⟩ := hQ2
    case inl => exact absurd hL' (hno L' hG')
    have hB2 := below2 hb1 hb2
    clear hR hno hb1 hb2
    go_wp2_with fail
    refine (Same_any none none 0 0 0 0 0 0 [] w2 (fun h => by simp at h) (fun h => by simp at h) (by simp)).mono ?_
    rintro e w3 ⟨rfl, hb3⟩
    have hB3 := below2 hB2 hb3
    go_wp2_with fail
    refine (works10_any _).mono ?_
    rintro e w4 ⟨rfl, hb4⟩
    have hB4 := below2 hB3 hb4
    go_wp2
    go_ret
    exact ⟨rfl, hB4⟩

set_option maxHeartbeats 2000000 in
set_option maxRecDepth 100000 in
theorem Finds_any (s row col : List UInt8) (w : World) (hs : s.length ≤ 9223372036854775807) :
    Calls Try.prog 5 #[.string (bstr s), .string (bstr row), .string (bstr col)] w fun e w' => e = .returned (.bool true) ∧ RowKit.Below w.heap.size w w' := by
  have key : ∃ (c : Cl) (z : Bool) (n : Int), (∀ W, Calls Try.prog 16 #[.string (bstr s), .string (bstr row), .string (bstr col)] W fun e w' => e = .returned (.tuple #[clV c, .bool z, .int .i64 n]) ∧ RowKit.Below W.heap.size W w') ∧ (∀ W, Calls Try.prog 17 #[.string (bstr s), .string (bstr row), .string (bstr col)] W fun e w' => e = .returned (.tuple #[clV c, .bool z, .int .i64 n]) ∧ RowKit.Below W.heap.size W w') := by
    by_cases h : ∃ L, Good L ∧ blkB L = s
    · obtain ⟨L, hG, hL⟩ := h
      refine ⟨optC (fnd row col L), (fnd row col L).isSome, 0, fun W => (Find_any s row col W hs).mono ?_, fun W => (RFind_any s row col W hs).mono ?_⟩
      all_goals (
        rintro e w' ⟨hq, hb⟩
        obtain ⟨L', hG', hL', rfl⟩ | ⟨_, hno⟩ := hq
        · obtain rfl := hG.inj hG' (hL.trans hL'.symm)
          exact ⟨rfl, hb⟩
        · exact absurd hL (hno L hG))
    · refine ⟨optC none, false, 4, fun W => (Find_any s row col W hs).mono ?_, fun W => (RFind_any s row col W hs).mono ?_⟩
      all_goals (
        rintro e w' ⟨hq, hb⟩
        obtain ⟨L', hG', hL', rfl⟩ | ⟨rfl, _⟩ := hq
        · exact absurd ⟨L', hG', hL'⟩ h
        · exact ⟨rfl, hb⟩)
  obtain ⟨c, z, n, h1, h2⟩ := key
  obtain ⟨r, k, v, g, x⟩ := c
  have heq := eqC_self ⟨r, k, v, g, x⟩
  go_enter Try.func5, Try.ntmps5
  go_wp2_with fail
  refine (h1 _).mono ?_
  rintro e w1 ⟨rfl, hb1⟩
  have hN1 := CellAt.new w1 35 r k v g x
  have ha1 : RowKit.Below w1.heap.size w1 (w1.alloc (.cells #[.string (bstr r), .string (bstr k), .int .u64 v, .bool g, .string (bstr x)] 35)) := (RowKit.Below.refl _ _).alloc (Nat.le_refl _) _
  go_wp2_with fail
  generalize w1.alloc (.cells #[.string (bstr r), .string (bstr k), .int .u64 v, .bool g, .string (bstr x)] 35) = W1 at *
  refine (h2 _).mono ?_
  rintro e w2 ⟨rfl, hb2⟩
  have hB2 := below2 hb1 (below2 ha1 hb2)
  have hN2 := CellAt.new w2 35 r k v g x
  have ha2 : RowKit.Below w2.heap.size w2 (w2.alloc (.cells #[.string (bstr r), .string (bstr k), .int .u64 v, .bool g, .string (bstr x)] 35)) := (RowKit.Below.refl _ _).alloc (Nat.le_refl _) _
  replace hN1 := (hN1.step hb2).step ha2
  have hB3 := below2 hB2 ha2
  obtain ⟨c0, c1, c2, c3, c4⟩ := hN1
  obtain ⟨d0, d1, d2, d3, d4⟩ := hN2
  have hzz : (z == z) = true := by simp
  clear h1 h2 hb1 ha1 hb2 hB2 ha2
  go_wp2_with fail
  refine (works10_any _).mono ?_
  rintro e w4 ⟨rfl, hb4⟩
  have hB4 := below2 hB3 hb4
  go_wp2
  go_ret
  exact ⟨rfl, hB4⟩

end Go.Proofs.Ytbllbcbjjocphaa
