/-
  BlockAgain, walked.
-/
import Derived.Test.YtbllbcbjjocphaaEWks
namespace Go.Proofs.Ytbllbcbjjocphaa
open Go.RowKit Go.BigFrame Go.Sort
attribute [local go_sem] size_bstr toList_bstr ls_def

theorem bld_good {L : List Cl} (g : Good L) : bldB L = blkB L ∧ bldE L = 0 := bld_ok (okL_iff.2 ⟨g.ok, g.asc⟩) g.len
theorem good_many {L : List Cl} (g : Good L) : L.length ≤ 6000 := by
  have h1 := body_many L g.ok
  have h2 := g.len
  rw [blkB_len] at h2
  omega
/-- A list that is owned, as an argument. -/
theorem own_hq {w : World} {B : Nat} {L : List Cl} {q : Option Addr} {c : Nat} (h : w.ownsRow B 35 5 (.slice q L.length c) L.length (ccells L)) : ∃ g, 0 < L.length → q = some ⟨g, 0, none⟩ ∧ CRow w g 0 L ∧ g < w.heap.size := by
  by_cases h0 : L = []
  · exact ⟨0, fun h => by rw [h0] at h; simp at h⟩
  · obtain ⟨g7, cap7, hv7, _, hg7, _, _, hCR, _⟩ := own_crow h h0
    injection hv7 with hv7a _ _
    exact ⟨g7, fun _ => ⟨hv7a, hCR, hg7⟩⟩

set_option maxHeartbeats 2000000 in
set_option maxRecDepth 100000 in
theorem Again_any (s : List UInt8) (w : World) (hs : s.length ≤ 9223372036854775807) :
    Calls Try.prog 7 #[.string (bstr s)] w fun e w' => e = .returned (.bool true) ∧ RowKit.Below w.heap.size w w' := by
  go_enter Try.func7, Try.ntmps7
  go_wp2_with fail
  refine (works10_any w).mono ?_
  rintro e w1 ⟨rfl, hb1⟩
  go_wp2_with fail
  refine (Read_any s w1 hs).mono ?_
  rintro e w2 ⟨hQ, hb2⟩
  have hB2 := below2 hb1 hb2
  have hF := fun W => Find_any s [97] [120] W hs
  obtain ⟨L, q, c, rfl, hG, hL, hown⟩ | ⟨rfl, hno⟩ := hQ
  · have hF' : ∀ W, Calls Try.prog 16 #[.string (bstr s), .string ⟨#[97]⟩, .string ⟨#[120]⟩] W fun e w' => (∃ c z, e = .returned (.tuple #[clV c, .bool z, .int .i64 0])) ∧ RowKit.Below W.heap.size W w' := fun W => (hF W).mono (by
      rintro e w' ⟨hq, hb⟩
      obtain ⟨L', hG', hL', rfl⟩ | ⟨_, hno⟩ := hq
      · exact ⟨⟨_, _, rfl⟩, hb⟩
      · exact absurd hL (hno L hG))
    obtain ⟨g, hg⟩ := own_hq hown
    have hm := good_many hG
    have hBl := fun W (hb : RowKit.Below w2.heap.size w2 W) => Build_any q g 0 c L W (fun h => ⟨(hg h).1, (hg h).2.1.step hb (hg h).2.2, Nat.lt_of_lt_of_le (hg h).2.2 hb.size⟩) (by omega)
    rw [(bld_good hG).1, (bld_good hG).2, hL] at hBl
    clear hF hG hL hown hg hb1 hb2
    go_wp2_with fail
    refine (hF' _).mono ?_
    rintro e w3 ⟨⟨c', z', rfl⟩, hb3⟩
    have hal : RowKit.Below w3.heap.size w3 (w3.alloc (.cells #[.string (bstr c'.row), .string (bstr c'.col), .int .u64 c'.ver, .bool c'.gone, .string (bstr c'.val)] 35)) := (RowKit.Below.refl _ _).alloc (Nat.le_refl _) _
    have hB3 := below2 hb3 hal
    go_wp2_with fail
    refine (hBl _ hB3).mono ?_
    rintro e w4 ⟨rfl, hb4⟩
    have hB4 := below2 hB2 (below2 hB3 hb4)
    have hss : (s == s) = true := by simp
    go_wp2
    go_ret
    exact ⟨rfl, hB4⟩
  · have hF' : ∀ W, Calls Try.prog 16 #[.string (bstr s), .string ⟨#[97]⟩, .string ⟨#[120]⟩] W fun e w' => e = .returned (.tuple #[clV ⟨[], [], 0, false, []⟩, .bool false, .int .i64 4]) ∧ RowKit.Below W.heap.size W w' := fun W => (hF W).mono (by
      rintro e w' ⟨hq, hb⟩
      obtain ⟨L', hG', hL', rfl⟩ | ⟨rfl, _⟩ := hq
      · exact absurd hL' (hno L' hG')
      · exact ⟨rfl, hb⟩)
    clear hF hno hb1 hb2
    go_wp2_with fail
    refine (hF' _).mono ?_
    rintro e w3 ⟨rfl, hb3⟩
    have hB3 := below2 hB2 hb3
    go_wp2
    go_ret
    exact ⟨rfl, hB3.alloc hB3.size _⟩

end Go.Proofs.Ytbllbcbjjocphaa
