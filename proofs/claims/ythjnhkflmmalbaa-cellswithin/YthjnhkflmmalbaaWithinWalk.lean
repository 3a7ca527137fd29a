/-
  The walk of the law CellsWithin.
-/
import Derived.Test.YthjnhkflmmalbaaCOwn
namespace Go.Proofs.Ythjnhkflmmalbaa
open Go.RowKit Go.BigFrame Go.Sort
attribute [local go_sem] size_bstr toList_bstr ls_def

set_option maxHeartbeats 4000000 in
set_option maxRecDepth 100000 in
theorem within_walk (q : Option Addr) (b off cap : Nat) (cs : List Cl) (lo hi : List UInt8) (w : World) (hq : 0 < cs.length → q = some ⟨b, off, none⟩ ∧ CRow w b off cs ∧ b < w.heap.size) (hf : ∀ c ∈ cs, Fits c) (hn : cs.length * 64 ≤ 140737488351232) (hnil : q = none → cs = [] ∧ cap = 0) :
    Calls Try.prog 4 #[.slice q cs.length cap, rngV lo hi] w fun e w' => e = .returned (.bool true) ∧ RowKit.Below w.heap.size w w' := by
  have hlen : (withinL lo hi cs).length ≤ cs.length := List.length_filter_le _ _
  have hB0 : RowKit.Below w.heap.size w (w.alloc (.cells #[.string (bstr lo), .string (bstr hi)] 29)) := (RowKit.Below.refl _ _).alloc (Nat.le_refl _) _
  have ra0 := RngAt.new w 29 lo hi
  have hqs : ∀ W, RowKit.Below w.heap.size w W → (0 < cs.length → q = some ⟨b, off, none⟩ ∧ CRow W b off cs ∧ b < W.heap.size) := fun W hb h => ⟨(hq h).1, (hq h).2.1.step hb (hq h).2.2, Nat.lt_of_lt_of_le (hq h).2.2 hb.size⟩
  go_enter Try.func4, Try.ntmps4
  go_wp2_with fail
  generalize w.alloc (.cells #[.string (bstr lo), .string (bstr hi)] 29) = w0 at *
  refine (Own_any q b off cap cs w0 (hqs w0 hB0) hn hnil).mono ?_
  rintro e w1 ⟨v1, rfl, hown1, hb1⟩
  obtain ⟨p1, c1, g1, rfl, _, hg1, hq1, _⟩ := own_get hown1
  have ra1 := ra0.step hb1
  replace hb1 := below2 hB0 hb1
  obtain ⟨r0, r1⟩ := id ra1
  clear hown1 ra0
  go_wp2_with fail
  refine (Within_any p1 g1 0 c1 cs lo hi w1 hq1 hf hn).mono ?_
  rintro e w2 ⟨v2, rfl, hown2, hb2⟩
  have ra2 := ra1.step hb2
  have hz2 : w1.heap.size ≤ w2.heap.size := hb2.size
  have hq2 := hq_step hq1 hb2 (fun h => (hq1 h).2.2)
  have hlt1 : 0 < cs.length → g1 < w1.heap.size := fun h => (hq1 h).2.2
  have hb2' := below2 hb1 hb2
  clear hb2 r0 r1 hq1 ra1
  obtain ⟨r0, r1⟩ := id ra2
  obtain ⟨p2, c2, g2, rfl, _, hg2, hr2, hfz2⟩ := own_get hown2
  clear hown2
  go_wp2_with fail
  refine (RWithin_any q b off cap cs lo hi w2 (hqs w2 hb2') hn).mono ?_
  rintro e w3 ⟨v3, rfl, hown3, hb3⟩
  have hq3 := hq_step hq2 hb3 (fun h => (hq2 h).2.2)
  have hr3 := hq_step hr2 hb3 (fun h => (hr2 h).2.2)
  have hfz3 : 0 < (withinL lo hi cs).length → ∀ o, w3.frozen? ⟨g2, o, none⟩ = false := fun h o => by rw [hb3.frozen (p := ⟨g2, o, none⟩) (hr2 h).2.2]; exact hfz2 h o
  have hb3' := below2 hb2' hb3
  obtain ⟨p3, c3, g3, rfl, _, hg3, hs3, _⟩ := own_get hown3
  clear hown3 hb3 hq2 hr2 hfz2 r0 r1 ra2
  go_wp2_with fail
  refine (Same_any p2 p3 g2 0 c2 g3 0 c3 (withinL lo hi cs) w3 (hq_two hr3) (hq_two hs3) (by omega)).mono ?_
  rintro e w4 ⟨rfl, hb4⟩
  have hq4 := hq_step hq3 hb4 (fun h => (hq3 h).2.2)
  have hr4 := hq_step hr3 hb4 (fun h => (hr3 h).2.2)
  have hfz4 : 0 < (withinL lo hi cs).length → ∀ o, w4.frozen? ⟨g2, o, none⟩ = false := fun h o => by rw [hb4.frozen (p := ⟨g2, o, none⟩) (hr3 h).2.2]; exact hfz3 h o
  have hb4' := below2 hb3' hb4
  clear hb4 hq3 hr3 hfz3 hs3
  go_wp2_with fail
  refine (spoil_any p2 g2 c2 (withinL lo hi cs) w4 (fun h => ⟨(hr4 h).1, (hr4 h).2.1, hfz4 h⟩) (by omega)).mono ?_
  rintro e w5 ⟨rfl, hb5⟩
  have hq5 := hq_step hq4 hb5 (fun h => Nat.lt_of_lt_of_le (hlt1 h) hg2)
  have hwg : w.heap.size ≤ g2 := Nat.le_trans hb1.size hg2
  have hb5' : RowKit.Below w.heap.size w w5 := hb4'.trans (hb5.mono hwg)
  clear hb5 hq4 hr4 hfz4
  go_wp2_with fail
  refine (Same_any p1 q g1 0 c1 b off cap cs w5 (hq_two hq5) (hq_two (hqs w5 hb5')) (by omega)).mono ?_
  rintro e w6 ⟨rfl, hb6⟩
  have hb6' := below2 hb5' hb6
  clear hb6 hq5
  go_wp2_with fail
  refine (works_any w6).mono ?_
  rintro e w7 ⟨rfl, hb7⟩
  have hb7' := below2 hb6' hb7
  clear hb7
  go_wp2
  go_ret
  exact ⟨rfl, hb7'⟩

end Go.Proofs.Ythjnhkflmmalbaa
