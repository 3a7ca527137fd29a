/-
  The contracts of none, fresh and ahead.
-/
import Derived.Test.YtijfmgpipnhkkaaSMem
import Derived.Test.YtijfmgpipnhkkaaKCell
import Derived.Test.YtijfmgpipnhkkaaShelf
import Derived.BigQuiet
import Derived.Deep.RegionHeld3
namespace Go.Proofs.Ytijfmgpipnhkkaa
open Go.RowKit Go.BigFrame Go.Sort
attribute [local go_sem] size_bstr toList_bstr ls_def

set_option maxHeartbeats 1000000 in
theorem none_ok (l hd : Nat) (w : World) (hl : w.cell? ⟨l, 0, none⟩ = some (.pointer (some ⟨hd, 0, none⟩))) :
    Calls Try.prog 18 #[.pointer (some ⟨l, 0, none⟩)] w fun e w' => e = .returned (.bool false) ∧ w' = w := by
  go_enter Try.func18, Try.ntmps18
  go_wp2
  go_ret
  exact ⟨rfl, rfl⟩

set_option maxHeartbeats 4000000 in
set_option maxRecDepth 100000 in
theorem sfresh_any (c : Cl) (w : World) (hc : Fits c) :
    Calls Try.prog 23 #[clV c] w fun e w' => e = .returned (clV c) ∧ Below w.heap.size w w' := by
  obtain ⟨r, k, v, g, x⟩ := c
  obtain ⟨h1, h2, h3⟩ := hc
  simp only at h1 h2 h3
  have hF := Fr.start w ⟨r, k, v, g, x⟩
  have hB : Below w.heap.size w ((w.alloc (.cells #[.string (bstr r), .string (bstr k), .int .u64 v, .bool g, .string (bstr x)] 34)).alloc (.cells #[.string ⟨#[]⟩, .string ⟨#[]⟩, .int .u64 0, .bool false, .string ⟨#[]⟩] 34)) := ((Below.refl _ _).alloc (Nat.le_refl _) _).alloc (by simp) _
  go_enter Try.func23, Try.ntmps23
  go_wp2_with fail
  generalize (w.alloc (.cells #[.string (bstr r), .string (bstr k), .int .u64 v, .bool g, .string (bstr x)] 34)).alloc (.cells #[.string ⟨#[]⟩, .string ⟨#[]⟩, .int .u64 0, .bool false, .string ⟨#[]⟩] 34) = W at *
  obtain ⟨c0, c1, _, _, c4, f0, f1, f4⟩ := hF.facts
  simp only at c0 c1 c4
  go_region_held3 (fun w' => w'.cell? ⟨w.heap.size, 0, none⟩ = some (.string (bstr r)) ∧ w'.cell? ⟨w.heap.size, 1, none⟩ = some (.string (bstr k)) ∧ w'.cell? ⟨w.heap.size, 4, none⟩ = some (.string (bstr x))) (first | with_reducible exact ⟨c0, c1, c4⟩ | go_keep)
    (first
      | (go_at_call 36; refine (CClone_any _ _ (by omega)).mono ?_; rintro e wf ⟨rfl, hbf⟩; replace hB := below2 hB.drew hbf; replace hF := hF.drew.step hbf; clear c0 c1 c4 f0 f1 f4; obtain ⟨c0, c1, _, _, c4, f0, f1, f4⟩ := hF.facts; obtain ⟨n0, n1, n4⟩ := hF.still; simp only at c0 c1 c4 n0 n1 n4; clear hbf)
      | (go_at_call 36; refine (CClone_any _ _ (by omega)).mono ?_; rintro e wf ⟨rfl, hbf⟩; replace hB := below2 hB hbf; replace hF := hF.step hbf; clear c0 c1 c4 f0 f1 f4 n0 n1 n4; obtain ⟨c0, c1, _, _, c4, f0, f1, f4⟩ := hF.facts; obtain ⟨n0, n1, n4⟩ := hF.still; simp only at c0 c1 c4 n0 n1 n4; clear hbf))
  obtain ⟨d0, d1, d2, d3, d4, g0, g1, g2, g3, g4⟩ := hF.res
  obtain ⟨_, _, c2, c3, _⟩ := hF.facts
  simp only at c2 c3
  clear n0 n1 n4 f0 f1 f4
  go_wp2
  generalize hW : ((((wf.setCell ⟨w.heap.size + 1, 0, none⟩ _).setCell ⟨w.heap.size + 1, 1, none⟩ _).setCell ⟨w.heap.size + 1, 2, none⟩ _).setCell ⟨w.heap.size + 1, 3, none⟩ _).setCell ⟨w.heap.size + 1, 4, none⟩ _ = W'
  obtain ⟨r0, r1, r2, r3, r4⟩ := set5_reads d0 d1 d2 d3 d4 hW
  refine bodyPost_ret (v := clV ⟨r, k, v, g, x⟩) (by simp [results, Try.results23, go_sem, r0, r1, r2, r3, r4]) rfl ⟨rfl, ?_⟩
  rw [← hW]
  exact below_set5 _ _ _ _ _ hB (Nat.le_succ _)

end Go.Proofs.Ytijfmgpipnhkkaa
