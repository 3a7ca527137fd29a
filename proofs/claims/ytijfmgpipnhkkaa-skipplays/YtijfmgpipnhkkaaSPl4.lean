/-
  SkipPlays: the heights, one after another.
-/
import Derived.Test.YtijfmgpipnhkkaaSPl3
namespace Go.Proofs.Ytijfmgpipnhkkaa
open Go.RowKit Go.BigFrame Go.Sort

/-- Heights from i on. -/
def HB (T : List Tw) (g i : Nat) (W : World) : Prop := ∃ cur, W.heap[g]? = some (.cells cur 3 (0, 0)) ∧ 12 ≤ cur.size ∧ ∀ j, i ≤ j → j < 12 → cur[j]? = some (.int .i64 (cnt j T : Int))
theorem HB.lt {T : List Tw} {g i : Nat} {W : World} (h : HB T g i W) : g < W.heap.size := by obtain ⟨_, h, _⟩ := h; exact blk_lt h
theorem HB.at {T : List Tw} {g i : Nat} {W : World} (h : HB T g i W) (hi : i < 12) : W.cell? ⟨g, i, none⟩ = some (.int .i64 (cnt i T : Int)) ∧ W.frozen? ⟨g, i, none⟩ = false := by
  obtain ⟨cur, h1, _, h2⟩ := h
  exact ⟨((cells_block h1).1 i).trans (h2 i (Nat.le_refl _) hi), (cells_block h1).2 i⟩
theorem HB.set {T : List Tw} {g i : Nat} {W : World} (h : HB T g i W) (v : Value) : HB T g (i + 1) (W.setCell ⟨g, i, none⟩ v) := by
  obtain ⟨cur, h1, h3, h2⟩ := h
  refine ⟨_, heap_set_same h1 v, by simpa using h3, fun j hj hj2 => ?_⟩
  rw [Array.getElem?_setIfInBounds_ne (by omega)]
  exact h2 j (by omega) hj2
theorem HB.kept {T : List Tw} {g i : Nat} {W W' : World} (h : HB T g i W) (hb : W'.heap[g]? = W.heap[g]?) : HB T g i W' := by
  obtain ⟨cur, h1, h3, h2⟩ := h
  exact ⟨cur, hb.trans h1, h3, h2⟩
theorem own_hts {T : List Tw} {w : World} {B : Nat} {v : Value} (h : w.ownsRow B 3 1 v 12 ((hts T).map (Value.int .i64))) : ∃ g cap, v = .slice (some ⟨g, 0, none⟩) 12 cap ∧ B ≤ g ∧ HB T g 0 w := by
  rcases h.2 with ⟨_, h0⟩ | ⟨g, cap, cur, rfl, hbg, hg, hnc, hcm, hcs, htake⟩
  · omega
  · refine ⟨g, cap, rfl, hbg, cur, hg, by omega, fun j _ hj => ?_⟩
    have h1 : (cur.toList.take (12 * 1))[j]? = some (.int .i64 (cnt j T : Int)) := by
      rw [htake]
      simp [hts, List.getElem?_range hj]
    rw [List.getElem?_take_of_lt (by omega)] at h1
    simpa using h1
/-- The heights' loop: where it stands. -/
structure L12 (W3 : World) (T : List Tw) (gH gW i : Nat) (W : World) : Prop where
  hb : HB T gH i W
  wt : W.heap[gW]? = some (b12 (hcnt (chT T)))
  be : Below W3.heap.size W3 W
theorem L12.want {W3 : World} {T : List Tw} {gH gW i : Nat} {W : World} (h : L12 W3 T gH gW i W) {j : Nat} (hj : j < 12) : W.cell? ⟨gW, j, none⟩ = some (.int .i64 (cnt j T : Int)) := by
  have h1 : W.heap[gW]? = some (.cells ((List.range 12).map fun j => Value.int .i64 (hcnt (chT T) j : Int)).toArray 3 (0, 0)) := h.wt
  rw [(cells_block h1).1 j, b12_get _ hj, hcnt_tw]
theorem L12.set {W3 : World} {T : List Tw} {gH gW i : Nat} {W : World} (h : L12 W3 T gH gW i W) (v : Value) (hne : gW ≠ gH) (hg : W3.heap.size ≤ gH) : L12 W3 T gH gW (i + 1) (W.setCell ⟨gH, i, none⟩ v) :=
  ⟨h.hb.set v, (heap_set_other v hne).trans h.wt, h.be.setCell hg v⟩
theorem L12.drewN {W3 : World} {T : List Tw} {gH gW i : Nat} {W : World} (h : L12 W3 T gH gW i W) (n : Nat) : L12 W3 T gH gW i (W.drewN n) :=
  ⟨h.hb.kept rfl, h.wt, below_drewN h.be n⟩

end Go.Proofs.Ytijfmgpipnhkkaa
