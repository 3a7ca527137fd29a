/-
  What the rows of this seat list of the two tables, as the walks see it; a world for the witnesses.
-/
import Derived.Test.YtmimmbcchbmnbabDoorRows
import Derived.Test.YtmimmbcchbmnbabDoorTab
import Derived.WalkKit
import Derived.ProofKit
import Derived.OpenShut
import Derived.ShutString
import Derived.Deep.DeepHandedRow
import Derived.Lib.LaidTab
namespace Go.Proofs.YtmimmbcchbmnbabDoor
open Go.ChangeShapes Go.WideShapes Go.ChangeAt Go.RowKit

theorem own : ownKnob Tryd.prog.godebug = none := by kernel_rfl
theorem gLow : Tryd.prog.globalNamed "acreage/seal.lowHalf" = some 0 := by kernel_rfl
theorem gHigh : Tryd.prog.globalNamed "acreage/seal.highHalf" = some 1 := by kernel_rfl
theorem gLowType : (Tryd.prog.globals[0]?).map (·.type) = some 40 := by kernel_rfl
theorem gHighType : (Tryd.prog.globals[1]?).map (·.type) = some 40 := by kernel_rfl
theorem cells16 : Tryd.prog.cellsOf 40 = 16 := by kernel_rfl
theorem cells1 : Tryd.prog.cellsOf 22 = 1 := by kernel_rfl

/-- The two tables, as the rows list them. -/
def laid2 {H : Type} : List (String × DataW H) := [("acreage/seal.lowHalf", Rows.laid_acreage_seal_lowHalf), ("acreage/seal.highHalf", Rows.laid_acreage_seal_highHalf)]
theorem low_all : ∀ i : Fin 16, lowT.getD i.val 0 = ((lowB i.val).toNat : Int) := by decide +kernel
theorem high_all : ∀ i : Fin 16, highT.getD i.val 0 = ((highB i.val).toNat : Int) := by decide +kernel
theorem tabs_of_laid {W : World} (h : laidMetH Tryd.prog laid2 W) : Tabs W := by
  have h1 : Lib.TabIs Tryd.prog W "acreage/seal.lowHalf" .u32 lowT :=
    Lib.tabIs_of_head (rest := [("acreage/seal.highHalf", Rows.laid_acreage_seal_highHalf)]) gLow gLowType Tryd.underlying40 Tryd.underlying22 cells1 cells16 h
  have h2 : Lib.TabIs Tryd.prog W "acreage/seal.highHalf" .u32 highT := by
    have h0 : laidMet Tryd.prog laid2 W := h
    obtain ⟨ps, ⟨g0, t0, cs0, f0, p0, q0, hg0, ht0, hv0, hd0, ⟨g1, t1, cs1, f1, p1, q1, hg1, ht1, hv1, hd1, _, _⟩, _⟩, _⟩ := h0
    obtain rfl := Option.some.inj (gHigh.symm.trans hg1)
    obtain rfl := Option.some.inj (gHighType.symm.trans ht1)
    unfold Lib.TabIs
    rw [hv1, ← Lib.cells_of_tab (zs := highT) Tryd.underlying40 Tryd.underlying22 cells1 cells16 hd1]
  have c1 := h1.cell gLow
  have c2 := h2.cell gHigh
  refine ⟨?_, fun i hi => ?_, fun i hi => ?_⟩
  · have h3 := c2 0 (by decide)
    unfold World.cell? at h3
    by_cases hs : 1 < W.heap.size
    · omega
    · simp [Array.getElem?_eq_none (Nat.le_of_not_lt hs)] at h3
  · rw [c1 i hi, low_all ⟨i, hi⟩]
  · rw [c2 i hi, high_all ⟨i, hi⟩]

/-- A block's cells put anew. -/
def putCells (cs : Array Value) : Obj → Obj
  | .cells _ t frozen => .cells cs t frozen
  | o => o
/-- A world for the witness: the settled one, the tables holding what their initialisers lay. -/
noncomputable def laidWorld (os : Os) : World :=
  { World.holding Tryd.prog os ⟨#[], #[], []⟩ with heap := ((World.holding Tryd.prog os ⟨#[], #[], []⟩).heap.modify 0 (putCells (lowT.map fun z => .int .u32 z).toArray)).modify 1 (putCells (highT.map fun z => .int .u32 z).toArray) }

end Go.Proofs.YtmimmbcchbmnbabDoor
