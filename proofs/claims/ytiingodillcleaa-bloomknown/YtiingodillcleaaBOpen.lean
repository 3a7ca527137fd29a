/-
  How the arguments of the laws over bloom are read: lists of texts; what the bound on the bulk gives.
-/
import Derived.Test.YtiingodillcleaaRows
import Derived.Test.YtiingodillcleaaBCut
import Derived.ProofKit
import Derived.OpenShut
import Derived.ShutString
import Derived.ChangeSame
import Derived.Carry
import Derived.ChangeSlices
import Derived.SliceStrings
import Derived.JoinedCond
namespace Go.Proofs.Ytiingodillcleaa
set_option maxRecDepth 100000
open Go.ChangeShapes Go.WideShapes Go.ChangeAt Go.RowKit

theorem k_own : ownKnob Try.prog.godebug = none := by kernel_rfl
theorem k_laidOut : laidOutB Try.prog = true := by kernel_rfl
theorem str_cells : Try.prog.cellsOf 9 = 1 := by kernel_rfl

section
variable {H : Type} {enc : TypeId × Value → H} {w : World} {base : Nat} {spare : Nat → Bool} {held : Bool}

/-- An argument that is a list of texts. -/
theorem arg_strs9 {v : Value} {d : DataW H} {p : List MemPlace} {r : Reach} {b : Nat} (hv : Value.okWide Try.prog w r b 22 v) (h : DataW.Trod enc Try.prog w base spare held 22 v d p) :
    ∃ (q : Option Addr) (b off cap : Nat) (l : List (List UInt8)), v = .slice q l.length cap ∧ SArg w q b off l ∧ l.length ≤ 9223372036854775807 ∧ ∀ s ∈ l, s.length ≤ 9223372036854775807 := by
  obtain ⟨a0, len0, cap0, rfl⟩ := okWide_slice Try.underlying22 hv
  obtain ⟨fuel, hf⟩ := h
  rcases open_strings Try.underlying22 Try.underlying9 str_cells hf with ⟨hcs, _⟩ | ⟨a, len, cap, ss, hcs, _, hlc, hcm, hsl, hx, hcell, hsz⟩
  · simp [Value.cells] at hcs
    obtain ⟨rfl, rfl, rfl⟩ := hcs
    exact ⟨none, 0, 0, 0, [], rfl, fun h => absurd h (by simp), by simp, fun s hs => by cases hs⟩
  · simp [Value.cells] at hcs
    obtain ⟨rfl, rfl, rfl⟩ := hcs
    have hlz : len0 ≤ ss.length := by rw [hsl]; split <;> omega
    have hlm : ((ss.take len0).map fun s : ByteArray => s.data.toList).length = len0 := by rw [List.length_map, List.length_take]; omega
    have hb1 : ((ss.take len0).map fun s : ByteArray => s.data.toList).length ≤ 9223372036854775807 := by rw [hlm]; unfold maxLen at hcm; omega
    have hb2 : ∀ s ∈ (ss.take len0).map fun s : ByteArray => s.data.toList, s.length ≤ 9223372036854775807 := fun s hs => by
      obtain ⟨t, ht, rfl⟩ := List.mem_map.1 hs
      have := hsz t (List.mem_of_mem_take ht)
      rw [← size_list]
      unfold maxLen at this
      omega
    by_cases h0 : 0 < len0
    · obtain ⟨bb, off, spot⟩ := a
      have hc0 := hcell 0 (by omega)
      have hspot : spot = none := by simpa [Addr.add] using World.cell?_spot hc0
      subst hspot
      have hlt := World.block_lt_of_cell? w _ hc0
      refine ⟨some ⟨bb, off, none⟩, bb, off, cap0, (ss.take len0).map fun s : ByteArray => s.data.toList, by rw [hlm], fun _ => ⟨rfl, fun i hi => ?_, by simpa [Addr.add] using hlt⟩, hb1, hb2⟩
      rw [hlm] at hi
      have := hcell i (by omega)
      simp only [Addr.add_lit] at this
      rw [this, List.getElem_map, List.getElem_take, bstr_data, List.getD_eq_getElem?_getD, List.getElem?_eq_getElem (by omega)]
      rfl
    · exact ⟨some a, 0, 0, cap0, (ss.take len0).map fun s : ByteArray => s.data.toList, by rw [hlm], fun h1 => by rw [hlm] at h1; exact absurd h1 h0, hb1, hb2⟩
end

end Go.Proofs.Ytiingodillcleaa
