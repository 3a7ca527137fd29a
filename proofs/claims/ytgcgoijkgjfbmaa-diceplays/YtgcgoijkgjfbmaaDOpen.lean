/-
  How arguments that are lists of bytes, lists of numbers, or numbers are read.
-/
import Derived.Test.YtgcgoijkgjfbmaaRows
import Derived.Test.YtgcgoijkgjfbmaaDLay
import Derived.ProofKit
import Derived.OpenShut
import Derived.ShutString
import Derived.ChangeSame
import Derived.Carry
import Derived.ChangeSlices
namespace Go.Proofs.Ytgcgoijkgjfbmaa
set_option maxRecDepth 100000
open Go.ChangeShapes Go.WideShapes Go.ChangeAt Go.RowKit

theorem k_own : ownKnob Try.prog.godebug = none := by kernel_rfl
theorem k_laidOut : laidOutB Try.prog = true := by kernel_rfl
theorem int_cells : Try.prog.cellsOf 3 = 1 := by kernel_rfl
theorem byte_cells : Try.prog.cellsOf 5 = 1 := by kernel_rfl

section
variable {H : Type} {enc : TypeId × Value → H} {w : World} {base : Nat} {spare : Nat → Bool} {held : Bool}

/-- An argument that is a list of numbers. -/
theorem arg_ints {v : Value} {d : DataW H} {p : List MemPlace} {r : Reach} {b : Nat} (hv : Value.okWide Try.prog w r b 23 v) (h : DataW.Trod enc Try.prog w base spare held 23 v d p) :
    ∃ (q : Option Addr) (cap : Nat) (l : List Int), v = .slice q l.length cap ∧ IArg w q l ∧ l.length ≤ cap ∧ cap ≤ maxLen ∧ (q = none → l = [] ∧ cap = 0) ∧ ∀ x ∈ l, (Lit.int .i64 x).wf = true := by
  obtain ⟨a0, len0, cap0, rfl⟩ := okWide_slice Try.underlying23 hv
  obtain ⟨fuel, hf⟩ := h
  rcases open_ints Try.underlying23 Try.underlying3 int_cells hf with ⟨hcs, _⟩ | ⟨a, len, cap, zs, hcs, _, hl, hm, hz, _, hcell, hwz⟩
  · simp [Value.cells] at hcs
    obtain ⟨rfl, rfl, rfl⟩ := hcs
    exact ⟨none, 0, [], rfl, fun h => absurd h (by simp), by simp, by decide, fun _ => ⟨rfl, rfl⟩, by simp⟩
  · simp [Value.cells] at hcs
    obtain ⟨rfl, rfl, rfl⟩ := hcs
    have hlz : len0 ≤ zs.length := by rw [hz]; split <;> omega
    have htl : (zs.take len0).length = len0 := by rw [List.length_take]; omega
    refine ⟨some a, cap0, zs.take len0, by rw [htl], fun h0 => ?_, by omega, hm, fun h => by simp at h, fun x hx => hwz x (List.mem_of_mem_take hx)⟩
    rw [htl] at h0
    obtain ⟨bb, off, spot⟩ := a
    have hc0 := hcell 0 (by omega)
    have hspot : spot = none := by simpa [Addr.add] using World.cell?_spot hc0
    subst hspot
    have hlt := World.block_lt_of_cell? w _ hc0
    refine ⟨bb, off, rfl, by simpa [Addr.add] using hlt, fun i hi => ?_⟩
    rw [htl] at hi
    have := hcell i (by omega)
    rw [Addr.add_lit] at this
    rw [this]
    simp [List.getD, List.getElem?_eq_getElem (show i < zs.length by omega)]
/-- An argument that is a list of bytes. -/
theorem arg_bytes {v : Value} {d : DataW H} {p : List MemPlace} {r : Reach} {b : Nat} (hv : Value.okWide Try.prog w r b 22 v) (h : DataW.Trod enc Try.prog w base spare held 22 v d p) :
    ∃ (q : Option Addr) (cap : Nat) (l : List UInt8), v = .slice q l.length cap ∧ BArg w q l ∧ l.length ≤ cap ∧ cap ≤ maxLen ∧ (q = none → l = [] ∧ cap = 0) := by
  obtain ⟨a0, len0, cap0, rfl⟩ := okWide_slice Try.underlying22 hv
  obtain ⟨fuel, hf⟩ := h
  rcases open_ints Try.underlying22 Try.underlying5 byte_cells hf with ⟨hcs, _⟩ | ⟨a, len, cap, zs, hcs, _, hl, hm, hz, _, hcell, hwz⟩
  · simp [Value.cells] at hcs
    obtain ⟨rfl, rfl, rfl⟩ := hcs
    exact ⟨none, 0, [], rfl, fun h => absurd h (by simp), by simp, by decide, fun _ => ⟨rfl, rfl⟩⟩
  · simp [Value.cells] at hcs
    obtain ⟨rfl, rfl, rfl⟩ := hcs
    have hlz : len0 ≤ zs.length := by rw [hz]; split <;> omega
    have htl : ((zs.take len0).map byt).length = len0 := by rw [List.length_map, List.length_take]; omega
    refine ⟨some a, cap0, (zs.take len0).map byt, by rw [htl], fun h0 => ?_, by omega, hm, fun h => by simp at h⟩
    rw [htl] at h0
    obtain ⟨bb, off, spot⟩ := a
    have hc0 := hcell 0 (by omega)
    have hspot : spot = none := by simpa [Addr.add] using World.cell?_spot hc0
    subst hspot
    refine ⟨bb, off, rfl, fun i hi => ?_⟩
    rw [htl] at hi
    have := hcell i (by omega)
    rw [Addr.add_lit] at this
    rw [this]
    have hiz : i < zs.length := by omega
    have hw := bounds_u8 (hwz zs[i] (List.getElem_mem hiz))
    simp [List.getD, List.getElem?_eq_getElem hiz, byt_toNat]
    omega
end

end Go.Proofs.Ytgcgoijkgjfbmaa
