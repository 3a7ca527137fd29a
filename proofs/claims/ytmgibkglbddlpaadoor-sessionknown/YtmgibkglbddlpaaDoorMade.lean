/-
  'string(make([]byte, n))': n bytes 0.
-/
import Derived.Test.YtmgibkglbddlpaaDoorAid
import Derived.Laws.MakeOwn
namespace Go.Proofs.YtmgibkglbddlpaaDoor
open Go.RowKit

/-- The cells of a new row of n bytes. -/
def zs (n : Nat) : Array Value := madeCells (Value.int .u8 0).cells n
def zeros (n : Nat) : List UInt8 := List.replicate n 0
theorem zeros_length (n : Nat) : (zeros n).length = n := List.length_replicate
theorem zs_toList (n : Nat) : (zs n).toList = Lib.byteCells (zeros n) := by
  unfold zs zeros Lib.byteCells madeCells
  apply List.ext_getElem?
  intro i
  by_cases h : i < n
  · have h1 : i % 1 = 0 := Nat.mod_one i
    simp [h, Value.cells, h1]
  · simp [h]
theorem make_run (k : IntKind) (n : Nat) (hn : n ≤ 2000000) (w : World) : (Instr.makeSlice 33 (.int k (n : Int)) (.int k (n : Int))).run Tryd.prog w = .ok (.slice (some ⟨w.heap.size, 0, none⟩) n n) (w.alloc (.cells (zs n) 5)) := by
  obtain ⟨i0, hi, hz0, hz1, hz2⟩ := info_parts Tryd.infoByte
  have := run_make (P := Tryd.prog) (w := w) 33 5 i0 (.int .u8 0) Tryd.underlying33 hi hz0 k k (n : Int) (n : Int) (by omega) (by omega) (by rw [hz2]; omega) (by omega)
  rw [Int.toNat_natCast, hz1, Nat.mul_one] at this
  exact this
theorem made_run (n : Nat) (hn : n ≤ 2000000) (W : World) : (convert 33 9 (.slice (some ⟨W.heap.size, 0, none⟩) n n)).run Tryd.prog (W.alloc (.cells (zs n) 5)) = .ok (.string (bstr (zeros n))) (W.alloc (.cells (zs n) 5)) := by
  have hown : (W.alloc (.cells (zs n) 5)).ownsRow W.heap.size 5 1 (.slice (some ⟨W.heap.size, 0, none⟩) n n) n (Lib.byteCells (zeros n)) := by
    have hl : (zs n).size = n := by rw [← Array.length_toList, zs_toList, Lib.byteCells_length, zeros_length]
    refine ⟨by rw [Lib.byteCells_length, zeros_length]; omega, .inr ⟨W.heap.size, n, zs n, rfl, Nat.le_refl _, heap_alloc_new W _, Nat.le_refl _, by unfold maxLen; omega, by omega, ?_⟩⟩
    rw [zs_toList, List.take_of_length_le (by rw [Lib.byteCells_length, zeros_length]; omega)]
  exact run_convert_own hown Tryd.underlying33 Tryd.underlying5 Tryd.underlying9

end Go.Proofs.YtmgibkglbddlpaaDoor
