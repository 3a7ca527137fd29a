/-
  The law's own 'works', and when two lists are the same.
-/
import Derived.Test.YtmekcfbopjgbeaaCNew
import Derived.Test.YtmekcfbopjgbeaaCEnc
namespace Go.Proofs.Ytmekcfbopjgbeaa
open Go.RowKit Go.BigFrame Go.Sort
attribute [local go_sem] size_bstr toList_bstr ls_def
theorem cell_eql5 (r k : List UInt8) (v : Int) (z : Bool) (x r' k' : List UInt8) (v' : Int) (z' : Bool) (x' : List UInt8) (w : World) : (binOp .eql 34 (.agg #[.string (bstr r), .string (bstr k), .int .u64 v, .bool z, .string (bstr x)]) (.agg #[.string (bstr r'), .string (bstr k'), .int .u64 v', .bool z', .string (bstr x')])).run Try.prog w = .ok (.bool (eqC ⟨r, k, v, z, x⟩ ⟨r', k', v', z', x'⟩)) w := cell_eql ⟨r, k, v, z, x⟩ ⟨r', k', v', z', x'⟩ w
theorem cell_neq5 (r k : List UInt8) (v : Int) (z : Bool) (x r' k' : List UInt8) (v' : Int) (z' : Bool) (x' : List UInt8) (w : World) : (binOp .neq 34 (.agg #[.string (bstr r), .string (bstr k), .int .u64 v, .bool z, .string (bstr x)]) (.agg #[.string (bstr r'), .string (bstr k'), .int .u64 v', .bool z', .string (bstr x')])).run Try.prog w = .ok (.bool (!eqC ⟨r, k, v, z, x⟩ ⟨r', k', v', z', x'⟩)) w := cell_neq ⟨r, k, v, z, x⟩ ⟨r', k', v', z', x'⟩ w
attribute [local go_sem high] cell_eql5 cell_neq5 cell_guard

/-- A row of cells that has just been laid. -/
theorem CRow.lit (W : World) (cs : List Cl) (t : TypeId) : CRow (W.alloc (.cells (ccells cs).toArray t)) W.heap.size 0 cs := by
  refine CRow.of_cells fun j u hj => ?_
  rw [Addr.add_lit, Nat.zero_add, World.cell?_alloc_at _ t W.heap.size j rfl]
  simpa using hj
def xc (r : List UInt8) (v : Int) (z : Bool) : Cl := ⟨r, [120], v, z, []⟩
def wk4 : List Cl := [xc [98] 1 false, xc [97] 1 false, xc [97] 2 false, xc [97] 2 true]
def wk3 : List Cl := [xc [97] 2 false, xc [97] 1 false, xc [98] 1 false]
def wk2 : List Cl := [xc [97] 2 false, xc [98] 1 false]
def wk1 : List Cl := [⟨[97], [120], 1, false, [118]⟩]
theorem wk_sort : sortL wk4 = wk3 := by rfl
theorem wk_new : newL wk4 = wk2 := by rfl
theorem uv1 : Lib.uvarint 1 = [1] := Lib.uvarint_small (by omega)
theorem wk_enc : encB wk1 = [1, 1, 97, 1, 120, 1, 0, 1, 118] := by
  have h : encL wk1 = [1, 1, 97, 1, 120, 1, 0, 1, 118] := by simp [encL, bodyL, layL, txt, wk1, uv1]
  unfold encB
  rw [if_pos (by decide), h, if_pos (by decide)]
theorem wk_encE : encE wk1 = 0 := by
  have h : encL wk1 = [1, 1, 97, 1, 120, 1, 0, 1, 118] := by simp [encL, bodyL, layL, txt, wk1, uv1]
  unfold encE
  rw [if_pos (by decide), h, if_pos (by decide)]
theorem wk_fits : ∀ c ∈ wk4, Fits c := by
  intro c hc
  simp [wk4, xc] at hc
  rcases hc with rfl | rfl | rfl | rfl <;> simp [Fits]

end Go.Proofs.Ytmekcfbopjgbeaa
