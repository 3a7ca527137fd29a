/-
  session: what lies in a cell, read.
  session.read: what lies in a cell.
-/
import Derived.Test.YtckokfhoelajcaaGreatJDec
import Derived.Test.YtckokfhoelajcaaGreatGOWk
import Derived.Deep.DeepHandedRow
namespace Go.Proofs.YtckokfhoelajcaaGreat
open Go.RowKit Go.BigFrame
attribute [local go_sem] size_bstr toList_bstr

def eqR (a b : Rz) : Bool := decide (a.err = b.err) && a.found == b.found && a.row == b.row && a.val == b.val && decide ((a.ver : Int) = (b.ver : Int))
theorem eqR_iff {a b : Rz} : eqR a b = true ↔ a = b := by
  cases a
  cases b
  simp [eqR, and_assoc]
  intros
  omega
theorem eqFields_rz (a b : Rz) (w : World) : (Op.equalIn 10000 46 (rzV a) (rzV b)).run Tryz.prog w = .ok (eqR a b) w := by
  have hS : Tryz.prog.underlying 46 = some (.struct (Tryz.prog.fieldsOf 46)) := by kernel_rfl
  have hp : Tryz.prog.stoodInHeld 46 = false := by kernel_rfl
  have u := Tryz.underlying9
  have ag := Tryz.isAgg9
  have sz := Tryz.sizeOf9
  have u2 := Tryz.underlying22
  have ag2 := Tryz.isAgg22
  have sz2 := Tryz.sizeOf22
  have u3 := Tryz.underlying4
  have ag3 := Tryz.isAgg4
  have sz3 := Tryz.sizeOf4
  have u4 := Tryz.underlying31
  have ag4 := Tryz.isAgg31
  have sz4 := Tryz.sizeOf31
  rw [show (10000 : Nat) = 9999 + 1 from rfl, run_equalIn_agg w 9999 46 _ _ hS hp]
  simp only [Program.fieldsOf, Tryz.underlying46]
  go_simp
  obtain ⟨r, c, v, g, x⟩ := a
  obtain ⟨r', c', v', g', x'⟩ := b
  simp only [eqR]
  by_cases h1 : r = r' <;> by_cases h2 : c = c' <;> by_cases h3 : v = v' <;> by_cases h4 : g = g' <;> by_cases h5 : (x : Int) = (x' : Int) <;> simp [h1, h2, h3, h4, h5]
theorem eqFields_rz9 (a b : Rz) (w : World) : (Op.equalIn 9999 46 (rzV a) (rzV b)).run Tryz.prog w = .ok (eqR a b) w := by
  have hS : Tryz.prog.underlying 46 = some (.struct (Tryz.prog.fieldsOf 46)) := by kernel_rfl
  have hp : Tryz.prog.stoodInHeld 46 = false := by kernel_rfl
  have u := Tryz.underlying9
  have ag := Tryz.isAgg9
  have sz := Tryz.sizeOf9
  have u2 := Tryz.underlying22
  have ag2 := Tryz.isAgg22
  have sz2 := Tryz.sizeOf22
  have u3 := Tryz.underlying4
  have ag3 := Tryz.isAgg4
  have sz3 := Tryz.sizeOf4
  have u4 := Tryz.underlying31
  have ag4 := Tryz.isAgg31
  have sz4 := Tryz.sizeOf31
  rw [show (9999 : Nat) = 9998 + 1 from rfl, run_equalIn_agg w 9998 46 _ _ hS hp]
  simp only [Program.fieldsOf, Tryz.underlying46]
  go_simp
  obtain ⟨r, c, v, g, x⟩ := a
  obtain ⟨r', c', v', g', x'⟩ := b
  simp only [eqR]
  by_cases h1 : r = r' <;> by_cases h2 : c = c' <;> by_cases h3 : v = v' <;> by_cases h4 : g = g' <;> by_cases h5 : (x : Int) = (x' : Int) <;> simp [h1, h2, h3, h4, h5]
theorem rz_eql (k : Int) (g : Bool) (r v : List UInt8) (n : Nat) (k' : Int) (g' : Bool) (r' v' : List UInt8) (n' : Nat) (w : World) : (binOp .eql 46 (.agg #[.int .i64 k, .bool g, .string (bstr r), .string (bstr v), .int .u64 (n : Int)]) (.agg #[.int .i64 k', .bool g', .string (bstr r'), .string (bstr v'), .int .u64 (n' : Int)])).run Tryz.prog w = .ok (.bool (eqR ⟨k, g, r, v, n⟩ ⟨k', g', r', v', n'⟩)) w := by
  have := eqFields_rz ⟨k, g, r, v, n⟩ ⟨k', g', r', v', n'⟩ w
  rw [run_eql_struct, this]
  rfl
theorem rz_guard (op : BinOp) (x y : Operand) (xs ys : Array Value) (w : World) : (eqGuard op 46 x y (.agg xs) (.agg ys)).run Tryz.prog w = .ok () w :=
  run_eqGuard_agg w op _ x y xs ys (by kernel_rfl)

end Go.Proofs.YtckokfhoelajcaaGreat

namespace Go.Proofs.YtckokfhoelajcaaGreat
open Go.RowKit Go.BigFrame
attribute [local go_sem] size_bstr toList_bstr

/-- What lies in a cell: is it a session's; its Seq, its result; the error. -/
def rdOk (c : List UInt8) : Bool := decide (1 ≤ nV c ∧ nV c ≤ 1099511627776) && decO (nR c)
def rdN (c : List UInt8) : Nat := if rdOk c then nV c else 0
def rdR (c : List UInt8) : Rz := if rdOk c then decR (nR c) else rz0
def rdE (c : List UInt8) : Int := if c = [] then 0 else if rdOk c then 0 else 4
theorem nV_nil : nV [] = 0 := by
  unfold nV okN
  simp [numOf, numFrom]
theorem rdOk_nil : rdOk [] = false := by
  unfold rdOk
  rw [nV_nil]
  simp
theorem rdN_nil : rdN [] = 0 := by unfold rdN; rw [rdOk_nil]; rfl
theorem rdR_nil : rdR [] = rz0 := by unfold rdR; rw [rdOk_nil]; rfl
theorem rdE_nil : rdE [] = 0 := if_pos rfl

end Go.Proofs.YtckokfhoelajcaaGreat
