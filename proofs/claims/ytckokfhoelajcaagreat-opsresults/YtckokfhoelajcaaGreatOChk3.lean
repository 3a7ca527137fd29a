/-
  Commands and what they hold compared: written by mkeqs.py.
-/
import Derived.Test.YtckokfhoelajcaaGreatGOChk2
namespace Go.Proofs.YtckokfhoelajcaaGreat
open Go.RowKit Go.BigFrame
attribute [local go_sem] size_bstr toList_bstr

def cmC (c : Cm) : List Value := [.int .i64 c.k, .int .i64 c.cl, .int .u64 c.sq, .int .u64 c.ep, .int .i64 c.op.kind, .string (bstr c.op.row), .string (bstr c.op.col), .string (bstr c.op.val), .bool c.op.has, .string (bstr c.op.exp), .int .u64 c.pr, .int .i64 c.st, .string (bstr c.key), .string (bstr c.val), .int .i64 c.gr, .bool c.wt.mv, .int .i64 c.wt.g, .string (bstr c.wt.key), .int .i64 c.wt.i, .int .i64 c.wt.o]
abbrev cmV (c : Cm) : Value := .agg (cmC c).toArray

set_option maxHeartbeats 4000000 in
set_option maxRecDepth 100000 in
theorem op_run (n : Nat) (a b : Oq) (w : World) : (Op.equalIn (n + 2) 24 (oqV a) (oqV b)).run Tryz.prog w = .ok (decide (a = b)) w := by
  have hS : Tryz.prog.underlying 24 = some (.struct (Tryz.prog.fieldsOf 24)) := by kernel_rfl
  have hp : Tryz.prog.stoodInHeld 24 = false := by kernel_rfl
  have u0 := Tryz.underlying9
  have ag0 := Tryz.isAgg9
  have sz0 := Tryz.sizeOf9
  have u1 := Tryz.underlying3
  have ag1 := Tryz.isAgg3
  have sz1 := Tryz.sizeOf3
  have u2 := Tryz.underlying4
  have ag2 := Tryz.isAgg4
  have sz2 := Tryz.sizeOf4
  obtain ⟨o1, o2, o3, o4, o5, o6⟩ := a
  obtain ⟨o1', o2', o3', o4', o5', o6'⟩ := b
  rw [run_equalIn_agg w (n + 1) 24 _ _ hS hp]
  simp only [Program.fieldsOf, Tryz.underlying24]
  go_simp
  by_cases ho1 : o1 = o1'
  case neg => simp [ho1]
  subst ho1
  by_cases ho2 : o2 = o2'
  case neg => simp [ho2]
  subst ho2
  by_cases ho3 : o3 = o3'
  case neg => simp [ho3]
  subst ho3
  by_cases ho4 : o4 = o4'
  case neg => simp [ho4]
  subst ho4
  by_cases ho5 : o5 = o5'
  case neg => simp [ho5]
  subst ho5
  by_cases ho6 : o6 = o6'
  case neg => simp [ho6]
  subst ho6
  simp

set_option maxHeartbeats 4000000 in
set_option maxRecDepth 100000 in
theorem want_run (n : Nat) (a b : Wt) (w : World) : (Op.equalIn (n + 2) 26 (wtV a) (wtV b)).run Tryz.prog w = .ok (decide (a = b)) w := by
  have hS : Tryz.prog.underlying 26 = some (.struct (Tryz.prog.fieldsOf 26)) := by kernel_rfl
  have hp : Tryz.prog.stoodInHeld 26 = false := by kernel_rfl
  have u0 := Tryz.underlying9
  have ag0 := Tryz.isAgg9
  have sz0 := Tryz.sizeOf9
  have u1 := Tryz.underlying3
  have ag1 := Tryz.isAgg3
  have sz1 := Tryz.sizeOf3
  have u2 := Tryz.underlying4
  have ag2 := Tryz.isAgg4
  have sz2 := Tryz.sizeOf4
  obtain ⟨o1, o2, o3, o4, o5⟩ := a
  obtain ⟨o1', o2', o3', o4', o5'⟩ := b
  rw [run_equalIn_agg w (n + 1) 26 _ _ hS hp]
  simp only [Program.fieldsOf, Tryz.underlying26]
  go_simp
  by_cases ho1 : o1 = o1'
  case neg => simp [ho1]
  subst ho1
  by_cases ho2 : o2 = o2'
  case neg => simp [ho2]
  subst ho2
  by_cases ho3 : o3 = o3'
  case neg => simp [ho3]
  subst ho3
  by_cases ho4 : o4 = o4'
  case neg => simp [ho4]
  subst ho4
  by_cases ho5 : o5 = o5'
  case neg => simp [ho5]
  subst ho5
  simp

set_option maxHeartbeats 4000000 in
set_option maxRecDepth 100000 in
theorem cm_run (n : Nat) (a b : Cm) (w : World) : (Op.equalIn (n + 3) 28 (cmV a) (cmV b)).run Tryz.prog w = .ok (decide (a = b)) w := by
  have hS : Tryz.prog.underlying 28 = some (.struct (Tryz.prog.fieldsOf 28)) := by kernel_rfl
  have hp : Tryz.prog.stoodInHeld 28 = false := by kernel_rfl
  have u0 := Tryz.underlying9
  have ag0 := Tryz.isAgg9
  have sz0 := Tryz.sizeOf9
  have u1 := Tryz.underlying3
  have ag1 := Tryz.isAgg3
  have sz1 := Tryz.sizeOf3
  have u2 := Tryz.underlying22
  have ag2 := Tryz.isAgg22
  have sz2 := Tryz.sizeOf22
  have u3 := Tryz.underlying24
  have ag3 := Tryz.isAgg24
  have sz3 := Tryz.sizeOf24
  have u4 := Tryz.underlying26
  have ag4 := Tryz.isAgg26
  have sz4 := Tryz.sizeOf26
  obtain ⟨o1, o2, o3, o4, op, o6, o7, o8, o9, o10, wt⟩ := a
  obtain ⟨o1', o2', o3', o4', op', o6', o7', o8', o9', o10', wt'⟩ := b
  have kop := fun w => op_run (n + 0) op op' w
  have kwt := fun w => want_run (n + 0) wt wt' w
  rw [run_equalIn_agg w (n + 2) 28 _ _ hS hp]
  simp only [Program.fieldsOf, Tryz.underlying28, cmC]
  go_simp
  by_cases ho1 : o1 = o1'
  case neg => simp [ho1]
  subst ho1
  by_cases ho2 : o2 = o2'
  case neg => simp [ho2]
  subst ho2
  by_cases ho3 : o3 = o3'
  case neg => simp [ho3]
  subst ho3
  by_cases ho4 : o4 = o4'
  case neg => simp [ho4]
  subst ho4
  by_cases hop : op = op'
  case neg => simp [hop]
  subst hop
  by_cases ho6 : o6 = o6'
  case neg => simp [ho6]
  subst ho6
  by_cases ho7 : o7 = o7'
  case neg => simp [ho7]
  subst ho7
  by_cases ho8 : o8 = o8'
  case neg => simp [ho8]
  subst ho8
  by_cases ho9 : o9 = o9'
  case neg => simp [ho9]
  subst ho9
  by_cases ho10 : o10 = o10'
  case neg => simp [ho10]
  subst ho10
  by_cases hwt : wt = wt'
  case neg => simp [hwt]
  subst hwt
  simp

theorem cm_eql (a b : Cm) (w : World) : (binOp .eql 28 (cmV a) (cmV b)).run Tryz.prog w = .ok (.bool (decide (a = b))) w := by
  rw [run_eql_struct]
  have := cm_run 9997 a b w
  rw [show (9997 + 3 : Nat) = 10000 from by decide] at this
  rw [this]
  rfl
theorem cm_guard (op : BinOp) (x y : Operand) (xs ys : Array Value) (w : World) : (eqGuard op 28 x y (.agg xs) (.agg ys)).run Tryz.prog w = .ok () w :=
  run_eqGuard_agg w op _ x y xs ys (by kernel_rfl)

end Go.Proofs.YtckokfhoelajcaaGreat
