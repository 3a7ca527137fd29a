/-
  Commands and what they hold compared: written by mkeqs.py.
  How arguments that are commands are read.
-/
import Derived.Test.YtbdbefgfejdbjaaGreatGOChk2
import Derived.Test.YtbdbefgfejdbjaaGreatJOpen
namespace Go.Proofs.YtbdbefgfejdbjaaGreat
open Go.RowKit Go.BigFrame
attribute [local go_sem] size_bstr toList_bstr

def cmC (c : Cm) : List Value := [.int .i64 c.k, .int .i64 c.cl, .int .u64 c.sq, .int .u64 c.ep, .int .i64 c.op.kind, .string (bstr c.op.row), .string (bstr c.op.col), .string (bstr c.op.val), .bool c.op.has, .string (bstr c.op.exp), .int .u64 c.pr, .int .i64 c.st, .string (bstr c.key), .string (bstr c.val), .int .i64 c.gr, .bool c.wt.mv, .int .i64 c.wt.g, .string (bstr c.wt.key), .int .i64 c.wt.i, .int .i64 c.wt.o]
abbrev cmV (c : Cm) : Value := .agg (cmC c).toArray

set_option maxHeartbeats 4000000 in
set_option maxRecDepth 100000 in
theorem op_run (n : Nat) (a b : Oq) (w : World) : (Op.equalIn (n + 2) 24 (oqV a) (oqV b)).run Tryz.prog w = .ok (decide (a = b)) w := by
  have hS : Tryz.prog.underlying 24 = some (.struct (Tryz.prog.fieldsOf 24)) := by kernel_rfl
  have hp : Tryz.prog.stoodInHeld 24 = false := by kernel_rfl
  have u0 := Tryz.underlying9
  have ag0 := Tryz.isAgg9
  have sz0 := Tryz.sizeOf9
  have u1 := Tryz.underlying3
  have ag1 := Tryz.isAgg3
  have sz1 := Tryz.sizeOf3
  have u2 := Tryz.underlying4
  have ag2 := Tryz.isAgg4
  have sz2 := Tryz.sizeOf4
  obtain ⟨o1, o2, o3, o4, o5, o6⟩ := a
  obtain ⟨o1', o2', o3', o4', o5', o6'⟩ := b
  rw [run_equalIn_agg w (n + 1) 24 _ _ hS hp]
  simp only [Program.fieldsOf, Tryz.underlying24]
  go_simp
  by_cases ho1 : o1 = o1'
  case neg => simp [ho1]
  subst ho1
  by_cases ho2 : o2 = o2'
  case neg => simp [ho2]
  subst ho2
  by_cases ho3 : o3 = o3'
  case neg => simp [ho3]
  subst ho3
  by_cases ho4 : o4 = o4'
  case neg => simp [ho4]
  subst ho4
  by_cases ho5 : o5 = o5'
  case neg => simp [ho5]
  subst ho5
  by_cases ho6 : o6 = o6'
  case neg => simp [ho6]
  subst ho6
  simp

set_option maxHeartbeats 4000000 in
set_option maxRecDepth 100000 in
theorem want_run (n : Nat) (a b : Wt) (w : World) : (Op.equalIn (n + 2) 26 (wtV a) (wtV b)).run Tryz.prog w = .ok (decide (a = b)) w := by
  have hS : Tryz.prog.underlying 26 = some (.struct (Tryz.prog.fieldsOf 26)) := by kernel_rfl
  have hp : Tryz.prog.stoodInHeld 26 = false := by kernel_rfl
  have u0 := Tryz.underlying9
  have ag0 := Tryz.isAgg9
  have sz0 := Tryz.sizeOf9
  have u1 := Tryz.underlying3
  have ag1 := Tryz.isAgg3
  have sz1 := Tryz.sizeOf3
  have u2 := Tryz.underlying4
  have ag2 := Tryz.isAgg4
  have sz2 := Tryz.sizeOf4
  obtain ⟨o1, o2, o3, o4, o5⟩ := a
  obtain ⟨o1', o2', o3', o4', o5'⟩ := b
  rw [run_equalIn_agg w (n + 1) 26 _ _ hS hp]
  simp only [Program.fieldsOf, Tryz.underlying26]
  go_simp
  by_cases ho1 : o1 = o1'
  case neg => simp [ho1]
  subst ho1
  by_cases ho2 : o2 = o2'
  case neg => simp [ho2]
  subst ho2
  by_cases ho3 : o3 = o3'
  case neg => simp [ho3]
  subst ho3
  by_cases ho4 : o4 = o4'
  case neg => simp [ho4]
  subst ho4
  by_cases ho5 : o5 = o5'
  case neg => simp [ho5]
  subst ho5
  simp

set_option maxHeartbeats 4000000 in
set_option maxRecDepth 100000 in
theorem cm_run (n : Nat) (a b : Cm) (w : World) : (Op.equalIn (n + 3) 28 (cmV a) (cmV b)).run Tryz.prog w = .ok (decide (a = b)) w := by
  have hS : Tryz.prog.underlying 28 = some (.struct (Tryz.prog.fieldsOf 28)) := by kernel_rfl
  have hp : Tryz.prog.stoodInHeld 28 = false := by kernel_rfl
  have u0 := Tryz.underlying9
  have ag0 := Tryz.isAgg9
  have sz0 := Tryz.sizeOf9
  have u1 := Tryz.underlying3
  have ag1 := Tryz.isAgg3
  have sz1 := Tryz.sizeOf3
  have u2 := Tryz.underlying22
  have ag2 := Tryz.isAgg22
  have sz2 := Tryz.sizeOf22
  have u3 := Tryz.underlying24
  have ag3 := Tryz.isAgg24
  have sz3 := Tryz.sizeOf24
  have u4 := Tryz.underlying26
  have ag4 := Tryz.isAgg26
  have sz4 := Tryz.sizeOf26
  obtain ⟨o1, o2, o3, o4, op, o6, o7, o8, o9, o10, wt⟩ := a
  obtain ⟨o1', o2', o3', o4', op', o6', o7', o8', o9', o10', wt'⟩ := b
  have kop := fun w => op_run (n + 0) op op' w
  have kwt := fun w => want_run (n + 0) wt wt' w
  rw [run_equalIn_agg w (n + 2) 28 _ _ hS hp]
  simp only [Program.fieldsOf, Tryz.underlying28, cmC]
  go_simp
  by_cases ho1 : o1 = o1'
  case neg => simp [ho1]
  subst ho1
  by_cases ho2 : o2 = o2'
  case neg => simp [ho2]
  subst ho2
  by_cases ho3 : o3 = o3'
  case neg => simp [ho3]
  subst ho3
  by_cases ho4 : o4 = o4'
  case neg => simp [ho4]
  subst ho4
  by_cases hop : op = op'
  case neg => simp [hop]
  subst hop
  by_cases ho6 : o6 = o6'
  case neg => simp [ho6]
  subst ho6
  by_cases ho7 : o7 = o7'
  case neg => simp [ho7]
  subst ho7
  by_cases ho8 : o8 = o8'
  case neg => simp [ho8]
  subst ho8
  by_cases ho9 : o9 = o9'
  case neg => simp [ho9]
  subst ho9
  by_cases ho10 : o10 = o10'
  case neg => simp [ho10]
  subst ho10
  by_cases hwt : wt = wt'
  case neg => simp [hwt]
  subst hwt
  simp

theorem cm_eql (a b : Cm) (w : World) : (binOp .eql 28 (cmV a) (cmV b)).run Tryz.prog w = .ok (.bool (decide (a = b))) w := by
  rw [run_eql_struct]
  have := cm_run 9997 a b w
  rw [show (9997 + 3 : Nat) = 10000 from by decide] at this
  rw [this]
  rfl
theorem cm_guard (op : BinOp) (x y : Operand) (xs ys : Array Value) (w : World) : (eqGuard op 28 x y (.agg xs) (.agg ys)).run Tryz.prog w = .ok () w :=
  run_eqGuard_agg w op _ x y xs ys (by kernel_rfl)

end Go.Proofs.YtbdbefgfejdbjaaGreat

namespace Go.Proofs.YtbdbefgfejdbjaaGreat
set_option maxRecDepth 100000
open Go.ChangeShapes Go.WideShapes Go.ChangeAt Go.RowKit Go.Deep

theorem op_cells : Tryz.prog.cellsOf 24 = 6 := by kernel_rfl
theorem want_cells : Tryz.prog.cellsOf 26 = 5 := by kernel_rfl
theorem cmd_cells : Tryz.prog.cellsOf 28 = 20 := by kernel_rfl
theorem int_cells : Tryz.prog.cellsOf 3 = 1 := by kernel_rfl

section
variable {H : Type} {enc : TypeId × Value → H} {w : World} {base : Nat} {spare : Nat → Bool} {held : Bool}

theorem trod_struct6x {P : Program} {t : TypeId} {f0 f1 f2 f3 f4 f5 : Field} {fuel : Nat} {cs : List Value} {x : DataW H × List MemPlace} (ht : P.underlying t = some (.struct #[f0, f1, f2, f3, f4, f5])) (h : DataW.trod enc P w base spare held fuel t cs = some x) :
    ∃ y0 y1 y2 y3 y4 y5 n, x.1 = .agg [y0.1, y1.1, y2.1, y3.1, y4.1, y5.1] ∧ cs.length = P.cellsOf t ∧ DataW.trod enc P w base spare held n f0.type ((cs.drop f0.offset).take (P.cellsOf f0.type)) = some y0 ∧
      DataW.trod enc P w base spare held n f1.type ((cs.drop f1.offset).take (P.cellsOf f1.type)) = some y1 ∧
      DataW.trod enc P w base spare held n f2.type ((cs.drop f2.offset).take (P.cellsOf f2.type)) = some y2 ∧
      DataW.trod enc P w base spare held n f3.type ((cs.drop f3.offset).take (P.cellsOf f3.type)) = some y3 ∧
      DataW.trod enc P w base spare held n f4.type ((cs.drop f4.offset).take (P.cellsOf f4.type)) = some y4 ∧
      DataW.trod enc P w base spare held n f5.type ((cs.drop f5.offset).take (P.cellsOf f5.type)) = some y5 := by
  obtain ⟨xs, n, _, rfl, hl, hlen, hf⟩ := DataW.trod_struct ht h
  match xs, hlen with
  | [y0, y1, y2, y3, y4, y5], _ => exact ⟨y0, y1, y2, y3, y4, y5, n, by simp, hl, by simpa using hf 0 f0 rfl, by simpa using hf 1 f1 rfl, by simpa using hf 2 f2 rfl, by simpa using hf 3 f3 rfl, by simpa using hf 4 f4 rfl, by simpa using hf 5 f5 rfl⟩
theorem trod_struct11x {P : Program} {t : TypeId} {f0 f1 f2 f3 f4 f5 f6 f7 f8 f9 f10 : Field} {fuel : Nat} {cs : List Value} {x : DataW H × List MemPlace} (ht : P.underlying t = some (.struct #[f0, f1, f2, f3, f4, f5, f6, f7, f8, f9, f10])) (h : DataW.trod enc P w base spare held fuel t cs = some x) :
    ∃ y0 y1 y2 y3 y4 y5 y6 y7 y8 y9 y10 n, x.1 = .agg [y0.1, y1.1, y2.1, y3.1, y4.1, y5.1, y6.1, y7.1, y8.1, y9.1, y10.1] ∧ cs.length = P.cellsOf t ∧ DataW.trod enc P w base spare held n f0.type ((cs.drop f0.offset).take (P.cellsOf f0.type)) = some y0 ∧
      DataW.trod enc P w base spare held n f1.type ((cs.drop f1.offset).take (P.cellsOf f1.type)) = some y1 ∧
      DataW.trod enc P w base spare held n f2.type ((cs.drop f2.offset).take (P.cellsOf f2.type)) = some y2 ∧
      DataW.trod enc P w base spare held n f3.type ((cs.drop f3.offset).take (P.cellsOf f3.type)) = some y3 ∧
      DataW.trod enc P w base spare held n f4.type ((cs.drop f4.offset).take (P.cellsOf f4.type)) = some y4 ∧
      DataW.trod enc P w base spare held n f5.type ((cs.drop f5.offset).take (P.cellsOf f5.type)) = some y5 ∧
      DataW.trod enc P w base spare held n f6.type ((cs.drop f6.offset).take (P.cellsOf f6.type)) = some y6 ∧
      DataW.trod enc P w base spare held n f7.type ((cs.drop f7.offset).take (P.cellsOf f7.type)) = some y7 ∧
      DataW.trod enc P w base spare held n f8.type ((cs.drop f8.offset).take (P.cellsOf f8.type)) = some y8 ∧
      DataW.trod enc P w base spare held n f9.type ((cs.drop f9.offset).take (P.cellsOf f9.type)) = some y9 ∧
      DataW.trod enc P w base spare held n f10.type ((cs.drop f10.offset).take (P.cellsOf f10.type)) = some y10 := by
  obtain ⟨xs, n, _, rfl, hl, hlen, hf⟩ := DataW.trod_struct ht h
  match xs, hlen with
  | [y0, y1, y2, y3, y4, y5, y6, y7, y8, y9, y10], _ => exact ⟨y0, y1, y2, y3, y4, y5, y6, y7, y8, y9, y10, n, by simp, hl, by simpa using hf 0 f0 rfl, by simpa using hf 1 f1 rfl, by simpa using hf 2 f2 rfl, by simpa using hf 3 f3 rfl, by simpa using hf 4 f4 rfl, by simpa using hf 5 f5 rfl, by simpa using hf 6 f6 rfl, by simpa using hf 7 f7 rfl, by simpa using hf 8 f8 rfl, by simpa using hf 9 f9 rfl, by simpa using hf 10 f10 rfl⟩
theorem view_op {fuel : Nat} {cs : List Value} {x : DataW H × List MemPlace} (h : DataW.trod enc Tryz.prog w base spare held fuel 24 cs = some x) :
    ∃ o : Oq, cs = [.int .i64 o.kind, .string (bstr o.row), .string (bstr o.col), .string (bstr o.val), .bool o.has, .string (bstr o.exp)] := by
  obtain ⟨y0, y1, y2, y3, y4, y5, n, hx, hl, h0, h1, h2, h3, h4, h5⟩ := trod_struct6x Tryz.underlying24 h
  rw [op_cells] at hl
  match cs, hl with
  | [c0, c1, c2, c3, c4, c5], _ =>
    simp only [bool_cells, int_cells, string_cells, List.drop_zero, List.drop_succ_cons, List.take_succ_cons, List.take_zero] at h0 h1 h2 h3 h4 h5
    obtain ⟨v0, e0, k0⟩ := DataW.trod_int Tryz.underlying3 h0
    obtain ⟨v1, e1, _⟩ := DataW.trod_string Tryz.underlying9 h1
    obtain ⟨v2, e2, _⟩ := DataW.trod_string Tryz.underlying9 h2
    obtain ⟨v3, e3, _⟩ := DataW.trod_string Tryz.underlying9 h3
    obtain ⟨v4, e4, _⟩ := DataW.trod_bool Tryz.underlying4 h4
    obtain ⟨v5, e5, _⟩ := DataW.trod_string Tryz.underlying9 h5
    simp only [List.cons.injEq, and_true] at e0 e1 e2 e3 e4 e5
    subst e0 e1 e2 e3 e4 e5
    exact ⟨⟨v0, v1.data.toList, v2.data.toList, v3.data.toList, v4, v5.data.toList⟩, by simp only [bstr_data]⟩
theorem view_wt {fuel : Nat} {cs : List Value} {x : DataW H × List MemPlace} (h : DataW.trod enc Tryz.prog w base spare held fuel 26 cs = some x) :
    ∃ o : Wt, cs = [.bool o.mv, .int .i64 o.g, .string (bstr o.key), .int .i64 o.i, .int .i64 o.o] := by
  obtain ⟨y0, y1, y2, y3, y4, n, hx, hl, h0, h1, h2, h3, h4⟩ := trod_struct5x Tryz.underlying26 h
  rw [want_cells] at hl
  match cs, hl with
  | [c0, c1, c2, c3, c4], _ =>
    simp only [bool_cells, int_cells, string_cells, List.drop_zero, List.drop_succ_cons, List.take_succ_cons, List.take_zero] at h0 h1 h2 h3 h4
    obtain ⟨v0, e0, _⟩ := DataW.trod_bool Tryz.underlying4 h0
    obtain ⟨v1, e1, k1⟩ := DataW.trod_int Tryz.underlying3 h1
    obtain ⟨v2, e2, _⟩ := DataW.trod_string Tryz.underlying9 h2
    obtain ⟨v3, e3, k3⟩ := DataW.trod_int Tryz.underlying3 h3
    obtain ⟨v4, e4, k4⟩ := DataW.trod_int Tryz.underlying3 h4
    simp only [List.cons.injEq, and_true] at e0 e1 e2 e3 e4
    subst e0 e1 e2 e3 e4
    exact ⟨⟨v0, v1, v2.data.toList, v3, v4⟩, by simp only [bstr_data]⟩
theorem view_cmd {fuel : Nat} {cs : List Value} {x : DataW H × List MemPlace} (h : DataW.trod enc Tryz.prog w base spare held fuel 28 cs = some x) :
    ∃ c : Cm, cs = cmC c ∧ (0 ≤ c.sq ∧ c.sq ≤ 18446744073709551615) ∧ (0 ≤ c.ep ∧ c.ep ≤ 18446744073709551615) ∧ 0 ≤ c.pr ∧ c.pr ≤ 18446744073709551615 := by
  obtain ⟨y0, y1, y2, y3, y4, y5, y6, y7, y8, y9, y10, n, hx, hl, h0, h1, h2, h3, h4, h5, h6, h7, h8, h9, h10⟩ := trod_struct11x Tryz.underlying28 h
  rw [cmd_cells] at hl
  match cs, hl with
  | [c0, c1, c2, c3, c4, c5, c6, c7, c8, c9, c10, c11, c12, c13, c14, c15, c16, c17, c18, c19], _ =>
    simp only [int_cells, op_cells, string_cells, u64_cells, want_cells, List.drop_zero, List.drop_succ_cons, List.take_succ_cons, List.take_zero] at h0 h1 h2 h3 h4 h5 h6 h7 h8 h9 h10
    obtain ⟨v0, e0, k0⟩ := DataW.trod_int Tryz.underlying3 h0
    obtain ⟨v1, e1, k1⟩ := DataW.trod_int Tryz.underlying3 h1
    obtain ⟨v2, e2, k2⟩ := DataW.trod_int Tryz.underlying22 h2
    obtain ⟨v3, e3, k3⟩ := DataW.trod_int Tryz.underlying22 h3
    obtain ⟨v4, e4⟩ := view_op h4
    obtain ⟨v5, e5, k5⟩ := DataW.trod_int Tryz.underlying22 h5
    obtain ⟨v6, e6, k6⟩ := DataW.trod_int Tryz.underlying3 h6
    obtain ⟨v7, e7, _⟩ := DataW.trod_string Tryz.underlying9 h7
    obtain ⟨v8, e8, _⟩ := DataW.trod_string Tryz.underlying9 h8
    obtain ⟨v9, e9, k9⟩ := DataW.trod_int Tryz.underlying3 h9
    obtain ⟨v10, e10⟩ := view_wt h10
    simp only [List.cons.injEq, and_true] at e0 e1 e2 e3 e4 e5 e6 e7 e8 e9 e10
    obtain ⟨a4, b4, d4, f4, g4, i4⟩ := e4
    obtain ⟨a10, b10, d10, f10, g10⟩ := e10
    subst e0 e1 e2 e3 e5 e6 e7 e8 e9 a4 b4 d4 f4 g4 i4 a10 b10 d10 f10 g10
    have b2 := bounds_u64 k2.2
    have b3 := bounds_u64 k3.2
    have b5 := bounds_u64 k5.2
    have b2' : v2 ≤ 18446744073709551615 := by omega
    have b3' : v3 ≤ 18446744073709551615 := by omega
    have b5' : v5 ≤ 18446744073709551615 := by omega
    exact ⟨⟨v0, v1, v2, v3, v4, v5, v6, v7.data.toList, v8.data.toList, v9, v10⟩, by simp only [cmC, bstr_data], ⟨b2.1, b2'⟩, ⟨b3.1, b3'⟩, b5.1, b5'⟩
/-- An argument that is a command. -/
theorem arg_cmd {v : Value} {d : DataW H} {p : List MemPlace} {r : Reach} {b : Nat} (hv : Value.okWide Tryz.prog w r b 28 v) (h : DataW.Trod enc Tryz.prog w base spare held 28 v d p) :
    ∃ c : Cm, v = cmV c ∧ (0 ≤ c.sq ∧ c.sq ≤ 18446744073709551615) ∧ (0 ≤ c.ep ∧ c.ep ≤ 18446744073709551615) ∧ 0 ≤ c.pr ∧ c.pr ≤ 18446744073709551615 := by
  obtain ⟨cs, rfl, _⟩ := okWide_struct Tryz.underlying28 hv
  obtain ⟨fuel, hf⟩ := h
  obtain ⟨c, hc, hb⟩ := view_cmd hf
  refine ⟨c, ?_, hb⟩
  obtain ⟨l⟩ := cs
  have : l = cmC c := by simpa [Value.cells] using hc
  rw [this]
end

end Go.Proofs.YtbdbefgfejdbjaaGreat
