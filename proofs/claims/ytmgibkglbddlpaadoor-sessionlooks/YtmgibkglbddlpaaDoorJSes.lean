/-
  session: what lies in a cell, read.
-/
import Derived.Test.YtmgibkglbddlpaaDoorJDec
import Derived.Test.YtmgibkglbddlpaaDoorJEn2
import Derived.Deep.DeepHandedRow
namespace Go.Proofs.YtmgibkglbddlpaaDoor
open Go.RowKit Go.BigFrame
attribute [local go_sem] size_bstr toList_bstr

def eqR (a b : Rz) : Bool := decide (a.err = b.err) && a.found == b.found && a.row == b.row && a.val == b.val && decide ((a.ver : Int) = (b.ver : Int))
theorem eqR_iff {a b : Rz} : eqR a b = true ↔ a = b := by
  cases a
  cases b
  simp [eqR, and_assoc]
  intros
  omega
theorem eqFields_rz (a b : Rz) (w : World) : (Op.equalIn 10000 25 (rzV a) (rzV b)).run Tryd.prog w = .ok (eqR a b) w := by
  have hS : Tryd.prog.underlying 25 = some (.struct (Tryd.prog.fieldsOf 25)) := by kernel_rfl
  have hp : Tryd.prog.stoodInHeld 25 = false := by kernel_rfl
  have u := Tryd.underlying9
  have ag := Tryd.isAgg9
  have sz := Tryd.sizeOf9
  have u2 := Tryd.underlying22
  have ag2 := Tryd.isAgg22
  have sz2 := Tryd.sizeOf22
  have u3 := Tryd.underlying4
  have ag3 := Tryd.isAgg4
  have sz3 := Tryd.sizeOf4
  have u4 := Tryd.underlying23
  have ag4 := Tryd.isAgg23
  have sz4 := Tryd.sizeOf23
  rw [show (10000 : Nat) = 9999 + 1 from rfl, run_equalIn_agg w 9999 25 _ _ hS hp]
  simp only [Program.fieldsOf, Tryd.underlying25]
  go_simp
  obtain ⟨r, c, v, g, x⟩ := a
  obtain ⟨r', c', v', g', x'⟩ := b
  simp only [eqR]
  by_cases h1 : r = r' <;> by_cases h2 : c = c' <;> by_cases h3 : v = v' <;> by_cases h4 : g = g' <;> by_cases h5 : (x : Int) = (x' : Int) <;> simp [h1, h2, h3, h4, h5]
theorem eqFields_rz9 (a b : Rz) (w : World) : (Op.equalIn 9999 25 (rzV a) (rzV b)).run Tryd.prog w = .ok (eqR a b) w := by
  have hS : Tryd.prog.underlying 25 = some (.struct (Tryd.prog.fieldsOf 25)) := by kernel_rfl
  have hp : Tryd.prog.stoodInHeld 25 = false := by kernel_rfl
  have u := Tryd.underlying9
  have ag := Tryd.isAgg9
  have sz := Tryd.sizeOf9
  have u2 := Tryd.underlying22
  have ag2 := Tryd.isAgg22
  have sz2 := Tryd.sizeOf22
  have u3 := Tryd.underlying4
  have ag3 := Tryd.isAgg4
  have sz3 := Tryd.sizeOf4
  have u4 := Tryd.underlying23
  have ag4 := Tryd.isAgg23
  have sz4 := Tryd.sizeOf23
  rw [show (9999 : Nat) = 9998 + 1 from rfl, run_equalIn_agg w 9998 25 _ _ hS hp]
  simp only [Program.fieldsOf, Tryd.underlying25]
  go_simp
  obtain ⟨r, c, v, g, x⟩ := a
  obtain ⟨r', c', v', g', x'⟩ := b
  simp only [eqR]
  by_cases h1 : r = r' <;> by_cases h2 : c = c' <;> by_cases h3 : v = v' <;> by_cases h4 : g = g' <;> by_cases h5 : (x : Int) = (x' : Int) <;> simp [h1, h2, h3, h4, h5]
theorem rz_eql (k : Int) (g : Bool) (r v : List UInt8) (n : Nat) (k' : Int) (g' : Bool) (r' v' : List UInt8) (n' : Nat) (w : World) : (binOp .eql 25 (.agg #[.int .i64 k, .bool g, .string (bstr r), .string (bstr v), .int .u64 (n : Int)]) (.agg #[.int .i64 k', .bool g', .string (bstr r'), .string (bstr v'), .int .u64 (n' : Int)])).run Tryd.prog w = .ok (.bool (eqR ⟨k, g, r, v, n⟩ ⟨k', g', r', v', n'⟩)) w := by
  have := eqFields_rz ⟨k, g, r, v, n⟩ ⟨k', g', r', v', n'⟩ w
  rw [run_eql_struct, this]
  rfl
theorem rz_guard (op : BinOp) (x y : Operand) (xs ys : Array Value) (w : World) : (eqGuard op 25 x y (.agg xs) (.agg ys)).run Tryd.prog w = .ok () w :=
  run_eqGuard_agg w op _ x y xs ys (by kernel_rfl)


/-- An answer: a Seq, a result. -/
abbrev anV (n : Nat) (r : Rz) : Value := .agg #[.int .u64 (n : Int), .int .i64 r.err, .bool r.found, .string (bstr r.row), .string (bstr r.val), .int .u64 (r.ver : Int)]
theorem eqFields_an (n m : Nat) (a b : Rz) (w : World) : (Op.equalIn 10000 36 (anV n a) (anV m b)).run Tryd.prog w = .ok (decide ((n : Int) = (m : Int)) && eqR a b) w := by
  have hS : Tryd.prog.underlying 36 = some (.struct (Tryd.prog.fieldsOf 36)) := by kernel_rfl
  have hp : Tryd.prog.stoodInHeld 36 = false := by kernel_rfl
  have u := Tryd.underlying34
  have ag := Tryd.isAgg34
  have sz := Tryd.sizeOf34
  have hi := eqFields_rz9 a b w
  rw [show (10000 : Nat) = 9999 + 1 from rfl, run_equalIn_agg w 9999 36 _ _ hS hp]
  simp only [Program.fieldsOf, Tryd.underlying36]
  go_simp
  obtain ⟨r, c, v, g, x⟩ := a
  obtain ⟨r', c', v', g', x'⟩ := b
  simp only [eqR]
  by_cases h0 : (n : Int) = (m : Int) <;> by_cases h1 : r = r' <;> by_cases h2 : c = c' <;> by_cases h3 : v = v' <;> by_cases h4 : g = g' <;> by_cases h5 : (x : Int) = (x' : Int) <;> simp [h0, h1, h2, h3, h4, h5]
theorem an_eql (n : Nat) (k : Int) (g : Bool) (r v : List UInt8) (x m : Nat) (k' : Int) (g' : Bool) (r' v' : List UInt8) (x' : Nat) (w : World) : (binOp .eql 36 (.agg #[.int .u64 (n : Int), .int .i64 k, .bool g, .string (bstr r), .string (bstr v), .int .u64 (x : Int)]) (.agg #[.int .u64 (m : Int), .int .i64 k', .bool g', .string (bstr r'), .string (bstr v'), .int .u64 (x' : Int)])).run Tryd.prog w = .ok (.bool (decide ((n : Int) = (m : Int)) && eqR ⟨k, g, r, v, x⟩ ⟨k', g', r', v', x'⟩)) w := by
  have := eqFields_an n m ⟨k, g, r, v, x⟩ ⟨k', g', r', v', x'⟩ w
  rw [run_eql_struct, this]
  rfl
theorem an_guard (op : BinOp) (x y : Operand) (xs ys : Array Value) (w : World) : (eqGuard op 36 x y (.agg xs) (.agg ys)).run Tryd.prog w = .ok () w :=
  run_eqGuard_agg w op _ x y xs ys (by kernel_rfl)

/-- An answer lies there. -/
def anC (n : Nat) (r : Rz) : Array Value := #[.int .u64 (n : Int), .int .i64 r.err, .bool r.found, .string (bstr r.row), .string (bstr r.val), .int .u64 (r.ver : Int)]
def AnB (w : World) (b : Nat) (n : Nat) (r : Rz) : Prop := w.heap[b]? = some (.cells (anC n r) 36 (0, 0))
theorem AnB.lt {w : World} {b n : Nat} {r : Rz} (h : AnB w b n r) : b < w.heap.size := blk_lt h
theorem AnB.below {w w' : World} {b n : Nat} {r : Rz} {B : Nat} (h : AnB w b n r) (hb : Below B w w') (hB : b < B) : AnB w' b n r := (hb.block b hB).trans h
theorem AnB.frz {w : World} {b n : Nat} {r : Rz} (h : AnB w b n r) : ∀ o, w.frozen? ⟨b, o, none⟩ = false := (mcells h).2
theorem AnB.facts {w : World} {b n : Nat} {r : Rz} (h : AnB w b n r) : w.cell? ⟨b, 0, none⟩ = some (.int .u64 (n : Int)) ∧ w.cell? ⟨b, 1, none⟩ = some (.int .i64 r.err) ∧ w.cell? ⟨b, 2, none⟩ = some (.bool r.found) ∧ w.cell? ⟨b, 3, none⟩ = some (.string (bstr r.row)) ∧ w.cell? ⟨b, 4, none⟩ = some (.string (bstr r.val)) ∧ w.cell? ⟨b, 5, none⟩ = some (.int .u64 (r.ver : Int)) :=
  ⟨(mcells h).1 0, (mcells h).1 1, (mcells h).1 2, (mcells h).1 3, (mcells h).1 4, (mcells h).1 5⟩
theorem AnB.set {w : World} {b n : Nat} {r : Rz} (h : AnB w b n r) (n' : Nat) (r' : Rz) : AnB ((((((w.setCell ⟨b, 0, none⟩ (.int .u64 (n' : Int))).setCell ⟨b, 1, none⟩ (.int .i64 r'.err)).setCell ⟨b, 2, none⟩ (.bool r'.found)).setCell ⟨b, 3, none⟩ (.string (bstr r'.row))).setCell ⟨b, 4, none⟩ (.string (bstr r'.val))).setCell ⟨b, 5, none⟩ (.int .u64 (r'.ver : Int))) b n' r' := by
  have h0 := heap_set_same h (o := 0) (.int .u64 (n' : Int))
  have h1 := heap_set_same h0 (o := 1) (.int .i64 r'.err)
  have h2 := heap_set_same h1 (o := 2) (.bool r'.found)
  have h3 := heap_set_same h2 (o := 3) (.string (bstr r'.row))
  have h4 := heap_set_same h3 (o := 4) (.string (bstr r'.val))
  exact heap_set_same h4 (o := 5) (.int .u64 (r'.ver : Int))
theorem bel_set6 {w W : World} {o p q r s t : Value} (h : Below w.heap.size w W) : Below w.heap.size w ((((((W.setCell ⟨w.heap.size, 0, none⟩ o).setCell ⟨w.heap.size, 1, none⟩ p).setCell ⟨w.heap.size, 2, none⟩ q).setCell ⟨w.heap.size, 3, none⟩ r).setCell ⟨w.heap.size, 4, none⟩ s).setCell ⟨w.heap.size, 5, none⟩ t) :=
  bel_set (bel_set (bel_set (bel_set (bel_set (bel_set h (Nat.le_refl _)) (Nat.le_refl _)) (Nat.le_refl _)) (Nat.le_refl _)) (Nat.le_refl _)) (Nat.le_refl _)
theorem ret_an2 {fn : Func} {p u : Tmp} (h : fn.results = #[.cell p 36, .tmp u]) {R : Ending → World → Prop} {a : Act} {w : World} {b n : Nat} {r : Rz} {v : Value} (hp : a.tmps.getD p undef = .pointer (some ⟨b, 0, none⟩)) (hu : a.tmps.getD u undef = v) (hat : AnB w b n r) (hd : a.defers = []) (hR : R (.returned (.tuple #[anV n r, v])) w) :
    bodyPost Tryd.prog fn R .ret a w := by
  obtain ⟨q0, q1, q2, q3, q4, q5⟩ := hat.facts
  exact bodyPost_ret (v := .tuple #[anV n r, v]) (by rw [res_cell2 h, hp, hu]; simp [go_sem, q0, q1, q2, q3, q4, q5]) hd hR
theorem AnB.new (w : World) : AnB (w.alloc (.cells #[.int .u64 0, .int .i64 0, .bool false, .string ⟨#[]⟩, .string ⟨#[]⟩, .int .u64 0] 36)) w.heap.size 0 rz0 := heap_alloc_new w _

end Go.Proofs.YtmgibkglbddlpaaDoor
