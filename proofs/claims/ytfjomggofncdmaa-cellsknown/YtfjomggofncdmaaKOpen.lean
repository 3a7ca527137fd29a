/-
  How arguments that are ranges, cells, or lists of ranges are read.
-/
import Derived.Test.YtfjomggofncdmaaRows
import Derived.Test.YtfjomggofncdmaaKOrd
import Derived.ProofKit
import Derived.OpenShut
import Derived.ShutString
import Derived.ChangeSame
import Derived.Carry
namespace Go.Proofs.Ytfjomggofncdmaa
set_option maxRecDepth 100000
open Go.ChangeShapes Go.WideShapes Go.ChangeAt Go.RowKit

theorem k_own : ownKnob Try.prog.godebug = none := by kernel_rfl
theorem k_laidOut : laidOutB Try.prog = true := by kernel_rfl
theorem rng_cells : Try.prog.cellsOf 38 = 2 := by kernel_rfl
theorem string_cells : Try.prog.cellsOf 9 = 1 := by kernel_rfl

section
variable {H : Type} {enc : TypeId × Value → H} {w : World} {base : Nat} {spare : Nat → Bool} {held : Bool}

theorem open_rng {fuel : Nat} {cs : List Value} {x : DataW H × List MemPlace} (h : DataW.trod enc Try.prog w base spare held fuel 38 cs = some x) :
    ∃ a b : List UInt8, cs = [.string (bstr a), .string (bstr b)] := by
  obtain ⟨y0, y1, n, _, hl, h0, h1⟩ := trod_struct2 Try.underlying38 h
  rw [rng_cells] at hl
  match cs, hl with
  | [c0, c1], _ =>
    simp only [string_cells, List.drop_zero, List.drop_succ_cons, List.take_succ_cons, List.take_zero] at h0 h1
    obtain ⟨s, e0, _⟩ := DataW.trod_string Try.underlying9 h0
    obtain ⟨t, e1, _⟩ := DataW.trod_string Try.underlying9 h1
    simp only [List.cons.injEq, and_true] at e0 e1
    subst e0 e1
    exact ⟨s.data.toList, t.data.toList, by simp only [bstr_data]⟩
theorem open_str {fuel : Nat} {cs : List Value} {x : DataW H × List MemPlace} (h : DataW.trod enc Try.prog w base spare held fuel 9 cs = some x) :
    ∃ a : List UInt8, cs = [.string (bstr a)] := by
  obtain ⟨s, e0, _⟩ := DataW.trod_string Try.underlying9 h
  subst e0
  exact ⟨s.data.toList, by simp only [bstr_data]⟩

/-- An argument that is a range. -/
theorem arg_rng {v : Value} {d : DataW H} {p : List MemPlace} {r : Reach} {b : Nat} (hv : Value.okWide Try.prog w r b 38 v) (h : DataW.Trod enc Try.prog w base spare held 38 v d p) :
    ∃ a c : List UInt8, v = rngV a c := by
  obtain ⟨cs, rfl, _⟩ := okWide_struct Try.underlying38 hv
  obtain ⟨fuel, hf⟩ := h
  obtain ⟨a, c, e⟩ := open_rng hf
  refine ⟨a, c, ?_⟩
  obtain ⟨l⟩ := cs
  have : l = [.string (bstr a), .string (bstr c)] := by simpa [Value.cells] using e
  rw [this]
/-- An argument that is a text. -/
theorem arg_str {v : Value} {d : DataW H} {p : List MemPlace} {r : Reach} {b : Nat} (hv : Value.okWide Try.prog w r b 9 v) (h : DataW.Trod enc Try.prog w base spare held 9 v d p) :
    ∃ a : List UInt8, v = .string (bstr a) := by
  obtain ⟨a0, rfl, _, _, _⟩ := Go.ChangeMaps.open_string Try.underlying9 hv h
  exact ⟨a0.data.toList, by rw [bstr_data]⟩
theorem cell_cells : Try.prog.cellsOf 24 = 5 := by kernel_rfl
theorem u64_cells : Try.prog.cellsOf 22 = 1 := by kernel_rfl
theorem bool_cells : Try.prog.cellsOf 4 = 1 := by kernel_rfl
theorem trod_struct5 {P : Program} {t : TypeId} {f0 f1 f2 f3 f4 : Field} {fuel : Nat} {cs : List Value} {x : DataW H × List MemPlace} (ht : P.underlying t = some (.struct #[f0, f1, f2, f3, f4])) (h : DataW.trod enc P w base spare held fuel t cs = some x) :
    ∃ y0 y1 y2 y3 y4 n, cs.length = P.cellsOf t ∧ DataW.trod enc P w base spare held n f0.type ((cs.drop f0.offset).take (P.cellsOf f0.type)) = some y0 ∧
      DataW.trod enc P w base spare held n f1.type ((cs.drop f1.offset).take (P.cellsOf f1.type)) = some y1 ∧ DataW.trod enc P w base spare held n f2.type ((cs.drop f2.offset).take (P.cellsOf f2.type)) = some y2 ∧
      DataW.trod enc P w base spare held n f3.type ((cs.drop f3.offset).take (P.cellsOf f3.type)) = some y3 ∧ DataW.trod enc P w base spare held n f4.type ((cs.drop f4.offset).take (P.cellsOf f4.type)) = some y4 := by
  obtain ⟨xs, n, _, rfl, hl, hlen, hf⟩ := DataW.trod_struct ht h
  match xs, hlen with
  | [y0, y1, y2, y3, y4], _ => exact ⟨y0, y1, y2, y3, y4, n, hl, by simpa using hf 0 f0 rfl, by simpa using hf 1 f1 rfl, by simpa using hf 2 f2 rfl, by simpa using hf 3 f3 rfl, by simpa using hf 4 f4 rfl⟩
theorem open_cell {fuel : Nat} {cs : List Value} {x : DataW H × List MemPlace} (h : DataW.trod enc Try.prog w base spare held fuel 24 cs = some x) :
    ∃ (a b : List UInt8) (v : Int) (g : Bool) (y : List UInt8), cs = [.string (bstr a), .string (bstr b), .int .u64 v, .bool g, .string (bstr y)] := by
  obtain ⟨y0, y1, y2, y3, y4, n, hl, h0, h1, h2, h3, h4⟩ := trod_struct5 Try.underlying24 h
  rw [cell_cells] at hl
  match cs, hl with
  | [c0, c1, c2, c3, c4], _ =>
    simp only [string_cells, u64_cells, bool_cells, List.drop_zero, List.drop_succ_cons, List.take_succ_cons, List.take_zero] at h0 h1 h2 h3 h4
    obtain ⟨s, e0, _⟩ := DataW.trod_string Try.underlying9 h0
    obtain ⟨t, e1, _⟩ := DataW.trod_string Try.underlying9 h1
    obtain ⟨m, e2, _, _⟩ := DataW.trod_int Try.underlying22 h2
    obtain ⟨g, e3, _⟩ := DataW.trod_bool Try.underlying4 h3
    obtain ⟨u, e4, _⟩ := DataW.trod_string Try.underlying9 h4
    simp only [List.cons.injEq, and_true] at e0 e1 e2 e3 e4
    subst e0 e1 e2 e3 e4
    exact ⟨s.data.toList, t.data.toList, m, g, u.data.toList, by simp only [bstr_data]⟩
/-- An argument that is a cell. -/
theorem arg_cell {v : Value} {d : DataW H} {p : List MemPlace} {r : Reach} {b : Nat} (hv : Value.okWide Try.prog w r b 24 v) (h : DataW.Trod enc Try.prog w base spare held 24 v d p) :
    ∃ (a c : List UInt8) (m : Int) (g : Bool) (y : List UInt8), v = .agg #[.string (bstr a), .string (bstr c), .int .u64 m, .bool g, .string (bstr y)] := by
  obtain ⟨cs, rfl, _⟩ := okWide_struct Try.underlying24 hv
  obtain ⟨fuel, hf⟩ := h
  obtain ⟨a, c, m, g, y, e⟩ := open_cell hf
  refine ⟨a, c, m, g, y, ?_⟩
  obtain ⟨l⟩ := cs
  have : l = [.string (bstr a), .string (bstr c), .int .u64 m, .bool g, .string (bstr y)] := by simpa [Value.cells] using e
  rw [this]
end

end Go.Proofs.Ytfjomggofncdmaa
