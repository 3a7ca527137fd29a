/-
  How an argument that is two texts is read.
-/
import Derived.Test.YtbnenpfphbdmpaaXOpen
namespace Go.Proofs.Ytbnenpfphbdmpaa
set_option maxRecDepth 100000
open Go.ChangeShapes Go.WideShapes Go.ChangeAt Go.RowKit

theorem two_cells : Try.prog.cellsOf 56 = 2 := by kernel_rfl
/-- An argument that is two texts. -/
theorem arg_two {H : Type} {enc : TypeId × Value → H} {w : World} {base : Nat} {spare : Nat → Bool} {held : Bool} {v : Value} {d : DataW H} {p : List MemPlace} {r : Reach} {b : Nat} (hv : Value.okWide Try.prog w r b 56 v) (h : DataW.Trod enc Try.prog w base spare held 56 v d p) :
    ∃ a c : List UInt8, v = .agg #[.string (bstr a), .string (bstr c)] ∧ a.length + c.length ≤ Rows.uptoBulk d := by
  have hsh : ∃ cs, v = .agg cs := by
    simp only [Value.okWide, Try.underlying56] at hv
    obtain ⟨cs, h1, _⟩ := hv
    exact ⟨cs, h1⟩
  obtain ⟨cs, rfl⟩ := hsh
  obtain ⟨fuel, hf⟩ := h
  obtain ⟨xs, m, _, hx, hl, hlen, hel⟩ := DataW.trod_array Try.underlying56 hf
  rw [two_cells] at hl
  obtain ⟨l⟩ := cs
  have hl2 : l.length = 2 := by simpa [Value.cells] using hl
  match l, hl2, xs, hlen with
  | [c0, c1], _, [y0, y1], _ =>
    have h0 := hel 0 (by omega)
    have h1 := hel 1 (by omega)
    simp only [str_cells, Value.cells, Nat.zero_mul, Nat.one_mul, List.drop_zero, List.drop_succ_cons, List.take_succ_cons, List.take_zero, List.getElem?_cons_zero, List.getElem?_cons_succ] at h0 h1
    obtain ⟨s, e0, k0⟩ := DataW.trod_string Try.underlying9 h0
    obtain ⟨t, e1, k1⟩ := DataW.trod_string Try.underlying9 h1
    simp only [List.cons.injEq, and_true] at e0 e1
    subst e0 e1
    obtain ⟨rfl, _⟩ := k0
    obtain ⟨rfl, _⟩ := k1
    refine ⟨s.data.toList, t.data.toList, by simp only [bstr_data], ?_⟩
    have hd : d = .agg [.lit (.string s.data.toList), .lit (.string t.data.toList)] := congrArg Prod.fst hx
    rw [hd]
    simp only [Rows.uptoBulk, Rows.uptoBulkAll]
    omega

end Go.Proofs.Ytbnenpfphbdmpaa
