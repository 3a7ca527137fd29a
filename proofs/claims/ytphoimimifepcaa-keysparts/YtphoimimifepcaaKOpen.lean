/-
  How arguments that are ranges, cells, or lists of ranges are read.
-/
import Derived.Test.YtphoimimifepcaaRows
import Derived.Test.YtphoimimifepcaaKOrd
import Derived.ProofKit
import Derived.OpenShut
import Derived.ShutString
import Derived.ChangeSame
import Derived.Carry
namespace Go.Proofs.Ytphoimimifepcaa
open Go.ChangeShapes Go.WideShapes Go.ChangeAt Go.RowKit

theorem k_own : ownKnob Try.prog.godebug = none := by kernel_rfl
theorem k_laidOut : laidOutB Try.prog = true := by kernel_rfl
theorem rng_cells : Try.prog.cellsOf 23 = 2 := by kernel_rfl
theorem string_cells : Try.prog.cellsOf 9 = 1 := by kernel_rfl

section
variable {H : Type} {enc : TypeId × Value → H} {w : World} {base : Nat} {spare : Nat → Bool} {held : Bool}

theorem open_rng {fuel : Nat} {cs : List Value} {x : DataW H × List MemPlace} (h : DataW.trod enc Try.prog w base spare held fuel 23 cs = some x) :
    ∃ a b : List UInt8, cs = [.string (bstr a), .string (bstr b)] := by
  obtain ⟨y0, y1, n, _, hl, h0, h1⟩ := trod_struct2 Try.underlying23 h
  rw [rng_cells] at hl
  match cs, hl with
  | [c0, c1], _ =>
    simp only [string_cells, List.drop_zero, List.drop_succ_cons, List.take_succ_cons, List.take_zero] at h0 h1
    obtain ⟨s, e0, _⟩ := DataW.trod_string Try.underlying9 h0
    obtain ⟨t, e1, _⟩ := DataW.trod_string Try.underlying9 h1
    simp only [List.cons.injEq, and_true] at e0 e1
    subst e0 e1
    exact ⟨s.data.toList, t.data.toList, by simp only [bstr_data]⟩
theorem open_str {fuel : Nat} {cs : List Value} {x : DataW H × List MemPlace} (h : DataW.trod enc Try.prog w base spare held fuel 9 cs = some x) :
    ∃ a : List UInt8, cs = [.string (bstr a)] := by
  obtain ⟨s, e0, _⟩ := DataW.trod_string Try.underlying9 h
  subst e0
  exact ⟨s.data.toList, by simp only [bstr_data]⟩

/-- An argument that is a range. -/
theorem arg_rng {v : Value} {d : DataW H} {p : List MemPlace} {r : Reach} {b : Nat} (hv : Value.okWide Try.prog w r b 23 v) (h : DataW.Trod enc Try.prog w base spare held 23 v d p) :
    ∃ a c : List UInt8, v = rngV a c := by
  obtain ⟨cs, rfl, _⟩ := okWide_struct Try.underlying23 hv
  obtain ⟨fuel, hf⟩ := h
  obtain ⟨a, c, e⟩ := open_rng hf
  refine ⟨a, c, ?_⟩
  obtain ⟨l⟩ := cs
  have : l = [.string (bstr a), .string (bstr c)] := by simpa [Value.cells] using e
  rw [this]
/-- An argument that is a text. -/
theorem arg_str {v : Value} {d : DataW H} {p : List MemPlace} {r : Reach} {b : Nat} (hv : Value.okWide Try.prog w r b 9 v) (h : DataW.Trod enc Try.prog w base spare held 9 v d p) :
    ∃ a : List UInt8, v = .string (bstr a) := by
  obtain ⟨a0, rfl, _, _, _⟩ := Go.ChangeMaps.open_string Try.underlying9 hv h
  exact ⟨a0.data.toList, by rw [bstr_data]⟩
end

end Go.Proofs.Ytphoimimifepcaa
