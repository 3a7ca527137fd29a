/-
  Arguments that are entries, with the bound that their members' memory bears.
  Arguments that are lists of numbers, with the bound that their memory bears.
-/
import Derived.Test.YtbdbefgfejdbjaaGreatGOOpen2
import Derived.SizedLaws
namespace Go.Proofs.YtbdbefgfejdbjaaGreat
set_option maxRecDepth 100000
open Go.ChangeShapes Go.WideShapes Go.ChangeAt Go.RowKit Go.Deep

section
variable {H : Type} {enc : TypeId × Value → H} {w : World} {base : Nat} {spare : Nat → Bool} {held : Bool}

theorem Tryz.bytesInt : Tryz.prog.bytesOf 3 = 8 := by kernel_rfl
theorem view_ints_w {fuel : Nat} {q : Option Addr} {cap k : Nat} {x : DataW H × List MemPlace} (h : DataW.trod enc Tryz.prog w base spare held fuel 29 [.slice q k cap] = some x) (hw : (x.1.weights Tryz.prog 29).all (· ≤ reachBytes) = true) : k * 8 ≤ 140737488351232 := by
  rcases open_slice Tryz.underlying29 h with ⟨h0, _⟩ | ⟨a, len, cap', m, n, D, Pl, e, hb, hl', hm', hmm, hxx, hx⟩
  · simp at h0
    simp [h0]
  · simp at e
    obtain ⟨rfl, rfl, rfl⟩ := e
    have hlm : k ≤ m := by rw [hmm]; split <;> omega
    rw [hxx] at hw
    simp only [DataW.weights, Tryz.underlying29] at hw
    rw [List.all_cons, Bool.and_eq_true, decide_eq_true_eq, Tryz.bytesInt] at hw
    obtain ⟨hw1, hw2⟩ := hw
    simp only [List.length_map, List.length_range, reachBytes] at hw1
    omega
theorem view_ent_w {fuel : Nat} {e : Et} {x : DataW H × List MemPlace} (h : DataW.trod enc Tryz.prog w base spare held fuel 38 (etC e) = some x) (hw : (x.1.weights Tryz.prog 38).all (· ≤ reachBytes) = true) : e.mem.length * 8 ≤ 140737488351232 := by
  obtain ⟨y0, y1, y2, y3, y4, n, hx, hl, h0, h1, h2, h3, h4⟩ := trod_struct5x Tryz.underlying38 h
  rw [hx] at hw
  simp only [DataW.weights, Tryz.underlying38, DataW.weightsEach, List.map_cons, List.map_nil] at hw
  have hd : (etC e).drop 23 = [.slice e.q e.mem.length e.cap] := rfl
  simp only [ints_cells] at h4
  rw [hd] at h4
  refine view_ints_w h4 ?_
  rw [List.all_eq_true] at hw ⊢
  intro n hn
  refine hw n ?_
  simp only [List.mem_append]
  simp only [hn, or_true, true_or]
/-- An argument that is an entry. -/
theorem arg_ent_w {e : Et} {d : DataW H} {p : List MemPlace} (h : DataW.Trod enc Tryz.prog w base spare held 38 (.agg (etC e).toArray) d p) (hw : (d.weights Tryz.prog 38).all (· ≤ reachBytes) = true) : e.mem.length * 8 ≤ 140737488355328 := by
  obtain ⟨fuel, hf⟩ := h
  have := view_ent_w (x := (d, p)) hf hw
  omega
end

end Go.Proofs.YtbdbefgfejdbjaaGreat

namespace Go.Proofs.YtbdbefgfejdbjaaGreat
set_option maxRecDepth 100000
open Go.ChangeShapes Go.WideShapes Go.ChangeAt Go.RowKit Go.Deep

section
variable {H : Type} {enc : TypeId × Value → H} {w : World} {base : Nat} {spare : Nat → Bool} {held : Bool}

/-- An argument that is a list of numbers. -/
theorem arg_ints_w {v : Value} {d : DataW H} {p : List MemPlace} {r : Reach} {b : Nat} (hv : Value.okWide Tryz.prog w r b 29 v) (h : DataW.Trod enc Tryz.prog w base spare held 29 v d p) (hw : (d.weights Tryz.prog 29).all (· ≤ reachBytes) = true) :
    ∃ (q : Option Addr) (cap : Nat) (l : List Int), v = .slice q l.length cap ∧ IArg w q l ∧ l.length ≤ maxLen ∧ l.length * 8 ≤ 140737488355328 := by
  obtain ⟨a0, len0, cap0, rfl⟩ := okWide_slice Tryz.underlying29 hv
  obtain ⟨fuel, hf⟩ := h
  have h8 := view_ints_w (x := (d, p)) hf hw
  obtain ⟨q, cap, l, hc, hm, hl⟩ := view_ints hf
  simp [Value.cells] at hc
  obtain ⟨rfl, rfl, rfl⟩ := hc
  exact ⟨a0, cap0, l, rfl, hm, hl, by omega⟩
end

end Go.Proofs.YtbdbefgfejdbjaaGreat
