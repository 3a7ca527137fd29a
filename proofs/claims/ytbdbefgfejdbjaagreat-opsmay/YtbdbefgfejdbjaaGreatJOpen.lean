/-
  How arguments that are results or lists of bytes are read.
-/
import Derived.Test.YtbdbefgfejdbjaaGreatRows
import Derived.Test.YtbdbefgfejdbjaaGreatGJBr
import Derived.ProofKit
import Derived.OpenShut
import Derived.ShutString
import Derived.ChangeSame
import Derived.Carry
import Derived.ChangeSlices
import Derived.Deep.Slices
import Derived.SizedLaws
namespace Go.Proofs.YtbdbefgfejdbjaaGreat
set_option maxRecDepth 100000
open Go.ChangeShapes Go.WideShapes Go.ChangeAt Go.RowKit Go.Deep

theorem k_own : ownKnob Tryz.prog.godebug = none := by kernel_rfl
theorem k_laidOut : laidOutB Tryz.prog = true := by kernel_rfl
theorem byte_cells : Tryz.prog.cellsOf 5 = 1 := by kernel_rfl
theorem string_cells : Tryz.prog.cellsOf 9 = 1 := by kernel_rfl
theorem res_cells : Tryz.prog.cellsOf 46 = 5 := by kernel_rfl
theorem u64_cells : Tryz.prog.cellsOf 22 = 1 := by kernel_rfl
theorem bool_cells : Tryz.prog.cellsOf 4 = 1 := by kernel_rfl
theorem errno_cells : Tryz.prog.cellsOf 31 = 1 := by kernel_rfl
def bt8 (x : Int) : UInt8 := UInt8.ofNat (x % 256).toNat
theorem bt8_toNat (x : Int) : ((bt8 x).toNat : Int) = x % 256 := by
  unfold bt8
  simp
  omega

theorem BArg.pick {w : World} {q : Option Addr} {l : List UInt8} (h : BArg w q l) : ∃ b off, 0 < l.length → q = some ⟨b, off, none⟩ ∧ BRow w b off l := by
  by_cases h0 : 0 < l.length
  · obtain ⟨b, off, h1⟩ := h h0
    exact ⟨b, off, fun _ => h1⟩
  · exact ⟨0, 0, fun h => absurd h h0⟩

section
variable {H : Type} {enc : TypeId × Value → H} {w : World} {base : Nat} {spare : Nat → Bool} {held : Bool}

theorem trod_struct5x {P : Program} {t : TypeId} {f0 f1 f2 f3 f4 : Field} {fuel : Nat} {cs : List Value} {x : DataW H × List MemPlace} (ht : P.underlying t = some (.struct #[f0, f1, f2, f3, f4])) (h : DataW.trod enc P w base spare held fuel t cs = some x) :
    ∃ y0 y1 y2 y3 y4 n, x.1 = .agg [y0.1, y1.1, y2.1, y3.1, y4.1] ∧ cs.length = P.cellsOf t ∧ DataW.trod enc P w base spare held n f0.type ((cs.drop f0.offset).take (P.cellsOf f0.type)) = some y0 ∧
      DataW.trod enc P w base spare held n f1.type ((cs.drop f1.offset).take (P.cellsOf f1.type)) = some y1 ∧ DataW.trod enc P w base spare held n f2.type ((cs.drop f2.offset).take (P.cellsOf f2.type)) = some y2 ∧
      DataW.trod enc P w base spare held n f3.type ((cs.drop f3.offset).take (P.cellsOf f3.type)) = some y3 ∧ DataW.trod enc P w base spare held n f4.type ((cs.drop f4.offset).take (P.cellsOf f4.type)) = some y4 := by
  obtain ⟨xs, n, _, rfl, hl, hlen, hf⟩ := DataW.trod_struct ht h
  match xs, hlen with
  | [y0, y1, y2, y3, y4], _ => exact ⟨y0, y1, y2, y3, y4, n, by simp, hl, by simpa using hf 0 f0 rfl, by simpa using hf 1 f1 rfl, by simpa using hf 2 f2 rfl, by simpa using hf 3 f3 rfl, by simpa using hf 4 f4 rfl⟩
/-- A result read. -/
theorem view_res {fuel : Nat} {cs : List Value} {x : DataW H × List MemPlace} (h : DataW.trod enc Tryz.prog w base spare held fuel 46 cs = some x) :
    ∃ (e : Int) (f : Bool) (ro va : List UInt8) (ve : Nat), ve < 18446744073709551616 ∧ cs = [.int .i64 e, .bool f, .string (bstr ro), .string (bstr va), .int .u64 (ve : Int)] := by
  obtain ⟨y0, y1, y2, y3, y4, n, hx, hl, h0, h1, h2, h3, h4⟩ := trod_struct5x Tryz.underlying46 h
  rw [res_cells] at hl
  match cs, hl with
  | [c0, c1, c2, c3, c4], _ =>
    simp only [string_cells, u64_cells, bool_cells, errno_cells, List.drop_zero, List.drop_succ_cons, List.take_succ_cons, List.take_zero] at h0 h1 h2 h3 h4
    obtain ⟨m, e0, _⟩ := DataW.trod_int Tryz.underlying31 h0
    obtain ⟨g, e1, _⟩ := DataW.trod_bool Tryz.underlying4 h1
    obtain ⟨s, e2, _⟩ := DataW.trod_string Tryz.underlying9 h2
    obtain ⟨t, e3, _⟩ := DataW.trod_string Tryz.underlying9 h3
    obtain ⟨u, e4, k4⟩ := DataW.trod_int Tryz.underlying22 h4
    simp only [List.cons.injEq, and_true] at e0 e1 e2 e3 e4
    subst e0 e1 e2 e3 e4
    obtain ⟨_, kw⟩ := k4
    have kb := bounds_u64 kw
    refine ⟨m, g, s.data.toList, t.data.toList, u.toNat, by omega, ?_⟩
    simp only [bstr_data]
    rw [Int.toNat_of_nonneg kb.1]
/-- An argument that is a result. -/
theorem arg_res {v : Value} {d : DataW H} {p : List MemPlace} {r : Reach} {b : Nat} (hv : Value.okWide Tryz.prog w r b 46 v) (h : DataW.Trod enc Tryz.prog w base spare held 46 v d p) :
    ∃ (e : Int) (f : Bool) (ro va : List UInt8) (ve : Nat), v = .agg #[.int .i64 e, .bool f, .string (bstr ro), .string (bstr va), .int .u64 (ve : Int)] ∧ ve < 18446744073709551616 := by
  obtain ⟨cs, rfl, _⟩ := okWide_struct Tryz.underlying46 hv
  obtain ⟨fuel, hf⟩ := h
  obtain ⟨e, f, ro, va, ve, hb, hc⟩ := view_res hf
  refine ⟨e, f, ro, va, ve, ?_, hb⟩
  obtain ⟨l⟩ := cs
  have : l = [.int .i64 e, .bool f, .string (bstr ro), .string (bstr va), .int .u64 (ve : Int)] := by simpa [Value.cells] using hc
  rw [this]
/-- An argument that is a list of bytes. -/
theorem arg_bytes {v : Value} {d : DataW H} {p : List MemPlace} {r : Reach} {b : Nat} (hv : Value.okWide Tryz.prog w r b 153 v) (h : DataW.Trod enc Tryz.prog w base spare held 153 v d p) :
    ∃ (q : Option Addr) (cap : Nat) (l : List UInt8), v = .slice q l.length cap ∧ BArg w q l ∧ l.length ≤ cap ∧ cap ≤ maxLen ∧ (q = none → l = [] ∧ cap = 0) := by
  obtain ⟨a0, len0, cap0, rfl⟩ := okWide_slice Tryz.underlying153 hv
  obtain ⟨fuel, hf⟩ := h
  rcases open_ints Tryz.underlying153 Tryz.underlying5 byte_cells hf with ⟨hcs, _⟩ | ⟨a, len, cap, zs, hcs, _, hl, hm, hz, _, hcell, hwz⟩
  · simp [Value.cells] at hcs
    obtain ⟨rfl, rfl, rfl⟩ := hcs
    exact ⟨none, 0, [], rfl, fun h => absurd h (by simp), by simp, by decide, fun _ => ⟨rfl, rfl⟩⟩
  · simp [Value.cells] at hcs
    obtain ⟨rfl, rfl, rfl⟩ := hcs
    have hlz : len0 ≤ zs.length := by rw [hz]; split <;> omega
    have htl : ((zs.take len0).map bt8).length = len0 := by rw [List.length_map, List.length_take]; omega
    refine ⟨some a, cap0, (zs.take len0).map bt8, by rw [htl], fun h0 => ?_, by omega, hm, fun h => by simp at h⟩
    rw [htl] at h0
    obtain ⟨bb, off, spot⟩ := a
    have hc0 := hcell 0 (by omega)
    have hspot : spot = none := by simpa [Addr.add] using World.cell?_spot hc0
    subst hspot
    refine ⟨bb, off, rfl, fun i hi => ?_⟩
    rw [htl] at hi
    have := hcell i (by omega)
    rw [Addr.add_lit] at this
    rw [this]
    have hiz : i < zs.length := by omega
    have hw := bounds_u8 (hwz zs[i] (List.getElem_mem hiz))
    simp [List.getD, List.getElem?_eq_getElem hiz, bt8_toNat]
    omega
end

end Go.Proofs.YtbdbefgfejdbjaaGreat
