/-
  What the rows of this seat list of the package-level variables, as the walks see it.
  How the arguments of the laws over wal are read.
-/
import Derived.Test.YtpldfakfgngaaaaGreatDoorRows
import Derived.Test.YtpldfakfgngaaaaGreatDoorGPure
import Derived.WalkKit
import Derived.ProofKit
import Derived.OpenShut
import Derived.ShutString
import Derived.Deep.DeepHandedRow
import Derived.Lib.LaidTab
import Derived.Stop.LaidErr
import Derived.Lay
import Derived.Test.YtpldfakfgngaaaaGreatDoorGCopy
import Derived.ChangeSame
import Derived.Carry
import Derived.ChangeSlices
import Derived.SliceStrings
import Derived.JoinedCond
namespace Go.Proofs.YtpldfakfgngaaaaGreatDoor
open Go.ChangeShapes Go.WideShapes Go.ChangeAt Go.RowKit

theorem own : ownKnob Tryz.prog.godebug = none := by kernel_rfl
theorem gLow : Tryz.prog.globalNamed "acreage/seal.lowHalf" = some 0 := by kernel_rfl
theorem gHigh : Tryz.prog.globalNamed "acreage/seal.highHalf" = some 1 := by kernel_rfl
theorem gPow : Tryz.prog.globalNamed "internal/strconv.uint64pow10" = some 2 := by kernel_rfl
theorem gSyn : Tryz.prog.globalNamed "strconv.ErrSyntax" = some 3 := by kernel_rfl
theorem gB64 : Tryz.prog.globalNamed "math/bits.deBruijn64tab" = some 7 := by kernel_rfl
theorem gLowType : (Tryz.prog.globals[0]?).map (·.type) = some 150 := by kernel_rfl
theorem gHighType : (Tryz.prog.globals[1]?).map (·.type) = some 150 := by kernel_rfl
theorem gPowType : (Tryz.prog.globals[2]?).map (·.type) = some 200 := by kernel_rfl
theorem gSynType : (Tryz.prog.globals[3]?).map (·.type) = some 157 := by kernel_rfl
theorem cells16 : Tryz.prog.cellsOf 150 = 16 := by kernel_rfl
theorem cells1u : Tryz.prog.cellsOf 134 = 1 := by kernel_rfl
theorem cells20 : Tryz.prog.cellsOf 200 = 20 := by kernel_rfl
theorem cells1v : Tryz.prog.cellsOf 42 = 1 := by kernel_rfl

theorem star_err : "*" ++ "errors.errorString" = "*errors.errorString" := by decide
theorem row_err (u : TypeId) (h : Tryz.prog.typeName? 3 u = some "*errors.errorString") : u = 207 :=
  typeName_ptr_named (nm := "errors.errorString") (by rw [star_err]; kernel_rfl) (by kernel_rfl) (by decide) u (by rw [star_err]; exact h)
/-- The variables, as the rows list them. -/
def laid7 : List (String × DataW Unit) := [("math/bits.deBruijn32tab", Rows.laid_math_bits_deBruijn32tab), ("math/bits.deBruijn64tab", Rows.laid_math_bits_deBruijn64tab), ("internal/strconv.uint64pow10", Rows.laid_internal_strconv_uint64pow10), ("strconv.ErrRange", Rows.laid_strconv_ErrRange), ("strconv.ErrSyntax", Rows.laid_strconv_ErrSyntax), ("acreage/seal.lowHalf", Rows.laid_acreage_seal_lowHalf), ("acreage/seal.highHalf", Rows.laid_acreage_seal_highHalf)]
theorem low_all : ∀ i : Fin 16, lowT.getD i.val 0 = ((lowB i.val).toNat : Int) := by decide +kernel
theorem high_all : ∀ i : Fin 16, highT.getD i.val 0 = ((highB i.val).toNat : Int) := by decide +kernel
theorem var_lt {W : World} {n : String} {cs : Array Value} {g : Nat} (hg : Tryz.prog.globalNamed n = some g) (h : W.var? Tryz.prog n = some cs) : g < W.heap.size := by
  unfold World.var? at h
  rw [hg, Option.bind_some] at h
  rcases Nat.lt_or_ge g W.heap.size with a | a
  · exact a
  · rw [Array.getElem?_eq_none a] at h
    cases h
theorem vw_of_laid {W : World} (h0 : laidMetH Tryz.prog laid7 W) : Vw W.heap.size W := by
  have h : laidMet Tryz.prog laid7 W := h0
  have t1 := laidMet.tail h
  have t2 := laidMet.tail t1
  have t3 := laidMet.tail t2
  have t4 := laidMet.tail t3
  have t5 := laidMet.tail t4
  have t6 := laidMet.tail t5
  have h7 : 7 < W.heap.size := by
    obtain ⟨ps, ⟨g, t, cs, f, p, q, hg, ht, hv, _⟩, _⟩ := t1
    exact var_lt gB64 hv
  have hp : Lib.TabIs Tryz.prog W "internal/strconv.uint64pow10" .u64 Lib.pow10Tab := Lib.tabIs_of_head gPow gPowType Tryz.underlying200 Tryz.underlying42 cells1v cells20 t2
  have hl : Lib.TabIs Tryz.prog W "acreage/seal.lowHalf" .u32 lowT := Lib.tabIs_of_head gLow gLowType Tryz.underlying150 Tryz.underlying134 cells1u cells16 t5
  have hh : Lib.TabIs Tryz.prog W "acreage/seal.highHalf" .u32 highT := Lib.tabIs_of_head gHigh gHighType Tryz.underlying150 Tryz.underlying134 cells1u cells16 t6
  refine ⟨⟨by omega, fun i hi => ?_, fun i hi => ?_⟩, hp, ?_, by omega, Nat.le_refl _⟩
  · rw [hl.cell gLow i hi, low_all ⟨i, hi⟩]
  · rw [hh.cell gHigh i hi, high_all ⟨i, hi⟩]
  · obtain ⟨a, s, hv, _⟩ := laid_sentinel (tp := 207) t4 gSyn gSynType Tryz.underlying157 row_err Tryz.underlying207 Tryz.underlying209 rfl rfl Tryz.underlying9 (by kernel_rfl) (by kernel_rfl)
    exact ⟨_, _, by simpa using World.var?_cell gSyn hv 0⟩

end Go.Proofs.YtpldfakfgngaaaaGreatDoor

namespace Go.Proofs.YtpldfakfgngaaaaGreatDoor
set_option maxRecDepth 100000
open Go.ChangeShapes Go.WideShapes Go.ChangeAt Go.RowKit

theorem k_laidOut : laidOutB Tryz.prog = true := by kernel_rfl
theorem str_cells : Tryz.prog.cellsOf 9 = 1 := by kernel_rfl
theorem int_cells : Tryz.prog.cellsOf 3 = 1 := by kernel_rfl
theorem two_ints : Tryz.prog.cellsOf 63 = 2 := by kernel_rfl
variable {H : Type} {enc : TypeId × Value → H} {w : World} {base : Nat} {spare : Nat → Bool} {held : Bool}
theorem arg_strs7 {v : Value} {d : DataW H} {p : List MemPlace} {r : Reach} {b : Nat} (hv : Value.okWide Tryz.prog w r b 62 v) (h : DataW.Trod enc Tryz.prog w base spare held 62 v d p) :
    ∃ (q : Option Addr) (cap : Nat) (l : List (List UInt8)), v = .slice q l.length cap ∧ SArg w w.heap.size q l ∧ l.length ≤ 9223372036854775807 := by
  obtain ⟨a0, len0, cap0, rfl⟩ := okWide_slice Tryz.underlying62 hv
  obtain ⟨fuel, hf⟩ := h
  rcases open_strings Tryz.underlying62 Tryz.underlying9 str_cells hf with ⟨hcs, _⟩ | ⟨a, len, cap, ss, hcs, _, hlc, hcm, hsl, hx, hcell, hsz⟩
  · simp [Value.cells] at hcs
    obtain ⟨rfl, rfl, rfl⟩ := hcs
    exact ⟨none, 0, [], rfl, fun h => absurd h (by simp), by simp⟩
  · simp [Value.cells] at hcs
    obtain ⟨rfl, rfl, rfl⟩ := hcs
    have hlz : len0 ≤ ss.length := by rw [hsl]; split <;> omega
    have hlm : ((ss.take len0).map fun s : ByteArray => s.data.toList).length = len0 := by rw [List.length_map, List.length_take]; omega
    refine ⟨some a, cap0, (ss.take len0).map fun s : ByteArray => s.data.toList, by rw [hlm], fun h0 => ?_, ?_⟩
    · rw [hlm] at h0
      obtain ⟨bb, off, spot⟩ := a
      have hc0 := hcell 0 (by omega)
      have hspot : spot = none := by simpa [Addr.add] using World.cell?_spot hc0
      subst hspot
      have hlt := World.block_lt_of_cell? w _ hc0
      refine ⟨bb, off, rfl, by simpa [Addr.add] using hlt, fun i hi => ?_⟩
      rw [hlm] at hi
      have := hcell i (by omega)
      simp only [Addr.add_lit] at this
      rw [this, List.getElem_map, List.getElem_take, bstr_data, List.getD_eq_getElem?_getD, List.getElem?_eq_getElem (by omega)]
      rfl
    · rw [hlm]
      unfold maxLen at hcm
      omega

theorem arg_two7 {v : Value} {d : DataW H} {p : List MemPlace} {r : Reach} {b : Nat} (hv : Value.okWide Tryz.prog w r b 63 v) (h : DataW.Trod enc Tryz.prog w base spare held 63 v d p) :
    ∃ a c : Int, v = .agg #[.int .i64 a, .int .i64 c] := by
  have hsh : ∃ cs, v = .agg cs := by
    simp only [Value.okWide, Tryz.underlying63] at hv
    obtain ⟨cs, h1, _⟩ := hv
    exact ⟨cs, h1⟩
  obtain ⟨cs, rfl⟩ := hsh
  obtain ⟨fuel, hf⟩ := h
  obtain ⟨xs, m, _, hx, hl, hlen, hel⟩ := DataW.trod_array Tryz.underlying63 hf
  rw [two_ints] at hl
  obtain ⟨l⟩ := cs
  have hl2 : l.length = 2 := by simpa [Value.cells] using hl
  match l, hl2, xs, hlen with
  | [c0, c1], _, [y0, y1], _ =>
    have h0 := hel 0 (by omega)
    have h1 := hel 1 (by omega)
    simp only [int_cells, Value.cells, Nat.zero_mul, Nat.one_mul, List.drop_zero, List.drop_succ_cons, List.take_succ_cons, List.take_zero, List.getElem?_cons_zero, List.getElem?_cons_succ] at h0 h1
    obtain ⟨s, e0, k0⟩ := DataW.trod_int Tryz.underlying3 h0
    obtain ⟨t, e1, k1⟩ := DataW.trod_int Tryz.underlying3 h1
    simp only [List.cons.injEq, and_true] at e0 e1
    subst e0 e1
    exact ⟨s, t, rfl⟩

end Go.Proofs.YtpldfakfgngaaaaGreatDoor

