/-
  How the arguments of quorum's laws are read.
-/
import Derived.Test.YtdoiknfpgmglaaaRows
import Derived.Test.YtdoiknfpgmglaaaUMem
import Derived.ProofKit
import Derived.OpenShut
import Derived.ShutString
import Derived.ChangeSame
import Derived.Carry
import Derived.ChangeSlices
namespace Go.Proofs.Ytdoiknfpgmglaaa
set_option maxRecDepth 100000
open Go.ChangeShapes Go.WideShapes Go.ChangeAt Go.RowKit

theorem k_own : ownKnob Try.prog.godebug = none := by kernel_rfl
theorem k_laidOut : laidOutB Try.prog = true := by kernel_rfl
theorem int_cells : Try.prog.cellsOf 3 = 1 := by kernel_rfl

theorem u64_cells : Try.prog.cellsOf 32 = 1 := by kernel_rfl

theorem byte_cells : Try.prog.cellsOf 5 = 1 := by kernel_rfl

theorem arr2_cells : Try.prog.cellsOf 38 = 2 := by kernel_rfl

theorem arr5_cells : Try.prog.cellsOf 41 = 5 := by kernel_rfl

variable {H : Type} {enc : TypeId × Value → H} {w : World} {base : Nat} {spare : Nat → Bool} {held : Bool}

/-- An argument that is a list of numbers. -/
theorem arg_ints {v : Value} {d : DataW H} {p : List MemPlace} {r : Reach} {b : Nat} (hv : Value.okWide Try.prog w r b 22 v) (h : DataW.Trod enc Try.prog w base spare held 22 v d p) :
    ∃ (q : Option Addr) (cap : Nat) (l : List Int), v = .slice q l.length cap ∧ IArg w q l ∧ l.length ≤ cap ∧ cap ≤ maxLen ∧ (q = none → l = [] ∧ cap = 0) := by
  obtain ⟨a0, len0, cap0, rfl⟩ := okWide_slice Try.underlying22 hv
  obtain ⟨fuel, hf⟩ := h
  rcases open_ints Try.underlying22 Try.underlying3 int_cells hf with ⟨hcs, _⟩ | ⟨a, len, cap, zs, hcs, _, hl, hm, hz, _, hcell, hwz⟩
  · simp [Value.cells] at hcs
    obtain ⟨rfl, rfl, rfl⟩ := hcs
    exact ⟨none, 0, [], rfl, fun h => absurd h (by simp), by simp, by decide, fun _ => ⟨rfl, rfl⟩⟩
  · simp [Value.cells] at hcs
    obtain ⟨rfl, rfl, rfl⟩ := hcs
    have hlz : len0 ≤ zs.length := by rw [hz]; split <;> omega
    have htl : (zs.take len0).length = len0 := by rw [List.length_take]; omega
    refine ⟨some a, cap0, zs.take len0, by rw [htl], fun h0 => ?_, by omega, hm, fun h => by simp at h⟩
    rw [htl] at h0
    obtain ⟨bb, off, spot⟩ := a
    have hc0 := hcell 0 (by omega)
    have hspot : spot = none := by simpa [Addr.add] using World.cell?_spot hc0
    subst hspot
    refine ⟨bb, off, rfl, fun i hi => ?_⟩
    rw [htl] at hi
    have := hcell i (by omega)
    rw [Addr.add_lit] at this
    rw [this]
    simp [List.getD, List.getElem?_eq_getElem (show i < zs.length by omega)]

/-- An argument that is a list of numbers from 0 to 2^64 - 1. -/
theorem arg_nats {v : Value} {d : DataW H} {p : List MemPlace} {r : Reach} {b : Nat} (hv : Value.okWide Try.prog w r b 31 v) (h : DataW.Trod enc Try.prog w base spare held 31 v d p) :
    ∃ (q : Option Addr) (cap : Nat) (l : List Nat), v = .slice q l.length cap ∧ UArg w q l ∧ l.length ≤ cap ∧ cap ≤ maxLen ∧ (q = none → l = [] ∧ cap = 0) := by
  obtain ⟨a0, len0, cap0, rfl⟩ := okWide_slice Try.underlying31 hv
  obtain ⟨fuel, hf⟩ := h
  rcases open_ints Try.underlying31 Try.underlying32 u64_cells hf with ⟨hcs, _⟩ | ⟨a, len, cap, zs, hcs, _, hl, hm, hz, _, hcell, hwz⟩
  · simp [Value.cells] at hcs
    obtain ⟨rfl, rfl, rfl⟩ := hcs
    exact ⟨none, 0, [], rfl, fun h => absurd h (by simp), by simp, by decide, fun _ => ⟨rfl, rfl⟩⟩
  · simp [Value.cells] at hcs
    obtain ⟨rfl, rfl, rfl⟩ := hcs
    have hlz : len0 ≤ zs.length := by rw [hz]; split <;> omega
    have htl : ((zs.take len0).map Int.toNat).length = len0 := by rw [List.length_map, List.length_take]; omega
    refine ⟨some a, cap0, (zs.take len0).map Int.toNat, by rw [htl], fun h0 => ?_, by omega, hm, fun h => by simp at h⟩
    rw [htl] at h0
    obtain ⟨bb, off, spot⟩ := a
    have hc0 := hcell 0 (by omega)
    have hspot : spot = none := by simpa [Addr.add] using World.cell?_spot hc0
    subst hspot
    refine ⟨bb, off, rfl, fun i hi => ?_⟩
    rw [htl] at hi
    have hiz : i < zs.length := by omega
    have hw := bounds_u64 (hwz zs[i] (List.getElem_mem hiz))
    have := hcell i (by omega)
    rw [Addr.add_lit] at this
    rw [this, List.getElem_map, List.getElem_take]
    simp [List.getD, List.getElem?_eq_getElem hiz]
    omega

theorem arg_two {v : Value} {d : DataW H} {p : List MemPlace} {r : Reach} {b : Nat} (hv : Value.okWide Try.prog w r b 38 v) (h : DataW.Trod enc Try.prog w base spare held 38 v d p) :
    ∃ a c : Int, v = .agg #[.int .u8 a, .int .u8 c] ∧ (0 ≤ a ∧ a ≤ 255) ∧ (0 ≤ c ∧ c ≤ 255) := by
  have hsh : ∃ cs, v = .agg cs := by
    simp only [Value.okWide, Try.underlying38] at hv
    obtain ⟨cs, h1, _⟩ := hv
    exact ⟨cs, h1⟩
  obtain ⟨cs, rfl⟩ := hsh
  obtain ⟨fuel, hf⟩ := h
  obtain ⟨xs, m, _, hx, hl, hlen, hel⟩ := DataW.trod_array Try.underlying38 hf
  rw [arr2_cells] at hl
  obtain ⟨l⟩ := cs
  have hl2 : l.length = 2 := by simpa [Value.cells] using hl
  match l, hl2, xs, hlen with
  | [c0, c1], _, [y0, y1], _ =>
    have h0 := hel 0 (by omega)
    have h1 := hel 1 (by omega)
    simp only [byte_cells, Value.cells, Nat.zero_mul, Nat.one_mul, List.drop_zero, List.drop_succ_cons, List.take_succ_cons, List.take_zero, List.getElem?_cons_zero, List.getElem?_cons_succ] at h0 h1
    obtain ⟨s, e0, k0⟩ := DataW.trod_int Try.underlying5 h0
    obtain ⟨t, e1, k1⟩ := DataW.trod_int Try.underlying5 h1
    simp only [List.cons.injEq, and_true] at e0 e1
    subst e0 e1
    have b0 := bounds_u8 k0.2
    have b1 := bounds_u8 k1.2
    exact ⟨s, t, rfl, by omega, by omega⟩

theorem arg_five {v : Value} {d : DataW H} {p : List MemPlace} {r : Reach} {b : Nat} (hv : Value.okWide Try.prog w r b 41 v) (h : DataW.Trod enc Try.prog w base spare held 41 v d p) :
    ∃ a0 a1 a2 a3 a4 : Nat, v = .agg #[.int .u64 (a0 : Int), .int .u64 (a1 : Int), .int .u64 (a2 : Int), .int .u64 (a3 : Int), .int .u64 (a4 : Int)] ∧ a0 < 18446744073709551616 ∧ a1 < 18446744073709551616 ∧ a2 < 18446744073709551616 ∧ a3 < 18446744073709551616 ∧ a4 < 18446744073709551616 := by
  have hsh : ∃ cs, v = .agg cs := by
    simp only [Value.okWide, Try.underlying41] at hv
    obtain ⟨cs, h1, _⟩ := hv
    exact ⟨cs, h1⟩
  obtain ⟨cs, rfl⟩ := hsh
  obtain ⟨fuel, hf⟩ := h
  obtain ⟨xs, m, _, hx, hl, hlen, hel⟩ := DataW.trod_array Try.underlying41 hf
  rw [arr5_cells] at hl
  obtain ⟨l⟩ := cs
  have hl2 : l.length = 5 := by simpa [Value.cells] using hl
  match l, hl2, xs, hlen with
  | [c0, c1, c2, c3, c4], _, [y0, y1, y2, y3, y4], _ =>
    have h0 := hel 0 (by omega)
    have h1 := hel 1 (by omega)
    have h2 := hel 2 (by omega)
    have h3 := hel 3 (by omega)
    have h4 := hel 4 (by omega)
    simp only [u64_cells, Value.cells, Nat.mul_one, List.drop_zero, List.drop_succ_cons, List.take_succ_cons, List.take_zero, List.getElem?_cons_zero, List.getElem?_cons_succ] at h0 h1 h2 h3 h4
    obtain ⟨s0, e0, k0⟩ := DataW.trod_int Try.underlying32 h0
    obtain ⟨s1, e1, k1⟩ := DataW.trod_int Try.underlying32 h1
    obtain ⟨s2, e2, k2⟩ := DataW.trod_int Try.underlying32 h2
    obtain ⟨s3, e3, k3⟩ := DataW.trod_int Try.underlying32 h3
    obtain ⟨s4, e4, k4⟩ := DataW.trod_int Try.underlying32 h4
    simp only [List.cons.injEq, and_true] at e0 e1 e2 e3 e4
    subst e0 e1 e2 e3 e4
    have b0 := bounds_u64 k0.2
    have b1 := bounds_u64 k1.2
    have b2 := bounds_u64 k2.2
    have b3 := bounds_u64 k3.2
    have b4 := bounds_u64 k4.2
    refine ⟨s0.toNat, s1.toNat, s2.toNat, s3.toNat, s4.toNat, ?_, by omega, by omega, by omega, by omega, by omega⟩
    rw [Int.toNat_of_nonneg (by omega), Int.toNat_of_nonneg (by omega), Int.toNat_of_nonneg (by omega), Int.toNat_of_nonneg (by omega), Int.toNat_of_nonneg (by omega)]

end Go.Proofs.Ytdoiknfpgmglaaa
