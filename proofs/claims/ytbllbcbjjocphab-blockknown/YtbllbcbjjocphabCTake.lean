/-
  The contract of cells.take: one cell read from a reader.
-/
import Derived.Test.YtbllbcbjjocphabCDec
import Derived.Laws.ResultCell
namespace Go.Proofs.Ytbllbcbjjocphab
open Go.RowKit Go.BigFrame Go.Sort
attribute [local go_sem] size_bstr toList_bstr ls_def

def l1 (l : List UInt8) : List UInt8 := tR 65536 l
def l2 (l : List UInt8) : List UInt8 := tR 65536 (l1 l)
def l3 (l : List UInt8) : List UInt8 := nR (l2 l)
def l4 (l : List UInt8) : List UInt8 := bR (l3 l)
/-- What is left behind a cell. -/
def l5 (l : List UInt8) : List UInt8 := tR 65536 (l4 l)
/-- The cell with which bytes begin. -/
def cellOf (l : List UInt8) : Cl := ⟨tV 65536 l, tV 65536 (l1 l), (nV (l2 l) : Int), bV (l3 l) == 1, tV 65536 (l4 l)⟩
def takeOk (l : List UInt8) : Bool := okT 65536 l && okT 65536 (l1 l) && okN (l2 l) && okB (l3 l) && okT 65536 (l4 l) && decide ((bV (l3 l)).toNat ≤ 1) && okC (cellOf l)
theorem tR_len (m : Nat) (l : List UInt8) : (tR m l).length ≤ l.length := by unfold tR; split <;> simp
theorem nR_len (l : List UInt8) : (nR l).length ≤ l.length := by unfold nR; split <;> simp
theorem bR_len (l : List UInt8) : (bR l).length ≤ l.length := by cases l <;> simp [bR]

/-- The block of an answer that is a cell, untouched. -/
def Rz (W : World) (n : Nat) : Prop := W.heap[n]? = some (.cells #[.string ⟨#[]⟩, .string ⟨#[]⟩, .int .u64 0, .bool false, .string ⟨#[]⟩] 24 (0, 0))
theorem Rz.facts {W : World} {n : Nat} (h : Rz W n) : W.cell? ⟨n, 0, none⟩ = some (.string ⟨#[]⟩) ∧ W.cell? ⟨n, 1, none⟩ = some (.string ⟨#[]⟩) ∧ W.cell? ⟨n, 2, none⟩ = some (.int .u64 0) ∧ W.cell? ⟨n, 3, none⟩ = some (.bool false) ∧ W.cell? ⟨n, 4, none⟩ = some (.string ⟨#[]⟩) ∧
    W.frozen? ⟨n, 0, none⟩ = false ∧ W.frozen? ⟨n, 1, none⟩ = false ∧ W.frozen? ⟨n, 2, none⟩ = false ∧ W.frozen? ⟨n, 3, none⟩ = false ∧ W.frozen? ⟨n, 4, none⟩ = false := by
  unfold Rz at h
  refine ⟨?_, ?_, ?_, ?_, ?_, ?_, ?_, ?_, ?_, ?_⟩ <;> simp [World.cell?, World.frozen?, h]
theorem Rz.lt {W : World} {n : Nat} (h : Rz W n) : n < W.heap.size := lt_of_block h
theorem Rz.grown {W W' : World} {n g : Nat} (h : Rz W n) (hg : W.grownBy W' (some g)) (hne : g ≠ n) : Rz W' n := (hg.block n h.lt (fun e => hne (by cases e; rfl))).trans h
theorem Rz.step {W W' : World} {n : Nat} (h : Rz W n) (hb : RowKit.Below W.heap.size W W') : Rz W' n := (hb.block n h.lt).trans h
theorem Rz.new (w : World) : Rz (w.alloc (.cells #[.string ⟨#[]⟩, .string ⟨#[]⟩, .int .u64 0, .bool false, .string ⟨#[]⟩] 24)) w.heap.size := heap_alloc_new w _
theorem g_put5 {w W : World} {n g : Nat} {p q r s t : Value} (h : w.grownBy W (some g)) (hne : w.heap.size ≤ n) : w.grownBy (((((W.setCell ⟨n, 0, none⟩ p).setCell ⟨n, 1, none⟩ q).setCell ⟨n, 2, none⟩ r).setCell ⟨n, 3, none⟩ s).setCell ⟨n, 4, none⟩ t) (some g) := by
  have hb := below_set5 (n := n) p q r s t (RowKit.Below.refl n W) (Nat.le_refl _)
  exact ⟨hb.os.trans h.os, hb.tape.trans h.tape, hb.output.trans h.output, Nat.le_trans h.size hb.size, fun k hk hkg => (hb.block k (by omega)).trans (h.block k hk hkg)⟩

end Go.Proofs.Ytbllbcbjjocphab
