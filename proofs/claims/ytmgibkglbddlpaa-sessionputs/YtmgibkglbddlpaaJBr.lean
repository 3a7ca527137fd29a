/-
  Bytes in a block, as an argument.
-/
import Derived.Test.YtmgibkglbddlpaaJMath
namespace Go.Proofs.Ytmgibkglbddlpaa
open Go.RowKit

/-- Bytes lie in a block from a place on. -/
def BRow (w : World) (b off : Nat) (l : List UInt8) : Prop := ∀ i (h : i < l.length), w.cell? ⟨b, off + i, none⟩ = some (.int .u8 (l[i].toNat : Int))
theorem BRow.lt {w : World} {b off : Nat} {l : List UInt8} (h : BRow w b off l) (h0 : 0 < l.length) : b < w.heap.size := World.block_lt_of_cell? w _ (h 0 h0)
theorem BRow.block {w w' : World} {b off : Nat} {l : List UInt8} (h : BRow w b off l) (hb : w'.heap[b]? = w.heap[b]?) : BRow w' b off l := fun i hi => (World.cell?_of_block (a := ⟨b, off + i, none⟩) hb).trans (h i hi)
/-- A slice of bytes, as an argument. -/
def BArg (w : World) (q : Option Addr) (l : List UInt8) : Prop := 0 < l.length → ∃ b off, q = some ⟨b, off, none⟩ ∧ BRow w b off l

end Go.Proofs.Ytmgibkglbddlpaa
