/-
  Rows of bytes in memory; dice in memory; the contracts of dice.New, none, width, Left, Copy.
-/
import Derived.Test.YtijfmgpipnhkkaaAid
import Derived.Test.YtijfmgpipnhkkaaShelf
import Derived.WalkMore
import Derived.ScopeJumps
import Derived.Laws.AppendOwn
import Derived.Laws.AppendOwnNone
import Derived.Laws.EntriesVeiled
namespace Go.Proofs.Ytijfmgpipnhkkaa
open Go.RowKit

/-- Bytes lie in a block from a place on. -/
def BRow (w : World) (b off : Nat) (l : List UInt8) : Prop := ∀ i (h : i < l.length), w.cell? ⟨b, off + i, none⟩ = some (.int .u8 (l[i].toNat : Int))
theorem BRow.lt {w : World} {b off : Nat} {l : List UInt8} (h : BRow w b off l) (h0 : 0 < l.length) : b < w.heap.size := World.block_lt_of_cell? w _ (h 0 h0)
theorem BRow.block {w w' : World} {b off : Nat} {l : List UInt8} (h : BRow w b off l) (hb : w'.heap[b]? = w.heap[b]?) : BRow w' b off l := fun i hi => (World.cell?_of_block (a := ⟨b, off + i, none⟩) hb).trans (h i hi)
theorem BRow.drop {w : World} {b off : Nat} {l : List UInt8} (h : BRow w b off l) (k : Nat) : BRow w b (off + k) (l.drop k) := by
  intro i hi
  rw [List.length_drop] at hi
  rw [List.getElem_drop, Nat.add_assoc]
  exact h (k + i) (by omega)
theorem BRow.take {w : World} {b off : Nat} {l : List UInt8} (h : BRow w b off l) (k : Nat) : BRow w b off (l.take k) := by
  intro i hi
  rw [List.length_take] at hi
  rw [List.getElem_take]
  exact h i (by omega)
/-- A slice of bytes, as an argument. -/
def BArg (w : World) (q : Option Addr) (l : List UInt8) : Prop := 0 < l.length → ∃ b off, q = some ⟨b, off, none⟩ ∧ BRow w b off l
theorem BArg.below {w w' : World} {q : Option Addr} {l : List UInt8} (h : BArg w q l) (hb : Below w.heap.size w w') : BArg w' q l := fun h0 => by
  obtain ⟨b, off, hq, hR⟩ := h h0
  exact ⟨b, off, hq, hR.block (hb.block b (hR.lt h0))⟩
theorem BArg.take {w : World} {q : Option Addr} {l : List UInt8} (h : BArg w q l) (k : Nat) : BArg w q (l.take k) := fun h0 => by
  have h1 : 0 < l.length := by rw [List.length_take] at h0; omega
  obtain ⟨b, off, hq, hR⟩ := h h1
  exact ⟨b, off, hq, hR.take k⟩
theorem BArg.nil (w : World) (q : Option Addr) : BArg w q [] := fun h0 => absurd h0 (by simp)
/-- What a call owns, as an argument. -/
theorem own_barg {w : World} {B e : Nat} {v : Value} {n : Nat} {l : List UInt8} (h : w.ownsRow B e 1 v n (Lib.byteCells l)) :
    ∃ q cap, v = .slice q l.length cap ∧ n = l.length ∧ l.length ≤ cap ∧ cap ≤ maxLen ∧ (0 < l.length → ∃ b, q = some ⟨b, 0, none⟩ ∧ B ≤ b ∧ BRow w b 0 l) ∧ (q = none → l = []) := by
  have hn : l.length = n := by have := h.1; rw [Lib.byteCells_length] at this; omega
  subst hn
  rcases h.2 with ⟨rfl, h0⟩ | ⟨g, cap, cur, rfl, hbg, hg, hnc, hcm, hcs, htake⟩
  · refine ⟨none, 0, by rw [h0], rfl, by omega, by decide, fun h1 => by omega, fun _ => List.eq_nil_of_length_eq_zero h0⟩
  · refine ⟨some ⟨g, 0, none⟩, cap, rfl, rfl, hnc, hcm, fun h1 => ⟨g, rfl, hbg, ?_⟩, fun h => by cases h⟩
    intro i hi
    have := h.cells (g := g) rfl i (.int .u8 (l[i].toNat : Int)) (by simp [Lib.byteCells, hi])
    rw [Addr.add_lit] at this
    exact this
theorem BArg.of_own {w : World} {q : Option Addr} {l : List UInt8} {B : Nat} (h : 0 < l.length → ∃ b, q = some ⟨b, 0, none⟩ ∧ B ≤ b ∧ BRow w b 0 l) : BArg w q l := fun h0 => by
  obtain ⟨b, hq, _, hR⟩ := h h0
  exact ⟨b, 0, hq, hR⟩

theorem cells_block {w : World} {g : Nat} {cur : Array Value} {t : TypeId} (h : w.heap[g]? = some (.cells cur t (0, 0))) : (∀ o, w.cell? ⟨g, o, none⟩ = cur[o]?) ∧ ∀ o, w.frozen? ⟨g, o, none⟩ = false :=
  ⟨fun o => by simp [World.cell?, h], fun o => by simp [World.frozen?, h]⟩
theorem block_set {w : World} {g : Nat} {cur : Array Value} {t : TypeId} (h : w.heap[g]? = some (.cells cur t (0, 0))) (o : Nat) (v : Value) : (w.setCell ⟨g, o, none⟩ v).heap[g]? = some (.cells (cur.setIfInBounds o v) t (0, 0)) := by
  have hlt := lt_of_block h
  have h' : w.heap[g] = .cells cur t (0, 0) := by simpa [Array.getElem?_eq_getElem hlt] using h
  show (w.heap.modify g _)[g]? = _
  rw [Array.getElem?_eq_getElem (by simpa using hlt), Array.getElem_modify_self, h']
  rfl
theorem grown_setCell (w : World) (g o : Nat) (v : Value) : w.grownBy (w.setCell ⟨g, o, none⟩ v) (some g) :=
  ⟨rfl, rfl, rfl, by simp [World.setCell], fun k _ hk => Below.heap_setCell _ _ _ _ (fun e => hk (by rw [e]))⟩
theorem grown_trans {a b c : World} {g : Nat} (h : a.grownBy b (some g)) (k : b.grownBy c (some g)) : a.grownBy c (some g) :=
  ⟨k.os.trans h.os, k.tape.trans h.tape, k.output.trans h.output, Nat.le_trans h.size k.size, fun i hi hne => (k.block i (Nat.lt_of_lt_of_le hi h.size) hne).trans (h.block i hi hne)⟩
theorem grown_refl (w : World) (g : Nat) : w.grownBy w (some g) := ⟨rfl, rfl, rfl, Nat.le_refl _, fun _ _ _ => rfl⟩
theorem b_step {B : Nat} {w a b : World} (h : Below B w a) (k : Below a.heap.size a b) (hB : B ≤ w.heap.size) : Below B w b := h.trans (k.mono (Nat.le_trans hB h.size))
theorem b_grown {B : Nat} {w a b : World} {g : Nat} (h : Below B w a) (k : a.grownBy b (some g)) (hB : B ≤ w.heap.size) (hg : B ≤ g) : Below B w b :=
  h.grown k (Nat.le_trans hB h.size) (fun j hj => by cases hj; exact hg)

end Go.Proofs.Ytijfmgpipnhkkaa
