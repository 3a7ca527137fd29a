/-
  The contract of dice.Lay: each number modulo 256, as a byte, in new memory.
-/
import Derived.Test.YtgcgoijkgjfbmaaDNext
import Derived.Laws.MakeOwn
namespace Go.Proofs.Ytgcgoijkgjfbmaa
open Go.RowKit Go.BigFrame

/-- Numbers lie in a block from a place on. -/
def IRow (w : World) (b off : Nat) (l : List Int) : Prop := ∀ i (h : i < l.length), w.cell? ⟨b, off + i, none⟩ = some (.int .i64 l[i])
theorem IRow.lt {w : World} {b off : Nat} {l : List Int} (h : IRow w b off l) (h0 : 0 < l.length) : b < w.heap.size := World.block_lt_of_cell? w _ (h 0 h0)
theorem IRow.block {w w' : World} {b off : Nat} {l : List Int} (h : IRow w b off l) (hb : w'.heap[b]? = w.heap[b]?) : IRow w' b off l := fun i hi => (World.cell?_of_block (a := ⟨b, off + i, none⟩) hb).trans (h i hi)
theorem IRow.take {w : World} {b off : Nat} {l : List Int} (h : IRow w b off l) (k : Nat) : IRow w b off (l.take k) := by
  intro i hi
  rw [List.length_take] at hi
  rw [List.getElem_take]
  exact h i (by omega)
/-- A slice of numbers, as an argument. -/
def IArg (w : World) (q : Option Addr) (l : List Int) : Prop := 0 < l.length → ∃ b off, q = some ⟨b, off, none⟩ ∧ b < w.heap.size ∧ IRow w b off l
theorem IArg.below {w w' : World} {q : Option Addr} {l : List Int} (h : IArg w q l) (hb : Below w.heap.size w w') : IArg w' q l := fun h0 => by
  obtain ⟨b, off, hq, hl, hR⟩ := h h0
  exact ⟨b, off, hq, Nat.lt_of_lt_of_le hl hb.size, hR.block (hb.block b hl)⟩
theorem IArg.take {w : World} {q : Option Addr} {l : List Int} (h : IArg w q l) (k : Nat) : IArg w q (l.take k) := fun h0 => by
  have h1 : 0 < l.length := by rw [List.length_take] at h0; omega
  obtain ⟨b, off, hq, hl, hR⟩ := h h1
  exact ⟨b, off, hq, hl, hR.take k⟩
/-- A number modulo 256, as a byte. -/
def byt (x : Int) : UInt8 := UInt8.ofNat (x % 256).toNat
theorem byt_toNat (x : Int) : ((byt x).toNat : Int) = x % 256 := by
  unfold byt
  simp
  omega

set_option maxHeartbeats 2000000 in
set_option maxRecDepth 100000 in
theorem Lay_any (q : Option Addr) (cap : Nat) (l : List Int) (w : World) (h : IArg w q l) (hl : l.length ≤ 1000) :
    Calls Try.prog 16 #[.slice q l.length cap] w fun e w' => ∃ v, e = .returned v ∧ w'.ownsRow w.heap.size 5 1 v l.length (Lib.byteCells (l.map byt)) ∧ Below w.heap.size w w' := by
  obtain ⟨i0, hi, hz0, hz1, hz2⟩ := info_parts Try.infoByte
  have hmk := fun W : World => run_make (P := Try.prog) (w := W) 22 5 i0 (.int .u8 0) Try.underlying22 hi hz0 .i64 .i64 (l.length : Int) (l.length : Int) (by omega) (by omega) (by rw [hz2]; omega) (by omega)
  rw [Int.toNat_natCast, hz1, Nat.mul_one] at hmk
  have hms : (madeCells #[Value.int .u8 0] l.length).size = l.length := by unfold madeCells; simp
  go_enter Try.func16, Try.ntmps16
  go_wp2
  have hw0 : (w.alloc (Obj.cells (madeCells #[Value.int IntKind.u8 0] l.length) 5)).heap[w.heap.size]? = some (.cells (madeCells #[Value.int IntKind.u8 0] l.length) 5 (0, 0)) := heap_alloc_new w _
  have hb0 : Below w.heap.size w (w.alloc (Obj.cells (madeCells #[Value.int IntKind.u8 0] l.length) 5)) := (Below.refl _ w).alloc (Nat.le_refl _) _
  generalize w.alloc (Obj.cells (madeCells #[Value.int IntKind.u8 0] l.length) 5) = w0 at *
  clear hmk
  go_loopw [11] (fun s11 wr => ∃ (j : Nat) (cur : Array Value), s11 = .int .i64 (j : Int) ∧ j ≤ l.length ∧ wr.heap[w.heap.size]? = some (.cells cur 5 (0, 0)) ∧ cur.size = l.length ∧ cur.toList.take j = Lib.byteCells ((l.take j).map byt) ∧ Below w.heap.size w wr) (fun s11 _ => l.length - (intOf s11).toNat)
  case atStart => exact ⟨0, _, rfl, by omega, hw0, hms, rfl, hb0⟩
  case round =>
    obtain ⟨j, cur, rfl, hj, hblk, hsz, htk, hbel⟩ := hrel
    clear hw0 hb0 hms
    have HT : Hid _ := htk
    clear htk
    by_cases hlt : j < l.length
    · obtain ⟨b, off, rfl, hbl, hR⟩ := h (by omega)
      have c0 : wr.cell? ⟨b, off + j, none⟩ = some (.int .i64 l[j]) := (hR.block (hbel.block b hbl)) j hlt
      have c1 : wr.cell? ⟨w.heap.size, j, none⟩ = some cur[j] := by rw [(cells_block hblk).1, Array.getElem?_eq_getElem (by omega)]
      have f1 := (cells_block hblk).2 j
      have hset := block_set hblk j (.int .u8 (l[j] % 256))
      have HS : Hid _ := hset
      have hb2 : Below w.heap.size w (wr.setCell ⟨w.heap.size, j, none⟩ (.int .u8 (l[j] % 256))) := hbel.setCell (p := ⟨w.heap.size, j, none⟩) (Nat.le_refl _) _
      have hbt := byt_toNat l[j]
      have HB : Hid _ := hbt
      have hI : (j : Int) < (l.length : Int) := by omega
      clear hset hblk hbt hbel
      generalize hx : l[j] = x at *
      generalize cur[j] = y at *
      go_wp2
      go_roundw
      case rel =>
        refine ⟨j + 1, _, by go_num, by omega, HS.out, by simp [hsz], ?_, hb2⟩
        rw [Array.toList_setIfInBounds, List.take_succ_eq_append_getElem (by simp; omega), List.getElem_set_self, List.take_set_of_le (Nat.le_refl _), HT.out, List.take_succ_eq_append_getElem hlt, List.map_append, byteCells_append, hx, ← HB.out]
        rfl
      case measure => simp [intOf]; omega
    · have hje : j = l.length := by omega
      subst hje
      go_wp2
      go_ret
      refine ⟨_, rfl, ⟨?_, .inr ⟨w.heap.size, l.length, cur, rfl, Nat.le_refl _, hblk, Nat.le_refl _, by unfold maxLen; omega, by omega, ?_⟩⟩, hbel⟩
      · rw [Lib.byteCells_length]; simp
      · have := HT.out
        rw [List.take_length] at this
        rw [Nat.mul_one]
        exact this

end Go.Proofs.Ytgcgoijkgjfbmaa
