/-
  block.take's closures: a number, or a text, is read, and whether all was there is kept.
-/
import Derived.Test.YtbllbcbjjocphabETail
namespace Go.Proofs.Ytbllbcbjjocphab
open Go.RowKit Go.BigFrame Go.Sort
attribute [local go_sem] size_bstr toList_bstr ls_def

/-- The reader, what holds it, and whether all was there. -/
structure Tk (W0 : World) (g nr na : Nat) (a : Bool) (l : List UInt8) (W : World) : Prop where
  rd : Rd W g (bstr l)
  r0 : W.cell? ⟨nr, 0, none⟩ = some (.pointer (some ⟨g, 0, none⟩))
  a0 : W.cell? ⟨na, 0, none⟩ = some (.bool a)
  af : W.frozen? ⟨na, 0, none⟩ = false
  gr : W0.grownBy W (some g)
  lt : g < W0.heap.size
  ler : W0.heap.size ≤ nr
  lea : W0.heap.size ≤ na
  ne : nr ≠ na
  ra : nr < W.heap.size
  rn : na < W.heap.size
/-- All other blocks are as they were. -/
def Kt (g na : Nat) (W W' : World) : Prop := W.heap.size ≤ W'.heap.size ∧ ∀ k, k < W.heap.size → k ≠ g → k ≠ na → W'.heap[k]? = W.heap[k]?
theorem Kt.refl (g na : Nat) (W : World) : Kt g na W W := ⟨Nat.le_refl _, fun _ _ _ _ => rfl⟩
theorem Kt.trans {g na : Nat} {A B C : World} (h : Kt g na A B) (k : Kt g na B C) : Kt g na A C := ⟨Nat.le_trans h.1 k.1, fun i hi h1 h2 => (k.2 i (Nat.lt_of_lt_of_le hi h.1) h1 h2).trans (h.2 i hi h1 h2)⟩
theorem Kt.below {g na : Nat} {A B : World} (h : RowKit.Below A.heap.size A B) : Kt g na A B := ⟨h.size, fun i hi _ _ => h.block i hi⟩
theorem Kt.cell {g na : Nat} {A B : World} (h : Kt g na A B) {k o : Nat} (hk : k < A.heap.size) (h1 : k ≠ g) (h2 : k ≠ na) : B.cell? ⟨k, o, none⟩ = A.cell? ⟨k, o, none⟩ := World.cell?_of_block (a := ⟨k, o, none⟩) (h.2 k hk h1 h2)
/-- A call of the reader. -/
theorem Tk.read {W0 W W' : World} {g nr na : Nat} {a : Bool} {l l' : List UInt8} (h : Tk W0 g nr na a l W) (hr : Rd W' g (bstr l')) (hg : W.grownBy W' (some g)) : Tk W0 g nr na a l' W' := by
  have h1 : some nr ≠ some g := fun e => by have := h.ler; have := h.lt; cases e; omega
  have h2 : some na ≠ some g := fun e => by have := h.lea; have := h.lt; cases e; omega
  exact ⟨hr, hg.cell h.r0 h1, hg.cell h.a0 h2, (World.frozen?_of_block (a := ⟨na, 0, none⟩) (hg.block na h.rn h2)).trans h.af, grown_trans h.gr hg, h.lt, h.ler, h.lea, h.ne, Nat.lt_of_lt_of_le h.ra hg.size, Nat.lt_of_lt_of_le h.rn hg.size⟩
theorem Tk.set {W0 W : World} {g nr na : Nat} {a b : Bool} {l : List UInt8} (h : Tk W0 g nr na a l W) : Tk W0 g nr na b l (W.setCell ⟨na, 0, none⟩ (.bool b)) := by
  have h2 : g ≠ na := fun e => by have := h.lea; have := h.lt; omega
  have hlt := h.rn
  refine ⟨?_, ?_, ?_, ?_, ?_, h.lt, h.ler, h.lea, h.ne, by simpa [World.setCell] using h.ra, by simpa [World.setCell] using h.rn⟩
  · have := h.rd
    unfold Rd at this ⊢
    rw [Below.heap_setCell _ ⟨na, 0, none⟩ _ g h2]
    exact this
  · rw [World.cell?_of_block (a := ⟨nr, 0, none⟩) (Below.heap_setCell W ⟨na, 0, none⟩ (.bool b) nr h.ne)]
    exact h.r0
  · exact World.cell?_setCell_same (h := h.a0) ..
  · rw [World.frozen?_setCell]; exact h.af
  · have := h.gr
    exact ⟨this.os, this.tape, this.output, by simpa [World.setCell] using this.size, fun k hk hkg => by
      rw [Below.heap_setCell _ ⟨na, 0, none⟩ _ k (by have := h.lea; show k ≠ na; omega)]
      exact this.block k hk hkg⟩
theorem Kt.set {g na o : Nat} {A B : World} {v : Value} (h : Kt g na A B) : Kt g na A (B.setCell ⟨na, o, none⟩ v) := ⟨by simpa [World.setCell] using h.1, fun i hi h1 h2 => by rw [Below.heap_setCell _ ⟨na, o, none⟩ _ i h2]; exact h.2 i hi h1 h2⟩
theorem Kt.grown {g na : Nat} {A B : World} (h : A.grownBy B (some g)) : Kt g na A B := ⟨h.size, fun i hi h1 _ => h.block i hi fun e => h1 (by cases e; rfl)⟩

set_option maxHeartbeats 1000000 in
set_option maxRecDepth 100000 in
theorem take1_any (g nr na : Nat) (a : Bool) (l : List UInt8) (W0 W : World) (h : Tk W0 g nr na a l W) (hl : l.length ≤ 1048576) :
    Calls Try.prog 33 #[.pointer (some ⟨nr, 0, none⟩), .pointer (some ⟨na, 0, none⟩)] W fun e W' => e = .returned (.int .u64 (nV l)) ∧ Tk W0 g nr na (a && okN l) (nR l) W' ∧ Kt g na W W' := by
  have r0 := h.r0
  go_enter Try.func33, Try.ntmps33
  go_wp2_with fail
  refine (Number_r g l W h.rd (by omega)).mono ?_
  rintro e w1 ⟨rfl, r1, g1⟩
  have h1 := h.read r1 g1
  have k1 : Kt g na W w1 := Kt.grown g1
  have a0 := h1.a0
  have af := h1.af
  clear r1 g1 r0 h
  cases a <;> cases ho : okN l
  all_goals (
    go_wp2
    go_ret
    exact ⟨rfl, by first | exact h1.set | (rw [ho]; exact h1.set), k1.set⟩)

set_option maxHeartbeats 1000000 in
set_option maxRecDepth 100000 in
theorem take2_any (g nr na : Nat) (a : Bool) (l : List UInt8) (W0 W : World) (h : Tk W0 g nr na a l W) (hl : l.length ≤ 1048576) :
    Calls Try.prog 35 #[.pointer (some ⟨nr, 0, none⟩), .pointer (some ⟨na, 0, none⟩)] W fun e W' => e = .returned (.string (bstr (tV 32768 l))) ∧ Tk W0 g nr na (a && okT 32768 l) (tR 32768 l) W' ∧ Kt g na W W' := by
  have r0 := h.r0
  go_enter Try.func35, Try.ntmps35
  go_wp2_with fail
  refine (Text_r g 32768 l W h.rd (by omega) (by omega)).mono ?_
  rintro e w1 ⟨rfl, r1, g1⟩
  have h1 := h.read r1 g1
  have k1 : Kt g na W w1 := Kt.grown g1
  have a0 := h1.a0
  have af := h1.af
  clear r1 g1 r0 h
  cases a <;> cases ho : okT 32768 l
  all_goals (
    go_wp2
    go_ret
    exact ⟨rfl, by first | exact h1.set | (rw [ho]; exact h1.set), k1.set⟩)

end Go.Proofs.Ytbllbcbjjocphab
