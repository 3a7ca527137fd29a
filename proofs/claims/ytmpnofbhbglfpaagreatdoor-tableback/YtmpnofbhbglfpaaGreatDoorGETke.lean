/-
  block.take's closures: a number, or a text, is read, and whether all was there is kept.
  The contract of block.take: one cell read from a reader, by the row ahead.
-/
import Derived.Test.YtmpnofbhbglfpaaGreatDoorETail
import Derived.Test.YtmpnofbhbglfpaaGreatDoorGEBld
import Derived.Laws.ResultCell
import Derived.Deep.CutBlock
namespace Go.Proofs.YtmpnofbhbglfpaaGreatDoor
open Go.RowKit Go.BigFrame Go.Sort
attribute [local go_sem] size_bstr toList_bstr ls_def

/-- The reader, what holds it, and whether all was there. -/
structure Tk (W0 : World) (g nr na : Nat) (a : Bool) (l : List UInt8) (W : World) : Prop where
  rd : Rd W g (bstr l)
  r0 : W.cell? ⟨nr, 0, none⟩ = some (.pointer (some ⟨g, 0, none⟩))
  a0 : W.cell? ⟨na, 0, none⟩ = some (.bool a)
  af : W.frozen? ⟨na, 0, none⟩ = false
  gr : W0.grownBy W (some g)
  lt : g < W0.heap.size
  ler : W0.heap.size ≤ nr
  lea : W0.heap.size ≤ na
  ne : nr ≠ na
  ra : nr < W.heap.size
  rn : na < W.heap.size
/-- All other blocks are as they were. -/
def Kt (g na : Nat) (W W' : World) : Prop := W.heap.size ≤ W'.heap.size ∧ ∀ k, k < W.heap.size → k ≠ g → k ≠ na → W'.heap[k]? = W.heap[k]?
theorem Kt.refl (g na : Nat) (W : World) : Kt g na W W := ⟨Nat.le_refl _, fun _ _ _ _ => rfl⟩
theorem Kt.trans {g na : Nat} {A B C : World} (h : Kt g na A B) (k : Kt g na B C) : Kt g na A C := ⟨Nat.le_trans h.1 k.1, fun i hi h1 h2 => (k.2 i (Nat.lt_of_lt_of_le hi h.1) h1 h2).trans (h.2 i hi h1 h2)⟩
theorem Kt.below {g na : Nat} {A B : World} (h : RowKit.Below A.heap.size A B) : Kt g na A B := ⟨h.size, fun i hi _ _ => h.block i hi⟩
theorem Kt.cell {g na : Nat} {A B : World} (h : Kt g na A B) {k o : Nat} (hk : k < A.heap.size) (h1 : k ≠ g) (h2 : k ≠ na) : B.cell? ⟨k, o, none⟩ = A.cell? ⟨k, o, none⟩ := World.cell?_of_block (a := ⟨k, o, none⟩) (h.2 k hk h1 h2)
/-- A call of the reader. -/
theorem Tk.read {W0 W W' : World} {g nr na : Nat} {a : Bool} {l l' : List UInt8} (h : Tk W0 g nr na a l W) (hr : Rd W' g (bstr l')) (hg : W.grownBy W' (some g)) : Tk W0 g nr na a l' W' := by
  have h1 : some nr ≠ some g := fun e => by have := h.ler; have := h.lt; cases e; omega
  have h2 : some na ≠ some g := fun e => by have := h.lea; have := h.lt; cases e; omega
  exact ⟨hr, hg.cell h.r0 h1, hg.cell h.a0 h2, (World.frozen?_of_block (a := ⟨na, 0, none⟩) (hg.block na h.rn h2)).trans h.af, grown_trans h.gr hg, h.lt, h.ler, h.lea, h.ne, Nat.lt_of_lt_of_le h.ra hg.size, Nat.lt_of_lt_of_le h.rn hg.size⟩
theorem Tk.set {W0 W : World} {g nr na : Nat} {a b : Bool} {l : List UInt8} (h : Tk W0 g nr na a l W) : Tk W0 g nr na b l (W.setCell ⟨na, 0, none⟩ (.bool b)) := by
  have h2 : g ≠ na := fun e => by have := h.lea; have := h.lt; omega
  have hlt := h.rn
  refine ⟨?_, ?_, ?_, ?_, ?_, h.lt, h.ler, h.lea, h.ne, by simpa [World.setCell] using h.ra, by simpa [World.setCell] using h.rn⟩
  · have := h.rd
    unfold Rd at this ⊢
    rw [Below.heap_setCell _ ⟨na, 0, none⟩ _ g h2]
    exact this
  · rw [World.cell?_of_block (a := ⟨nr, 0, none⟩) (Below.heap_setCell W ⟨na, 0, none⟩ (.bool b) nr h.ne)]
    exact h.r0
  · exact World.cell?_setCell_same (h := h.a0) ..
  · rw [World.frozen?_setCell]; exact h.af
  · have := h.gr
    exact ⟨this.os, this.tape, this.output, by simpa [World.setCell] using this.size, fun k hk hkg => by
      rw [Below.heap_setCell _ ⟨na, 0, none⟩ _ k (by have := h.lea; show k ≠ na; omega)]
      exact this.block k hk hkg⟩
theorem Kt.set {g na o : Nat} {A B : World} {v : Value} (h : Kt g na A B) : Kt g na A (B.setCell ⟨na, o, none⟩ v) := ⟨by simpa [World.setCell] using h.1, fun i hi h1 h2 => by rw [Below.heap_setCell _ ⟨na, o, none⟩ _ i h2]; exact h.2 i hi h1 h2⟩
theorem Kt.grown {g na : Nat} {A B : World} (h : A.grownBy B (some g)) : Kt g na A B := ⟨h.size, fun i hi h1 _ => h.block i hi fun e => h1 (by cases e; rfl)⟩

set_option maxHeartbeats 1000000 in
set_option maxRecDepth 100000 in
theorem take1_any (g nr na : Nat) (a : Bool) (l : List UInt8) (W0 W : World) (h : Tk W0 g nr na a l W) (hl : l.length ≤ 1048576) :
    Calls Tryz.prog 139 #[.pointer (some ⟨nr, 0, none⟩), .pointer (some ⟨na, 0, none⟩)] W fun e W' => e = .returned (.int .u64 (nV l)) ∧ Tk W0 g nr na (a && okN l) (nR l) W' ∧ Kt g na W W' := by
  have r0 := h.r0
  go_enter Tryz.func139, Tryz.ntmps139
  go_wp2_with fail
  refine (Number_r g l W h.rd (by omega)).mono ?_
  rintro e w1 ⟨rfl, r1, g1⟩
  have h1 := h.read r1 g1
  have k1 : Kt g na W w1 := Kt.grown g1
  have a0 := h1.a0
  have af := h1.af
  clear r1 g1 r0 h
  cases a <;> cases ho : okN l
  all_goals (
    go_wp2
    go_ret
    exact ⟨rfl, by first | exact h1.set | (rw [ho]; exact h1.set), k1.set⟩)

set_option maxHeartbeats 1000000 in
set_option maxRecDepth 100000 in
theorem take2_any (g nr na : Nat) (a : Bool) (l : List UInt8) (W0 W : World) (h : Tk W0 g nr na a l W) (hl : l.length ≤ 1048576) :
    Calls Tryz.prog 141 #[.pointer (some ⟨nr, 0, none⟩), .pointer (some ⟨na, 0, none⟩)] W fun e W' => e = .returned (.string (bstr (tV 32768 l))) ∧ Tk W0 g nr na (a && okT 32768 l) (tR 32768 l) W' ∧ Kt g na W W' := by
  have r0 := h.r0
  go_enter Tryz.func141, Tryz.ntmps141
  go_wp2_with fail
  refine (Text_r g 32768 l W h.rd (by omega) (by omega)).mono ?_
  rintro e w1 ⟨rfl, r1, g1⟩
  have h1 := h.read r1 g1
  have k1 : Kt g na W w1 := Kt.grown g1
  have a0 := h1.a0
  have af := h1.af
  clear r1 g1 r0 h
  cases a <;> cases ho : okT 32768 l
  all_goals (
    go_wp2
    go_ret
    exact ⟨rfl, by first | exact h1.set | (rw [ho]; exact h1.set), k1.set⟩)

end Go.Proofs.YtmpnofbhbglfpaaGreatDoor

namespace Go.Proofs.YtmpnofbhbglfpaaGreatDoor
open Go.RowKit Go.BigFrame Go.Sort
attribute [local go_sem] size_bstr toList_bstr ls_def append_bstr

/-- The cell with which bytes begin, behind a row; whether there is one. -/
abbrev tkC (a l : List UInt8) : Cl := cellB 32768 32768 32768 a l
def tkOk (a l : List UInt8) : Bool := rawB 32768 32768 32768 a l && decide (cmn a (tkC a l).row = nV l) && okC (tkC a l)

theorem Rz.kt {W W' : World} {n g na : Nat} (h : Rz W n) (k : Kt g na W W') (h1 : n ≠ g) (h2 : n ≠ na) : Rz W' n := (k.2 n h.lt h1 h2).trans h

theorem Rz.other {W : World} {n b o : Nat} {v : Value} (h : Rz W n) (hb : n ≠ b) : Rz (W.setCell ⟨b, o, none⟩ v) n := (Below.heap_setCell W ⟨b, o, none⟩ v n hb).trans h
theorem rd_other {W : World} {g b o : Nat} {v : Value} {s : ByteArray} (h : Rd W g s) (hb : g ≠ b) : Rd (W.setCell ⟨b, o, none⟩ v) g s := by
  unfold Rd at h ⊢
  rw [Below.heap_setCell W ⟨b, o, none⟩ v g hb]
  exact h
theorem gr_set {w W : World} {g n o : Nat} {v : Value} (h : w.grownBy W (some g)) (hn : w.heap.size ≤ n) : w.grownBy (W.setCell ⟨n, o, none⟩ v) (some g) :=
  ⟨h.os, h.tape, h.output, by simpa [World.setCell] using h.size, fun k hk hkg => by
    rw [Below.heap_setCell W ⟨n, o, none⟩ v k (by show k ≠ n; omega)]
    exact h.block k hk hkg⟩
theorem cell_off {W : World} {b o o' : Nat} {v : Value} (h : o' ≠ o) : (W.setCell ⟨b, o, none⟩ v).cell? ⟨b, o', none⟩ = W.cell? ⟨b, o', none⟩ := World.cell?_setCell_other (h := by intro e; cases e; exact h rfl) ..
theorem CellAt.put4 {W : World} {n : Nat} {r c : List UInt8} {v : Int} {g : Bool} {x : List UInt8} (h : CellAt W n r c v g x) (x' : List UInt8) : CellAt (W.setCell ⟨n, 4, none⟩ (.string (bstr x'))) n r c v g x' :=
  ⟨(cell_off (by decide)).trans h.c0, (cell_off (by decide)).trans h.c1, (cell_off (by decide)).trans h.c2, (cell_off (by decide)).trans h.c3, World.cell?_setCell_same (h := h.c4) ..⟩
theorem CellAt.put3 {W : World} {n : Nat} {r c : List UInt8} {v : Int} {g : Bool} {x : List UInt8} (h : CellAt W n r c v g x) (g' : Bool) : CellAt (W.setCell ⟨n, 3, none⟩ (.bool g')) n r c v g' x :=
  ⟨(cell_off (by decide)).trans h.c0, (cell_off (by decide)).trans h.c1, (cell_off (by decide)).trans h.c2, World.cell?_setCell_same (h := h.c3) .., (cell_off (by decide)).trans h.c4⟩
theorem CellAt.put0 {W : World} {n : Nat} {r c : List UInt8} {v : Int} {g : Bool} {x : List UInt8} (h : CellAt W n r c v g x) (r' : List UInt8) : CellAt (W.setCell ⟨n, 0, none⟩ (.string (bstr r'))) n r' c v g x :=
  ⟨World.cell?_setCell_same (h := h.c0) .., (cell_off (by decide)).trans h.c1, (cell_off (by decide)).trans h.c2, (cell_off (by decide)).trans h.c3, (cell_off (by decide)).trans h.c4⟩
theorem nV_lt (l : List UInt8) : nV l < 18446744073709551616 := by
  unfold nV
  split
  · exact numOf_lt l
  · omega
theorem tV_len (m : Nat) (l : List UInt8) : (tV m l).length ≤ m := by
  unfold tV
  split
  · rename_i h
    simp only [okT, Bool.and_eq_true, decide_eq_true_eq] at h
    rw [List.length_take]
    omega
  · simp
theorem Tk.step {W0 W W' : World} {g nr na : Nat} {a : Bool} {l : List UInt8} (h : Tk W0 g nr na a l W) (hb : RowKit.Below W.heap.size W W') : Tk W0 g nr na a l W' := h.read (h.rd.below hb h.rd.lt) (grown_of_below hb)
theorem CellAt.kt {W W' : World} {n g' na : Nat} {r c : List UInt8} {v : Int} {g : Bool} {x : List UInt8} (h : CellAt W n r c v g x) (k : Kt g' na W W') (hn : n < W.heap.size) (h1 : n ≠ g') (h2 : n ≠ na) : CellAt W' n r c v g x :=
  ⟨(k.cell hn h1 h2).trans h.c0, (k.cell hn h1 h2).trans h.c1, (k.cell hn h1 h2).trans h.c2, (k.cell hn h1 h2).trans h.c3, (k.cell hn h1 h2).trans h.c4⟩

set_option maxHeartbeats 4000000 in
set_option maxRecDepth 100000 in
theorem btake_any (g : Nat) (a l : List UInt8) (w : World) (h : Rd w g (bstr l)) (hl : l.length ≤ 1048576) (ha : a.length ≤ 100) :
    Calls Tryz.prog 119 #[.pointer (some ⟨g, 0, none⟩), .string (bstr a)] w fun e w' => (tkOk a l = true → e = .returned (.tuple #[clV (tkC a l), .bool true]) ∧ Rd w' g (bstr (q6 32768 32768 32768 l))) ∧ (tkOk a l = false → e = .returned (.tuple #[clV ⟨[], [], 0, false, []⟩, .bool false])) ∧ w.grownBy w' (some g) := by
  go_enter Tryz.func119, Tryz.ntmps119
  go_wp2_with fail
  have hglt := h.lt
  have hT0 : Tk w g w.heap.size (w.heap.size + 1 + 1) true l (((w.alloc (Obj.cells #[Value.pointer (some ⟨g, 0, none⟩)] 160)).alloc (Obj.cells #[.string ⟨#[]⟩, .string ⟨#[]⟩, .int .u64 0, .bool false, .string ⟨#[]⟩] 39)).alloc (Obj.cells #[Value.bool true] 4)) := by
    have hB : RowKit.Below w.heap.size w (((w.alloc (Obj.cells #[Value.pointer (some ⟨g, 0, none⟩)] 160)).alloc (Obj.cells #[.string ⟨#[]⟩, .string ⟨#[]⟩, .int .u64 0, .bool false, .string ⟨#[]⟩] 39)).alloc (Obj.cells #[Value.bool true] 4)) := (((RowKit.Below.refl _ _).alloc (Nat.le_refl _) _).alloc (by simp) _).alloc (by simp; omega) _
    exact ⟨h.below hB hglt, by simp [go_sem], by simp [go_sem], by simp [go_sem], grown_of_below hB, hglt, Nat.le_refl _, by omega, by omega, by simp; omega, by simp⟩
  have hz : Rz (((w.alloc (Obj.cells #[Value.pointer (some ⟨g, 0, none⟩)] 160)).alloc (Obj.cells #[.string ⟨#[]⟩, .string ⟨#[]⟩, .int .u64 0, .bool false, .string ⟨#[]⟩] 39)).alloc (Obj.cells #[Value.bool true] 4)) (w.heap.size + 1) := by
    have h1 := heap_alloc_new (w.alloc (Obj.cells #[Value.pointer (some ⟨g, 0, none⟩)] 160)) (Obj.cells #[.string ⟨#[]⟩, .string ⟨#[]⟩, .int .u64 0, .bool false, .string ⟨#[]⟩] 39)
    have e0 : (w.alloc (Obj.cells #[Value.pointer (some ⟨g, 0, none⟩)] 160)).heap.size = w.heap.size + 1 := by simp
    rw [e0] at h1
    have hb := (RowKit.Below.refl ((w.alloc (Obj.cells #[Value.pointer (some ⟨g, 0, none⟩)] 160)).alloc (Obj.cells #[.string ⟨#[]⟩, .string ⟨#[]⟩, .int .u64 0, .bool false, .string ⟨#[]⟩] 39)).heap.size ((w.alloc (Obj.cells #[Value.pointer (some ⟨g, 0, none⟩)] 160)).alloc (Obj.cells #[.string ⟨#[]⟩, .string ⟨#[]⟩, .int .u64 0, .bool false, .string ⟨#[]⟩] 39))).alloc (Nat.le_refl _) (Obj.cells #[Value.bool true] 4)
    exact (hb.block (w.heap.size + 1) (by simp)).trans h1
  generalize (((w.alloc (Obj.cells #[Value.pointer (some ⟨g, 0, none⟩)] 160)).alloc (Obj.cells #[.string ⟨#[]⟩, .string ⟨#[]⟩, .int .u64 0, .bool false, .string ⟨#[]⟩] 39)).alloc (Obj.cells #[Value.bool true] 4)) = w0 at *
  have e1 : (q1 l).length ≤ l.length := nR_len l
  have e2 : (q2 32768 l).length ≤ (q1 l).length := tR_len 32768 (q1 l)
  have e3 : (q3 32768 32768 l).length ≤ (q2 32768 l).length := tR_len 32768 (q2 32768 l)
  have e4 : (q4 32768 32768 l).length ≤ (q3 32768 32768 l).length := nR_len (q3 32768 32768 l)
  have e5 : (q5 32768 32768 l).length ≤ (q4 32768 32768 l).length := bR_len (q4 32768 32768 l)
  refine (take1_any g _ _ true l w w0 hT0 hl).mono ?_
  rintro e w1 ⟨rfl, hT1, k1⟩
  replace hz := hz.kt k1 (by omega) (by omega)
  clear k1 hT0
  go_wp2_with fail
  refine (take2_any g _ _ _ (q1 l) w w1 hT1 (by omega)).mono ?_
  rintro e w2 ⟨rfl, hT2, k2⟩
  replace hz := hz.kt k2 (by omega) (by omega)
  clear k2 hT1
  go_wp2_with fail
  refine (take2_any g _ _ _ (q2 32768 l) w w2 hT2 (by omega)).mono ?_
  rintro e w3 ⟨rfl, hT3, k3⟩
  replace hz := hz.kt k3 (by omega) (by omega)
  clear k3 hT2
  go_wp2_with fail
  refine (take1_any g _ _ _ (q3 32768 32768 l) w w3 hT3 (by omega)).mono ?_
  rintro e w4 ⟨rfl, hT4, k4⟩
  replace hz := hz.kt k4 (by omega) (by omega)
  clear k4 hT3
  have hlt4 : w.heap.size + 2 < w4.heap.size := hT4.rn
  have hB4 : RowKit.Below w4.heap.size w4 (w4.alloc (.cells #[.string ⟨#[]⟩, .string (bstr (tV 32768 (q2 32768 l))), .int .u64 (nV (q3 32768 32768 l) : Int), .bool false, .string ⟨#[]⟩] 39)) := (RowKit.Below.refl _ _).alloc (Nat.le_refl _) _
  have hA : CellAt (w4.alloc (.cells #[.string ⟨#[]⟩, .string (bstr (tV 32768 (q2 32768 l))), .int .u64 (nV (q3 32768 32768 l) : Int), .bool false, .string ⟨#[]⟩] 39)) w4.heap.size [] (tV 32768 (q2 32768 l)) (nV (q3 32768 32768 l) : Int) false [] := CellAt.new w4 39 [] (tV 32768 (q2 32768 l)) (nV (q3 32768 32768 l) : Int) false []
  have hbk0 := heap_alloc_new w4 (.cells #[.string ⟨#[]⟩, .string (bstr (tV 32768 (q2 32768 l))), .int .u64 (nV (q3 32768 32768 l) : Int), .bool false, .string ⟨#[]⟩] 39)
  have hT5 := hT4.step hB4
  have r0 := hT5.r0
  replace hz := hz.step hB4
  clear hT4
  go_wp2_with fail
  generalize w4.alloc (.cells #[.string ⟨#[]⟩, .string (bstr (tV 32768 (q2 32768 l))), .int .u64 (nV (q3 32768 32768 l) : Int), .bool false, .string ⟨#[]⟩] 39) = w5 at *
  have hs5 : w4.heap.size < w5.heap.size := hA.lt
  have hbk : w5.heap[w4.heap.size]? = some (.cells #[.string ⟨#[]⟩, .string (bstr (tV 32768 (q2 32768 l))), .int .u64 (nV (q3 32768 32768 l) : Int), .bool false, .string ⟨#[]⟩] 39 (0, 0)) := hbk0
  generalize hnc : w4.heap.size = nc at *
  clear hnc
  refine (Byte_r g (q4 32768 32768 l) w5 hT5.rd).mono ?_
  rintro e w6 ⟨rfl, r6, g6⟩
  have hT6 := hT5.read r6 g6
  replace hz := hz.grown g6 (by omega)
  replace hA := hA.grow g6 (by intro e; cases e; omega)
  replace hbk := (g6.block nc (by omega) (by intro e; cases e; omega)).trans hbk
  have hs6 := g6.size
  clear r6 g6 hT5 r0 hB4
  go_wp2_with fail
  refine (take2_any g _ _ _ (q5 32768 32768 l) w w6 hT6 (by omega)).mono ?_
  rintro e w7 ⟨rfl, hT7, k7⟩
  replace hz := hz.kt k7 (by omega) (by omega)
  replace hA := hA.kt k7 (by omega) (by omega) (by omega)
  replace hbk := (k7.2 nc (by omega) (by omega) (by omega)).trans hbk
  have hfz : ∀ o, w7.frozen? ⟨nc, o, none⟩ = false := fun o => by simp [World.frozen?, hbk]
  clear hbk hbk0
  clear k7 hT6
  have hC : Hid (tkC a l = ⟨a.take (nV l) ++ tV 32768 (q1 l), tV 32768 (q2 32768 l), (nV (q3 32768 32768 l) : Int), bV (q4 32768 32768 l) == 1, tV 32768 (q5 32768 32768 l)⟩) := rfl
  have hK : Hid (tkOk a l = ((okN l && okT 32768 (q1 l) && okT 32768 (q2 32768 l) && okN (q3 32768 32768 l) && okB (q4 32768 32768 l) && okT 32768 (q5 32768 32768 l) && decide ((bV (q4 32768 32768 l)).toNat ≤ 1) && decide (nV l ≤ a.length)) && decide (cmn a (tkC a l).row = nV l) && okC (tkC a l))) := rfl
  rw [hC.out] at hK
  have hR : Rd w7 g (bstr (q6 32768 32768 32768 l)) := hT7.rd
  have hG : w.grownBy w7 (some g) := hT7.gr
  have a0 := hT7.a0
  have hs7 : nc < w7.heap.size := hA.lt
  clear hT7
  have hn := nV_lt l
  have hgb := (bV (q4 32768 32768 l)).toNat_lt
  have hrl : (tV 32768 (q1 l)).length ≤ 32768 := tV_len _ _
  clear e1 e2 e3 e4 e5
  generalize okN l = y1 at *
  generalize okT 32768 (q1 l) = y2 at *
  generalize okT 32768 (q2 32768 l) = y3 at *
  generalize okN (q3 32768 32768 l) = y4 at *
  generalize okT 32768 (q5 32768 32768 l) = y6 at *
  generalize okB (q4 32768 32768 l) = y5 at *
  generalize tV 32768 (q5 32768 32768 l) = x at *
  generalize bV (q4 32768 32768 l) = gb at *
  generalize nV (q3 32768 32768 l) = v at *
  generalize tV 32768 (q2 32768 l) = k at *
  generalize tV 32768 (q1 l) = t at *
  generalize nV l = n at *
  obtain ⟨y, hy⟩ : ∃ y, (true && y1 && y2 && y3 && y4 && y6) = y := ⟨_, rfl⟩
  rw [hy] at a0
  have hK2 : Hid (tkOk a l = ((y && y5 && decide (gb.toNat ≤ 1) && decide (n ≤ a.length)) && decide (cmn a (a.take n ++ t) = n) && okC ⟨a.take n ++ t, k, (v : Int), gb == 1, x⟩)) := by
    show _ = _
    rw [hK.out, ← hy]
    cases y1 <;> cases y2 <;> cases y3 <;> cases y4 <;> cases y5 <;> cases y6 <;> rfl
  clear hK hy
  obtain ⟨c0, c1, c2, c3, c4⟩ := id hA
  have af4 : w7.frozen? ⟨nc, 4, none⟩ = false := hfz 4
  have hA8 := hA.put4 x
  have hz8 := hz.other (b := nc) (o := 4) (v := .string (bstr x)) (by omega)
  have hR8 := rd_other (b := nc) (o := 4) (v := .string (bstr x)) hR (by omega)
  have hG8 := gr_set (n := nc) (o := 4) (v := .string (bstr x)) hG (by omega)
  have hfz8 : ∀ o, (w7.setCell ⟨nc, 4, none⟩ (.string (bstr x))).frozen? ⟨nc, o, none⟩ = false := fun o => by rw [World.frozen?_setCell]; exact hfz o
  have a08 : (w7.setCell ⟨nc, 4, none⟩ (.string (bstr x))).cell? ⟨w.heap.size + 1 + 1, 0, none⟩ = some (.bool y) := by rw [World.cell?_setCell_far _ ⟨nc, 4, none⟩ _ _ (show nc ≠ w.heap.size + 1 + 1 by omega)]; exact a0
  have hs8 : nc < (w7.setCell ⟨nc, 4, none⟩ (.string (bstr x))).heap.size := by simpa [World.setCell] using hs7
  go_upto_region 8 with fail
  generalize w7.setCell ⟨nc, 4, none⟩ (.string (bstr x)) = w8 at *
  clear hA hz hR hG hfz a0 af4 c0 c1 c2 c3 c4 hs7
  obtain ⟨z0, z1, z2, z3, z4, f0, f1, f2, f3, f4⟩ := hz8.facts
  cases y with
  | false =>
    have ht : Hid (tkOk a l = false) := by show _ = _; rw [hK2.out]; rfl
    clear hK2
    go_wp2
    generalize hW : ((((w8.setCell ⟨w.heap.size + 1, 0, none⟩ _).setCell ⟨w.heap.size + 1, 1, none⟩ _).setCell ⟨w.heap.size + 1, 2, none⟩ _).setCell ⟨w.heap.size + 1, 3, none⟩ _).setCell ⟨w.heap.size + 1, 4, none⟩ _ = W'
    obtain ⟨q0, q1, q2, q3, q4⟩ := set5_reads z0 z1 z2 z3 z4 hW
    refine bodyPost_ret (v := .tuple #[clV ⟨[], [], 0, false, []⟩, .bool false]) (by rw [results_cell_tmp Tryz.results119]; simp [go_sem, q0, q1, q2, q3, q4]; rfl) rfl ⟨(fun hx => by rw [ht.out] at hx; cases hx), (fun _ => rfl), ?_⟩
    rw [← hW]
    exact g_put5 hG8 (by omega)
  | true =>
    cases y5 with
    | false =>
      have ht : Hid (tkOk a l = false) := by show _ = _; rw [hK2.out]; rfl
      clear hK2
      go_wp2
      generalize hW : ((((w8.setCell ⟨w.heap.size + 1, 0, none⟩ _).setCell ⟨w.heap.size + 1, 1, none⟩ _).setCell ⟨w.heap.size + 1, 2, none⟩ _).setCell ⟨w.heap.size + 1, 3, none⟩ _).setCell ⟨w.heap.size + 1, 4, none⟩ _ = W'
      obtain ⟨q0, q1, q2, q3, q4⟩ := set5_reads z0 z1 z2 z3 z4 hW
      refine bodyPost_ret (v := .tuple #[clV ⟨[], [], 0, false, []⟩, .bool false]) (by rw [results_cell_tmp Tryz.results119]; simp [go_sem, q0, q1, q2, q3, q4]; rfl) rfl ⟨(fun hx => by rw [ht.out] at hx; cases hx), (fun _ => rfl), ?_⟩
      rw [← hW]
      exact g_put5 hG8 (by omega)
    | true =>
      by_cases hg1 : gb.toNat ≤ 1
      · have hgd : decide ((1 : Int) < (gb.toNat : Int)) = false := by rw [decide_eq_false_iff_not]; omega
        by_cases hna : n ≤ a.length
        · have hnd : decide ((a.length : Int) < (n : Int)) = false := by rw [decide_eq_false_iff_not]; omega
          rw [decide_eq_true hna, decide_eq_true hg1] at hK2
          have hb1 : ((gb.toNat : Int) == 1) = (gb == 1) := by
            by_cases hx : gb = 1
            · subst hx; rfl
            · have hx2 : ¬ (gb.toNat : Int) = 1 := fun e => hx (UInt8.toNat_inj.1 (show gb.toNat = 1 by omega))
              have : (gb == 1) = false := by simpa using hx
              rw [this]
              simpa using hx2
          generalize (gb == 1) = gd at *
          have hsl := fun W => erun_head (P := Tryz.prog) 9 .u64 a n hna W Tryz.underlying9
          have hcl := fun W => Clone_any (a.take n) W (by rw [List.length_take]; omega)
          obtain ⟨c0, c1, c2, c3, c4⟩ := id hA8
          have af3 := hfz8 3
          have hA9 := hA8.put3 gd
          have hz9 := hz8.other (b := nc) (o := 3) (v := .bool gd) (by omega)
          have hR9 := rd_other (b := nc) (o := 3) (v := .bool gd) hR8 (by omega)
          have hG9 := gr_set (n := nc) (o := 3) (v := .bool gd) hG8 (by omega)
          have hfz9 : ∀ o, (w8.setCell ⟨nc, 3, none⟩ (.bool gd)).frozen? ⟨nc, o, none⟩ = false := fun o => by rw [World.frozen?_setCell]; exact hfz8 o
          have hs9 : nc < (w8.setCell ⟨nc, 3, none⟩ (.bool gd)).heap.size := by simpa [World.setCell] using hs8
          go_wp2_with fail
          generalize w8.setCell ⟨nc, 3, none⟩ (.bool gd) = w9 at *
          clear hA8 hz8 hR8 hG8 hfz8 a08 af3 c0 c1 c2 c3 c4 hs8 z0 z1 z2 z3 z4 f0 f1 f2 f3 f4 hb1 hgd hnd
          refine (hcl _).mono ?_
          rintro e w10 ⟨rfl, hb10⟩
          have hfz10 : ∀ o, w10.frozen? ⟨nc, o, none⟩ = false := fun o => by rw [(bcell hb10).2 _ _ hs9]; exact hfz9 o
          replace hA9 := hA9.step hb10
          replace hz9 := hz9.step hb10
          replace hR9 := hR9.below hb10 hR9.lt
          replace hG9 := grown_trans hG9 (grown_of_below hb10 (g := g))
          replace hs9 : nc < w10.heap.size := Nat.lt_of_lt_of_le hs9 hb10.size
          clear hb10 hfz9 hcl hsl
          have c0 := hA9.c0
          have af0 := hfz10 0
          have hA11 := hA9.put0 (a.take n ++ t)
          have hz11 := hz9.other (b := nc) (o := 0) (v := .string (bstr (a.take n ++ t))) (by omega)
          have hR11 := rd_other (b := nc) (o := 0) (v := .string (bstr (a.take n ++ t))) hR9 (by omega)
          have hG11 := gr_set (n := nc) (o := 0) (v := .string (bstr (a.take n ++ t))) hG9 (by omega)
          have hcm := fun W => common_any a (a.take n ++ t) W (by omega)
          have hap : bstr (a.take n) ++ bstr t = bstr (a.take n ++ t) := append_bstr _ _
          have hr0 := hA11.c0
          go_upto_region 12 with fail
          generalize w10.setCell ⟨nc, 0, none⟩ (.string (bstr (a.take n ++ t))) = w11 at *
          generalize a.take n ++ t = row at *
          clear c0 hA9 hz9 hR9 hG9 af0 hap hfz10 hs9
          go_wp2_with fail
          refine (hcm _).mono ?_
          rintro e w12 ⟨rfl, hb12⟩
          replace hA11 := hA11.step hb12
          replace hz11 := hz11.step hb12
          replace hR11 := hR11.below hb12 hR11.lt
          replace hG11 := grown_trans hG11 (grown_of_below hb12 (g := g))
          clear hb12 hcm hr0
          obtain ⟨z0, z1, z2, z3, z4, f0, f1, f2, f3, f4⟩ := hz11.facts
          by_cases hd : cmn a row = n
          · rw [decide_eq_true hd, Bool.and_true, Bool.and_true, Bool.and_true, Bool.and_true, Bool.true_and] at hK2
            rw [hd]
            have hce := Cell_any row k (v : Int) gd x
            have HD : Hid _ := hd
            clear hd
            obtain ⟨d0, d1, d2, d3, d4⟩ := id hA11
            clear z0 z1 z2 z3 z4 f0 f1 f2 f3 f4
            go_wp2_with fail
            refine (hce _).mono ?_
            rintro e w13 ⟨rfl, hb13⟩
            replace hA11 := hA11.step hb13
            replace hz11 := hz11.step hb13
            replace hR11 := hR11.below hb13 hR11.lt
            replace hG11 := grown_trans hG11 (grown_of_below hb13 (g := g))
            clear hb13 hce d0 d1 d2 d3 d4
            obtain ⟨z0, z1, z2, z3, z4, f0, f1, f2, f3, f4⟩ := hz11.facts
            obtain ⟨d0, d1, d2, d3, d4⟩ := id hA11
            cases hm : mayC row k (v : Int) gd x with
            | true =>
              have ht : Hid (tkOk a l = true) := by show _ = _; rw [hK2.out]; exact hm
              rw [if_pos rfl]
              clear hK2 hm
              go_wp2
              generalize hW : ((((w13.setCell ⟨w.heap.size + 1, 0, none⟩ _).setCell ⟨w.heap.size + 1, 1, none⟩ _).setCell ⟨w.heap.size + 1, 2, none⟩ _).setCell ⟨w.heap.size + 1, 3, none⟩ _).setCell ⟨w.heap.size + 1, 4, none⟩ _ = W'
              obtain ⟨q0, q1, q2, q3, q4⟩ := set5_reads z0 z1 z2 z3 z4 hW
              refine bodyPost_ret (v := .tuple #[clV ⟨row, k, (v : Int), gd, x⟩, .bool true]) (by rw [results_cell_tmp Tryz.results119]; simp [go_sem, q0, q1, q2, q3, q4]) rfl ⟨fun _ => ⟨congrArg (fun c => Ending.returned (.tuple #[clV c, .bool true])) hC.out.symm, ?_⟩, (fun hx => by rw [ht.out] at hx; cases hx), ?_⟩
              · rw [← hW]
                exact hR11.below (below_set5 (n := w.heap.size + 1) _ _ _ _ _ (RowKit.Below.refl w.heap.size w13) (Nat.le_succ _)) hglt
              · rw [← hW]
                exact g_put5 hG11 (by omega)
            | false =>
              have ht : Hid (tkOk a l = false) := by show _ = _; rw [hK2.out]; exact hm
              rw [if_neg (by simp)]
              clear hK2 hm
              go_wp2
              generalize hW : ((((w13.setCell ⟨w.heap.size + 1, 0, none⟩ _).setCell ⟨w.heap.size + 1, 1, none⟩ _).setCell ⟨w.heap.size + 1, 2, none⟩ _).setCell ⟨w.heap.size + 1, 3, none⟩ _).setCell ⟨w.heap.size + 1, 4, none⟩ _ = W'
              obtain ⟨q0, q1, q2, q3, q4⟩ := set5_reads z0 z1 z2 z3 z4 hW
              refine bodyPost_ret (v := .tuple #[clV ⟨[], [], 0, false, []⟩, .bool false]) (by rw [results_cell_tmp Tryz.results119]; simp [go_sem, q0, q1, q2, q3, q4]; rfl) rfl ⟨(fun hx => by rw [ht.out] at hx; cases hx), (fun _ => rfl), ?_⟩
              rw [← hW]
              exact g_put5 hG11 (by omega)
          · have hdd : ¬ ((cmn a row : Int) = (n : Int)) := by omega
            have ht : Hid (tkOk a l = false) := by show _ = _; rw [hK2.out, decide_eq_false hd, Bool.and_false, Bool.false_and]
            have hdm : cmn a row ≤ 100 := Nat.le_trans (cmn_left a row) ha
            clear hK2 hd
            generalize cmn a row = d at *
            go_wp2
            generalize hW : ((((w12.setCell ⟨w.heap.size + 1, 0, none⟩ _).setCell ⟨w.heap.size + 1, 1, none⟩ _).setCell ⟨w.heap.size + 1, 2, none⟩ _).setCell ⟨w.heap.size + 1, 3, none⟩ _).setCell ⟨w.heap.size + 1, 4, none⟩ _ = W'
            obtain ⟨q0, q1, q2, q3, q4⟩ := set5_reads z0 z1 z2 z3 z4 hW
            refine bodyPost_ret (v := .tuple #[clV ⟨[], [], 0, false, []⟩, .bool false]) (by rw [results_cell_tmp Tryz.results119]; simp [go_sem, q0, q1, q2, q3, q4]; rfl) rfl ⟨(fun hx => by rw [ht.out] at hx; cases hx), (fun _ => rfl), ?_⟩
            rw [← hW]
            exact g_put5 hG11 (by omega)
        · have hnd : decide ((a.length : Int) < (n : Int)) = true := by rw [decide_eq_true_eq]; omega
          have ht : Hid (tkOk a l = false) := by show _ = _; rw [hK2.out, decide_eq_false hna, Bool.and_false, Bool.false_and, Bool.false_and]
          clear hK2
          go_wp2
          generalize hW : ((((w8.setCell ⟨w.heap.size + 1, 0, none⟩ _).setCell ⟨w.heap.size + 1, 1, none⟩ _).setCell ⟨w.heap.size + 1, 2, none⟩ _).setCell ⟨w.heap.size + 1, 3, none⟩ _).setCell ⟨w.heap.size + 1, 4, none⟩ _ = W'
          obtain ⟨q0, q1, q2, q3, q4⟩ := set5_reads z0 z1 z2 z3 z4 hW
          refine bodyPost_ret (v := .tuple #[clV ⟨[], [], 0, false, []⟩, .bool false]) (by rw [results_cell_tmp Tryz.results119]; simp [go_sem, q0, q1, q2, q3, q4]; rfl) rfl ⟨(fun hx => by rw [ht.out] at hx; cases hx), (fun _ => rfl), ?_⟩
          rw [← hW]
          exact g_put5 hG8 (by omega)
      · have hgd : decide ((1 : Int) < (gb.toNat : Int)) = true := by rw [decide_eq_true_eq]; omega
        have ht : Hid (tkOk a l = false) := by show _ = _; rw [hK2.out, decide_eq_false hg1, Bool.and_false, Bool.false_and, Bool.false_and, Bool.false_and]
        clear hK2
        go_wp2
        generalize hW : ((((w8.setCell ⟨w.heap.size + 1, 0, none⟩ _).setCell ⟨w.heap.size + 1, 1, none⟩ _).setCell ⟨w.heap.size + 1, 2, none⟩ _).setCell ⟨w.heap.size + 1, 3, none⟩ _).setCell ⟨w.heap.size + 1, 4, none⟩ _ = W'
        obtain ⟨q0, q1, q2, q3, q4⟩ := set5_reads z0 z1 z2 z3 z4 hW
        refine bodyPost_ret (v := .tuple #[clV ⟨[], [], 0, false, []⟩, .bool false]) (by rw [results_cell_tmp Tryz.results119]; simp [go_sem, q0, q1, q2, q3, q4]; rfl) rfl ⟨(fun hx => by rw [ht.out] at hx; cases hx), (fun _ => rfl), ?_⟩
        rw [← hW]
        exact g_put5 hG8 (by omega)

end Go.Proofs.YtmpnofbhbglfpaaGreatDoor
