/-
  ops.DecodeResult: the result of bytes.
  ops.Cmd: may a command be? Written by mkocmd.py.
-/
import Derived.Test.YtbdbefgfejdbjaaGreatGJTk2
import Derived.Test.YtbdbefgfejdbjaaGreatGOOpen
import Derived.Test.YtbdbefgfejdbjaaGreatOEnts
import Derived.Deep.Cut
import Derived.Deep.CutBlock
namespace Go.Proofs.YtbdbefgfejdbjaaGreat
open Go.RowKit Go.BigFrame
attribute [local go_sem] size_bstr toList_bstr

theorem bel_kt {w w2 w4 W0 : World} {g nr na : Nat} {a a' : Bool} {l l' : List UInt8} (h : Below w.heap.size w w2) (h2 : Tk W0 g nr na a l w2) (h4 : Tk W0 g nr na a' l' w4) (k : Kt g na w2 w4) (hg : w.heap.size ≤ g) (hna : w.heap.size ≤ na) : Below w.heap.size w w4 :=
  ⟨h4.gr.os.trans (h2.gr.os.symm.trans h.os), h4.gr.tape.trans (h2.gr.tape.symm.trans h.tape), h4.gr.output.trans (h2.gr.output.symm.trans h.output), Nat.le_trans h.size k.1, fun i hi => (k.2 i (Nat.lt_of_lt_of_le hi h.size) (by omega) (by omega)).trans (h.block i hi)⟩
theorem bel_set {w W : World} {b o : Nat} {v : Value} (h : Below w.heap.size w W) (hb : w.heap.size ≤ b) : Below w.heap.size w (W.setCell ⟨b, o, none⟩ v) :=
  ⟨h.os, h.tape, h.output, by simpa [World.setCell] using h.size, fun k hk => (heap_set_other v (by omega)).trans (h.block k hk)⟩
theorem bel_set5 {w W : World} {p q r s t : Value} (h : Below w.heap.size w W) : Below w.heap.size w (((((W.setCell ⟨w.heap.size, 0, none⟩ p).setCell ⟨w.heap.size, 1, none⟩ q).setCell ⟨w.heap.size, 2, none⟩ r).setCell ⟨w.heap.size, 3, none⟩ s).setCell ⟨w.heap.size, 4, none⟩ t) :=
  bel_set (bel_set (bel_set (bel_set (bel_set h (Nat.le_refl _)) (Nat.le_refl _)) (Nat.le_refl _)) (Nat.le_refl _)) (Nat.le_refl _)
/-- A reader, its flag. -/
theorem Tk.start {W : World} {g nr na n : Nat} {a : Bool} {l : List UInt8} (rd : Rd W g (bstr l)) (r0 : W.cell? ⟨nr, 0, none⟩ = some (.pointer (some ⟨g, 0, none⟩))) (a0 : W.cell? ⟨na, 0, none⟩ = some (.bool a)) (af : W.frozen? ⟨na, 0, none⟩ = false)
    (h1 : g < n) (h2 : n ≤ nr) (h3 : n ≤ na) (h4 : nr ≠ na) (ra : nr < W.heap.size) (rn : na < W.heap.size) : Tk { W with heap := W.heap.extract 0 n } g nr na a l W := by
  have hs : (W.heap.extract 0 n).size = n := by rw [Array.size_extract]; omega
  refine ⟨rd, r0, a0, af, ⟨rfl, rfl, rfl, ?_, ?_⟩, ?_, ?_, ?_, h4, ra, rn⟩
  · show (W.heap.extract 0 n).size ≤ _
    omega
  · intro k hk _
    have hk2 : k < n := by
      have : k < (W.heap.extract 0 n).size := hk
      omega
    show _ = (W.heap.extract 0 n)[k]?
    rw [Array.getElem?_extract, if_pos (by omega), Nat.zero_add]
  · show g < (W.heap.extract 0 n).size
    omega
  · show (W.heap.extract 0 n).size ≤ nr
    omega
  · show (W.heap.extract 0 n).size ≤ na
    omega

set_option maxHeartbeats 4000000 in
set_option maxRecDepth 100000 in
/-- A taker over bytes: its reader and its flag lie in new blocks. -/
theorem jNew_any (l : List UInt8) (w : World) :
    Calls Tryz.prog 97 #[.string (bstr l)] w fun e w' => ∃ g nr na, e = .returned (tkV nr na) ∧ (∃ W0, Tk W0 g nr na true l w') ∧ w.heap.size ≤ g ∧ w.heap.size ≤ na ∧ Below w.heap.size w w' := by
  go_enter Tryz.func97, Tryz.ntmps97
  go_wp2_with fail
  refine (New_any (bstr l) _).mono ?_
  rintro e w1 ⟨rfl, r1, hb1⟩
  rw [World.size_alloc] at r1
  have x0 := heap_alloc_new w (.cells #[.nilFunc, .nilFunc, .nilFunc] 108)
  have x1 := (hb1.block w.heap.size (by simp)).trans x0
  obtain ⟨N, hN⟩ : ∃ N, N = w1.heap.size := ⟨_, rfl⟩
  obtain ⟨w2, hw2⟩ : ∃ w2, w2 = (w1.alloc (.cells #[.pointer (some ⟨w.heap.size + 1, 0, none⟩)] 165)).alloc (.cells #[.bool true] 4) := ⟨_, rfl⟩
  have hb2 : Below w1.heap.size w1 w2 := by rw [hw2]; exact ((Below.refl _ _).alloc (Nat.le_refl _) _).alloc (by simp) _
  have p0 : w2.cell? ⟨N, 0, none⟩ = some (.pointer (some ⟨w.heap.size + 1, 0, none⟩)) := by rw [hw2, hN]; exact cell_alloc_old (cell_new0 _ [] _ rfl)
  have p1 : w2.cell? ⟨N + 1, 0, none⟩ = some (.bool true) := by rw [hw2, hN]; exact cell_new0 _ [] _ (by simp)
  have p2 : w2.frozen? ⟨N + 1, 0, none⟩ = false := by
    have := (mcells (heap_alloc_new (w1.alloc (.cells #[.pointer (some ⟨w.heap.size + 1, 0, none⟩)] 165)) (.cells #[.bool true] 4))).2 0
    rw [World.size_alloc] at this
    rw [hw2, hN]
    exact this
  have hsz2 : w2.heap.size = N + 2 := by rw [hw2, hN]; simp
  have hN2 : w.heap.size + 2 ≤ N := by rw [hN]; exact r1.lt
  have r2 := r1.below hb2 r1.lt
  have x2 := (hb2.block w.heap.size (by omega)).trans x1
  have q0 : w2.cell? ⟨w.heap.size, 0, none⟩ = some .nilFunc := (mcells x2).1 0
  have q1 : w2.cell? ⟨w.heap.size, 1, none⟩ = some .nilFunc := (mcells x2).1 1
  have q2 : w2.cell? ⟨w.heap.size, 2, none⟩ = some .nilFunc := (mcells x2).1 2
  have fz := (mcells x2).2
  have hb4 : Below w.heap.size w w2 := bel_call hb2 (bel_call hb1 (bel_alloc (Below.refl _ _)))
  have HX : Hid _ := x2
  have HB : Hid _ := hb4
  have HP0 : Hid _ := p0
  have HP1 : Hid _ := p1
  have HP2 : Hid _ := p2
  have HS2 : Hid _ := hsz2
  have HR2 : Hid _ := r2
  have HW : Hid _ := hw2
  have HN : Hid _ := hN
  have HN2 : Hid _ := hN2
  clear x0 x1 x2 hb1 hb2 hb4 r2 hw2 p0 p1 p2 hsz2 hN2
  go_upto_region 3 with fail
  rw [← HN.out]
  have HW2 := HW.out
  rw [← HW2]
  clear HW2 HW HN hN r1
  go_wp2
  have y0 := heap_set_same HX.out (o := 0) (tk1 N (N + 1))
  have y1 := heap_set_same y0 (o := 1) (tk2 N (N + 1))
  have y2 := heap_set_same y1 (o := 2) (tk3 N (N + 1))
  have z := (mcells y2).1
  have z0 := z 0
  have z1 := z 1
  have z2 := z 2
  have hn2 := HN2.out
  have hs2 := HS2.out
  have h3 : ∀ k, k ≠ w.heap.size → (((w2.setCell ⟨w.heap.size, 0, none⟩ (tk1 N (N + 1))).setCell ⟨w.heap.size, 1, none⟩ (tk2 N (N + 1))).setCell ⟨w.heap.size, 2, none⟩ (tk3 N (N + 1))).heap[k]? = w2.heap[k]? := fun k hk =>
    (heap_set_other _ hk).trans ((heap_set_other _ hk).trans (heap_set_other _ hk))
  refine bodyPost_ret (v := tkV N (N + 1)) (by rw [yres1 rfl]; simp [go_sem, z0, z1, z2]) rfl ⟨w.heap.size + 1, N, N + 1, rfl, ⟨_, Tk.start (n := w.heap.size + 2) ((h3 _ (by omega)).trans HR2.out) ((World.cell?_of_block (a := ⟨N, 0, none⟩) (h3 _ (by show N ≠ _; omega))).trans HP0.out) ((World.cell?_of_block (a := ⟨N + 1, 0, none⟩) (h3 _ (by show N + 1 ≠ _; omega))).trans HP1.out) ((World.frozen?_of_block (a := ⟨N + 1, 0, none⟩) (h3 _ (by show N + 1 ≠ _; omega))).trans HP2.out) (by omega) (by omega) (by omega) (by omega) (by simp [World.setCell]; omega) (by simp [World.setCell]; omega)⟩, by omega, by omega, ?_⟩
  exact ⟨HB.out.os, HB.out.tape, HB.out.output, by simp [World.setCell]; omega, fun k hk => (h3 k (by omega)).trans (HB.out.block k hk)⟩

set_option maxHeartbeats 4000000 in
set_option maxRecDepth 100000 in
theorem jDecode_any (l : List UInt8) (w : World) (hl : l.length ≤ 1048576) :
    Calls Tryz.prog 70 #[.string (bstr l), .func (.func 52) #[] #[], .func (.func 71) #[] #[]] w fun e w' =>
      e = .returned (.tuple #[rzV (if decO l then decR l else rz0), .int .i64 (if decO l then 0 else 4)]) ∧ Below w.heap.size w w' := by
  obtain ⟨D, hD⟩ : ∃ D, D = decR l := ⟨_, rfl⟩
  obtain ⟨wh, hwh⟩ : ∃ wh, wh = (a5 l && decide ((l5 l).length = 0)) := ⟨_, rfl⟩
  obtain ⟨ok, hok⟩ : ∃ ok, ok = okR D := ⟨_, rfl⟩
  have hdo : decO l = (wh && ok) := by rw [hwh, hok, hD]; rfl
  rw [hdo, ← hD]
  have hres := jResult_any D
  rw [← hok] at hres
  have HDo : Hid _ := hD
  have HWh : Hid _ := hwh
  clear hD hwh hok hdo
  obtain ⟨de, df, dr, dv, dn⟩ := D
  have hz0 := RzB.new w
  go_enter Tryz.func70, Tryz.ntmps70
  go_wp2_with fail
  refine (jNew_any l _).mono ?_
  rintro e w1 ⟨g, nr, na, rfl, ⟨W0, hT⟩, hg, hna, hb1⟩
  rw [World.size_alloc] at hg hna
  have hg' : w.heap.size ≤ g := by omega
  have hna' : w.heap.size ≤ na := by omega
  have hz1 : RzB w1 w.heap.size rz0 := hz0.below hb1 (by simp)
  have hb1' : Below w.heap.size w w1 := bel_call hb1 (bel_alloc (Below.refl _ _))
  obtain ⟨N, hN⟩ : ∃ N, N = w1.heap.size := ⟨_, rfl⟩
  obtain ⟨w2, hw2⟩ : ∃ w2, w2 = w1.alloc (.cells #[tk1 nr na, tk2 nr na, tk3 nr na] 108) := ⟨_, rfl⟩
  have hb2 : Below w1.heap.size w1 w2 := by rw [hw2]; exact (Below.refl _ _).alloc (Nat.le_refl _) _
  have hz2 : RzB w2 w.heap.size rz0 := hz1.below hb2 hz1.lt
  have hc := mcells (show w2.heap[N]? = some (.cells #[tk1 nr na, tk2 nr na, tk3 nr na] 108 (0, 0)) by rw [hw2, hN]; exact heap_alloc_new w1 _)
  have c0 : w2.cell? ⟨N, 0, none⟩ = some (tk1 nr na) := hc.1 0
  have c1 : w2.cell? ⟨N, 1, none⟩ = some (tk2 nr na) := hc.1 1
  have c2 : w2.cell? ⟨N, 2, none⟩ = some (tk3 nr na) := hc.1 2
  have hT2 := hT.step hb2
  have hgN : g < w1.heap.size := hT.rd.lt
  have hnaN : na < w1.heap.size := hT.rn
  have hN1 : N ≠ g := by omega
  have hN2 : N ≠ na := by omega
  have hN3 : w.heap.size ≠ g := by omega
  have hN4 : w.heap.size ≠ na := by omega
  have hwN : w.heap.size < N := by rw [hN]; exact hz1.lt
  have M1 : Hid _ := hN1
  have M2 : Hid _ := hN2
  have M3 : Hid _ := hN3
  have M4 : Hid _ := hN4
  have M5 : Hid _ := hwN
  have M6 : Hid _ := hg'
  have M7 : Hid _ := hna'
  have hB2 : Below w.heap.size w w2 := bel_call hb2 hb1'
  have MB : Hid _ := hB2
  have HW : Hid _ := hw2
  have HN : Hid _ := hN
  clear hN1 hN2 hN3 hN4 hwN hg hna hg' hna' hgN hnaN hb1 hb1' hb2 hz0 hz1 hc hw2 hT hB2
  go_upto_region 2 with fail
  rw [← HN.out]
  have HW2 := HW.out
  rw [← HW2]
  clear HW2 HW HN hN
  go_wp2_with fail
  refine (jTake_any g nr na l W0 w2 hT2 hl).mono ?_
  rintro e w3 ⟨rfl, hT3, k3⟩
  rw [← HDo.out]
  replace c0 := (k3.cell (block_lt_of_cell c0) M1.out M2.out).trans c0
  replace c1 := (k3.cell (block_lt_of_cell c1) M1.out M2.out).trans c1
  replace c2 := (k3.cell (block_lt_of_cell c2) M1.out M2.out).trans c2
  have hz3 := hz2.kt k3 M3.out M4.out
  obtain ⟨X, hX⟩ : ∃ X, X = w3.heap.size := ⟨_, rfl⟩
  obtain ⟨w4, hw4⟩ : ∃ w4, w4 = w3.alloc (.cells #[.int .i64 de, .bool df, .string (bstr dr), .string (bstr dv), .int .u64 (dn : Int)] 46) := ⟨_, rfl⟩
  have hb4 : Below w3.heap.size w3 w4 := by rw [hw4]; exact (Below.refl _ _).alloc (Nat.le_refl _) _
  have hx4 : RzB w4 X ⟨de, df, dr, dv, dn⟩ := by rw [hw4, hX]; exact heap_alloc_new w3 _
  have hz4 := hz3.below hb4 hz3.lt
  replace c0 := cell_below hb4 c0
  replace c1 := cell_below hb4 c1
  replace c2 := cell_below hb4 c2
  have hT4 := hT3.step hb4
  have k4 : Kt g na w2 w4 := k3.trans (Kt.below hb4)
  have hB4 : Below w.heap.size w w4 := bel_kt MB.out hT2 hT4 k4 M6.out M7.out
  have HB4 : Hid _ := hB4
  have hXw : w.heap.size < X := by rw [hX]; exact hz3.lt
  have MX : Hid _ := hXw
  have HW : Hid _ := hw4
  have HN : Hid _ := hX
  clear hb4 hw4 hz2 hz3 hT2 hT3 k3 k4 hXw hB4
  go_upto_region 3 with fail
  rw [← HN.out]
  have HW2 := HW.out
  rw [← HW2]
  clear HW2 HW HN hX
  obtain ⟨x0, x1, x2, x3, x4⟩ := hx4.facts
  obtain ⟨z0, z1, z2, z3, z4⟩ := hz4.facts
  simp only at x0 x1 x2 x3 x4 z0 z1 z2 z3 z4
  have fz := hz4.frz
  go_wp2_with fail
  refine (jWhole_any g nr na (a5 l) (l5 l) W0 w4 hT4).mono ?_
  rintro e w5 ⟨rfl, rfl⟩
  rw [← HWh.out]
  clear HWh HDo
  cases wh with
  | false =>
    obtain ⟨w6, hw6⟩ : ∃ w6, w6 = w5.alloc (.cells #[.int .i64 0, .bool false, .string ⟨#[]⟩, .string ⟨#[]⟩, .int .u64 0] 46) := ⟨_, rfl⟩
    have hb6 : Below w5.heap.size w5 w6 := by rw [hw6]; exact (Below.refl _ _).alloc (Nat.le_refl _) _
    have hy6 : RzB w6 w5.heap.size rz0 := by rw [hw6]; exact RzB.new w5
    have hz6 := hz4.below hb6 hz4.lt
    have hB6 := bel_call hb6 HB4.out
    have HW : Hid _ := hw6
    clear hw6 x0 x1 x2 x3 x4 z0 z1 z2 z3 z4 fz c0 c1 c2 hb6 hT4
    obtain ⟨x0, x1, x2, x3, x4⟩ := hy6.facts
    obtain ⟨z0, z1, z2, z3, z4⟩ := hz6.facts
    simp only at x0 x1 x2 x3 x4 z0 z1 z2 z3 z4
    have fz := hz6.frz
    go_upto_region 5 with fail
    have HW2 := HW.out
    rw [← HW2]
    clear HW2 HW
    go_wp2
    exact ret_rz2 rfl rfl rfl (hz6.set rz0) rfl ⟨rfl, bel_set5 hB6⟩
  | true =>
    go_wp2_with fail
    refine (hres w5).mono ?_
    rintro e w6 ⟨rfl, hb6⟩
    have hx6 := hx4.below hb6 hx4.lt
    have hz6 := hz4.below hb6 hz4.lt
    have hB6 := bel_call hb6 HB4.out
    clear x0 x1 x2 x3 x4 z0 z1 z2 z3 z4 fz c0 c1 c2 hb6 hT4 hx4 hz4 hres
    cases ok with
    | true =>
      obtain ⟨x0, x1, x2, x3, x4⟩ := hx6.facts
      obtain ⟨z0, z1, z2, z3, z4⟩ := hz6.facts
      simp only at x0 x1 x2 x3 x4 z0 z1 z2 z3 z4
      have fz := hz6.frz
      go_wp2
      exact ret_rz2 rfl rfl rfl (hz6.set ⟨de, df, dr, dv, dn⟩) rfl ⟨rfl, bel_set5 hB6⟩
    | false =>
      obtain ⟨w7, hw7⟩ : ∃ w7, w7 = w6.alloc (.cells #[.int .i64 0, .bool false, .string ⟨#[]⟩, .string ⟨#[]⟩, .int .u64 0] 46) := ⟨_, rfl⟩
      have hb7 : Below w6.heap.size w6 w7 := by rw [hw7]; exact (Below.refl _ _).alloc (Nat.le_refl _) _
      have hy7 : RzB w7 w6.heap.size rz0 := by rw [hw7]; exact RzB.new w6
      have hz7 := hz6.below hb7 hz6.lt
      have hB7 := bel_call hb7 hB6
      have HW : Hid _ := hw7
      clear hw7 hb7 hx6 hz6 hB6
      obtain ⟨x0, x1, x2, x3, x4⟩ := hy7.facts
      obtain ⟨z0, z1, z2, z3, z4⟩ := hz7.facts
      simp only at x0 x1 x2 x3 x4 z0 z1 z2 z3 z4
      have fz := hz7.frz
      go_upto_region 5 with fail
      have HW2 := HW.out
      rw [← HW2]
      clear HW2 HW
      go_wp2
      exact ret_rz2 rfl rfl rfl (hz7.set rz0) rfl ⟨rfl, bel_set5 hB7⟩

set_option maxHeartbeats 1000000 in
theorem jDecodeR_any (l : List UInt8) (w : World) (hl : l.length ≤ 1048576) :
    Calls Tryz.prog 30 #[.string (bstr l)] w fun e w' =>
      e = .returned (.tuple #[rzV (if decO l then decR l else rz0), .int .i64 (if decO l then 0 else 4)]) ∧ Below w.heap.size w w' := by
  have he := jDecode_any l
  generalize (if decO l then decR l else rz0) = R at *
  generalize (if decO l then (0 : Int) else 4) = E at *
  obtain ⟨de, df, dr, dv, dn⟩ := R
  have hz0 := RzB.new w
  go_enter Tryz.func30, Tryz.ntmps30
  go_wp2_with fail
  refine (he _ hl).mono ?_
  rintro e w1 ⟨rfl, hb1⟩
  have hz1 : RzB w1 w.heap.size rz0 := hz0.below hb1 (by simp)
  have hB1 : Below w.heap.size w w1 := bel_call hb1 (bel_alloc (Below.refl _ _))
  obtain ⟨z0, z1, z2, z3, z4⟩ := hz1.facts
  simp only at z0 z1 z2 z3 z4
  have fz := hz1.frz
  clear hz0 hb1 he
  go_wp2
  exact ret_rz2 rfl rfl rfl (hz1.set ⟨de, df, dr, dv, dn⟩) rfl ⟨rfl, bel_set5 hB1⟩

end Go.Proofs.YtbdbefgfejdbjaaGreat

namespace Go.Proofs.YtbdbefgfejdbjaaGreat
open Go.RowKit Go.BigFrame
attribute [local go_sem] size_bstr toList_bstr

theorem wpList_load_w {P : Program} {ops : Array Oper} {rest : List Oper} {op : Oper} {a : Act} {w : World} {Q : Exit → Act → World → Prop} (hw : Region.wanted op (yielded ops a.tmps) = true) (ty : TypeId) (x : Operand) (ho : op.op = .load ty x)
    (b o : Nat) (hx : a.eval x = .pointer (some ⟨b, o, none⟩)) (cs : List Value) (d : TypeDesc) (hc : w.rangeAt b o cs) (hu : P.underlying ty = some d) (hd : d.isRow = true) (hi : (P.info? ty).map (·.size) = some cs.length)
    (h : wpList P ops Q rest (a.put op.dst (.agg cs.toArray)) w) : wpList P ops Q (op :: rest) a w :=
  wpList_step fun K hK => by
    rw [if_pos hw]
    exact wp_load_mid ty x ho b o hx cs d hc hu hd hi (hK _ _ h)
theorem blk_new (w : World) (t : TypeId) (cs : Array Value) : Blk (w.alloc (.cells cs t)) w.heap.size t cs := heap_alloc_new w _
theorem blk_below {w w' : World} {b : Nat} {t : TypeId} {cs : Array Value} (h : Blk w b t cs) (hb : Below w.heap.size w w') : Blk w' b t cs := (hb.block b (blk_lt h)).trans h
theorem blk_other {w : World} {b k o : Nat} {t : TypeId} {cs : Array Value} {v : Value} (h : Blk w b t cs) (hk : b ≠ k) : Blk (w.setCell ⟨k, o, none⟩ v) b t cs := (heap_set_other v hk).trans h

set_option maxHeartbeats 16000000 in
set_option maxRecDepth 100000 in
theorem oCmd_any (c : Cm) (w : World) : Calls Tryz.prog 10 #[cmV c] w fun e w' => e = .returned (.int .i64 (if okC c then 0 else 2)) ∧ Below w.heap.size w w' := by
  obtain ⟨k, cl, sq, ep, op, pr, st, key, val, gr, wt⟩ := c
  obtain ⟨ok, hok⟩ : ∃ ok, ok = okC ⟨k, cl, sq, ep, op, pr, st, key, val, gr, wt⟩ := ⟨_, rfl⟩
  rw [← hok]
  have HOK : Hid (ok = (goodC ⟨k, cl, sq, ep, op, pr, st, key, val, gr, wt⟩ && decide (restC ⟨k, cl, sq, ep, op, pr, st, key, val, gr, wt⟩ = cm0))) := hok
  clear hok
  obtain ⟨w0, hw0⟩ : ∃ w0, w0 = ((w.alloc (.cells (cmC ⟨k, cl, sq, ep, op, pr, st, key, val, gr, wt⟩).toArray 28)).alloc (.cells #[.int .i64 0, .int .i64 0, .int .u64 0, .int .u64 0, .int .i64 0, .string ⟨#[]⟩, .string ⟨#[]⟩, .string ⟨#[]⟩, .bool false, .string ⟨#[]⟩, .int .u64 0, .int .i64 0, .string ⟨#[]⟩, .string ⟨#[]⟩, .int .i64 0, .bool false, .int .i64 0, .string ⟨#[]⟩, .int .i64 0, .int .i64 0] 28)).setCells (w.heap.size + 1) 0 (cmC ⟨k, cl, sq, ep, op, pr, st, key, val, gr, wt⟩).toArray.toList := ⟨_, rfl⟩
  have hA : Below w.heap.size w ((w.alloc (.cells (cmC ⟨k, cl, sq, ep, op, pr, st, key, val, gr, wt⟩).toArray 28)).alloc (.cells #[.int .i64 0, .int .i64 0, .int .u64 0, .int .u64 0, .int .i64 0, .string ⟨#[]⟩, .string ⟨#[]⟩, .string ⟨#[]⟩, .bool false, .string ⟨#[]⟩, .int .u64 0, .int .i64 0, .string ⟨#[]⟩, .string ⟨#[]⟩, .int .i64 0, .bool false, .int .i64 0, .string ⟨#[]⟩, .int .i64 0, .int .i64 0] 28)) := ((Below.refl _ _).alloc (Nat.le_refl _) _).alloc (by simp) _
  have hb0 : Below w.heap.size w w0 := by
    rw [hw0]
    exact bel_cells (Nat.le_succ _) _ _ hA
  have hz : Blk ((w.alloc (.cells (cmC ⟨k, cl, sq, ep, op, pr, st, key, val, gr, wt⟩).toArray 28)).alloc (.cells #[.int .i64 0, .int .i64 0, .int .u64 0, .int .u64 0, .int .i64 0, .string ⟨#[]⟩, .string ⟨#[]⟩, .string ⟨#[]⟩, .bool false, .string ⟨#[]⟩, .int .u64 0, .int .i64 0, .string ⟨#[]⟩, .string ⟨#[]⟩, .int .i64 0, .bool false, .int .i64 0, .string ⟨#[]⟩, .int .i64 0, .int .i64 0] 28)) (w.heap.size + 1) 28 #[.int .i64 0, .int .i64 0, .int .u64 0, .int .u64 0, .int .i64 0, .string ⟨#[]⟩, .string ⟨#[]⟩, .string ⟨#[]⟩, .bool false, .string ⟨#[]⟩, .int .u64 0, .int .i64 0, .string ⟨#[]⟩, .string ⟨#[]⟩, .int .i64 0, .bool false, .int .i64 0, .string ⟨#[]⟩, .int .i64 0, .int .i64 0] := by
    have := blk_new (w.alloc (.cells (cmC ⟨k, cl, sq, ep, op, pr, st, key, val, gr, wt⟩).toArray 28)) 28 #[.int .i64 0, .int .i64 0, .int .u64 0, .int .u64 0, .int .i64 0, .string ⟨#[]⟩, .string ⟨#[]⟩, .string ⟨#[]⟩, .bool false, .string ⟨#[]⟩, .int .u64 0, .int .i64 0, .string ⟨#[]⟩, .string ⟨#[]⟩, .int .i64 0, .bool false, .int .i64 0, .string ⟨#[]⟩, .int .i64 0, .int .i64 0]
    rw [World.size_alloc] at this
    exact this
  have hy0 : Blk w0 (w.heap.size + 1) 28 (cmC ⟨k, cl, sq, ep, op, pr, st, key, val, gr, wt⟩).toArray := by
    rw [hw0]
    have h5 := blk_cells (cmC ⟨k, cl, sq, ep, op, pr, st, key, val, gr, wt⟩) 0 hz
    rw [setL_all (vs := cmC ⟨k, cl, sq, ep, op, pr, st, key, val, gr, wt⟩) (cs := #[.int .i64 0, .int .i64 0, .int .u64 0, .int .u64 0, .int .i64 0, .string ⟨#[]⟩, .string ⟨#[]⟩, .string ⟨#[]⟩, .bool false, .string ⟨#[]⟩, .int .u64 0, .int .i64 0, .string ⟨#[]⟩, .string ⟨#[]⟩, .int .i64 0, .bool false, .int .i64 0, .string ⟨#[]⟩, .int .i64 0, .int .i64 0]) rfl] at h5
    exact h5
  have hx0 : Blk w0 w.heap.size 28 (cmC ⟨k, cl, sq, ep, op, pr, st, key, val, gr, wt⟩).toArray := by
    rw [hw0]
    have h2 : ∀ (vs : List Value) (o : Nat) (W : World), (W.setCells (w.heap.size + 1) o vs).heap[w.heap.size]? = W.heap[w.heap.size]? := by
      intro vs
      induction vs with
      | nil => intro o W; rfl
      | cons v r ih => intro o W; rw [World.setCells, ih]; exact heap_set_other v (by omega)
    refine (h2 _ _ _).trans ?_
    exact (Below.heap_alloc _ _ _ (by simp)).trans (blk_new w _ _)
  have hr9 : (w.alloc (.cells (cmC ⟨k, cl, sq, ep, op, pr, st, key, val, gr, wt⟩).toArray 28)).rangeAt w.heap.size 0 (cmC ⟨k, cl, sq, ep, op, pr, st, key, val, gr, wt⟩) := range_of_block (blk_new w 28 (cmC ⟨k, cl, sq, ep, op, pr, st, key, val, gr, wt⟩).toArray) [] _ [] (by simp)
  have HW0 : Hid _ := hw0
  have HX0 : Hid (Blk w0 w.heap.size 28 (cmC ⟨k, cl, sq, ep, op, pr, st, key, val, gr, wt⟩).toArray) := hx0
  have HY0 : Hid (Blk w0 (w.heap.size + 1) 28 (cmC ⟨k, cl, sq, ep, op, pr, st, key, val, gr, wt⟩).toArray) := hy0
  have HB0 : Hid _ := hb0
  clear hw0 hA hx0 hy0 hb0
  go_enter Tryz.func10, Tryz.ntmps10
  go_upto_region 2 with (first | refine wpList_load_mid rfl 28 _ rfl w.heap.size 0 rfl (cmC ⟨k, cl, sq, ep, op, pr, st, key, val, gr, wt⟩) _ hr9 Tryz.underlying28 rfl (by kernel_rfl) ?_ | refine wpList_store_mid rfl 28 _ _ rfl (w.heap.size + 1) 0 (cmC ⟨k, cl, sq, ep, op, pr, st, key, val, gr, wt⟩).toArray rfl rfl (blk_there hz rfl) (by kernel_rfl) (by kernel_rfl) ?_ | fail)
  have hw0 := HW0.out
  rw [← hw0]
  clear hw0 HW0 hr9 hz
  have cz0 : w0.cell? ⟨w.heap.size + 1, 0, none⟩ = some (.int .i64 k) := (mcells HY0.out).1 0
  have fz0 : w0.frozen? ⟨w.heap.size + 1, 0, none⟩ = false := (mcells HY0.out).2 0
  obtain ⟨w1, hw1⟩ : ∃ w1, w1 = w0.setCell ⟨w.heap.size + 1, 0, none⟩ (.int .i64 0) := ⟨_, rfl⟩
  have hy1 : Blk w1 (w.heap.size + 1) 28 (cmC ⟨0, cl, sq, ep, op, pr, st, key, val, gr, wt⟩).toArray := by rw [hw1]; exact heap_set_same HY0.out (o := 0) (.int .i64 0)
  have hx1 : Blk w1 w.heap.size 28 (cmC ⟨k, cl, sq, ep, op, pr, st, key, val, gr, wt⟩).toArray := by rw [hw1]; exact blk_other HX0.out (by omega)
  have hb1 : Below w.heap.size w w1 := by rw [hw1]; exact bel_set HB0.out (Nat.le_succ _)
  have HW1 : Hid _ := hw1
  have HX1 : Hid (Blk w1 w.heap.size 28 (cmC ⟨k, cl, sq, ep, op, pr, st, key, val, gr, wt⟩).toArray) := hx1
  have HY1 : Hid (Blk w1 (w.heap.size + 1) 28 (cmC ⟨0, cl, sq, ep, op, pr, st, key, val, gr, wt⟩).toArray) := hy1
  have HB1 : Hid _ := hb1
  clear hw1 hx1 hy1 hb1
  go_upto_region 4 with fail
  have hw1 := HW1.out
  rw [← hw1]
  clear hw1 HW1 cz0 fz0 HX0 HY0 HB0
  have hx1 := HX1.out
  have hy1 := HY1.out
  have hb1 := HB1.out
  have cx0 : w1.cell? ⟨w.heap.size, 0, none⟩ = some (.int .i64 k) := (mcells hx1).1 0
  have HX1 : Hid (Blk w1 w.heap.size 28 (cmC ⟨k, cl, sq, ep, op, pr, st, key, val, gr, wt⟩).toArray) := hx1
  have HY1 : Hid (Blk w1 (w.heap.size + 1) 28 (cmC ⟨0, cl, sq, ep, op, pr, st, key, val, gr, wt⟩).toArray) := hy1
  clear hx1 hy1
  go_upto_block 0 with fail
  go_cut [4] from 9 to 117 (fun s4 wx => s4 = .bool (goodC ⟨k, cl, sq, ep, op, pr, st, key, val, gr, wt⟩) ∧ Blk wx (w.heap.size + 1) 28 (cmC (restC ⟨k, cl, sq, ep, op, pr, st, key, val, gr, wt⟩)).toArray ∧ Below w.heap.size w wx)
  case first =>
    have hx1 := HX1.out
    have hy1 := HY1.out
    clear HX1 HY1 cx0
    by_cases k0 : k = 0
    case pos =>
      subst k0
      go_wp2
      go_meet
      case rel => exact ⟨rfl, hy1, hb1⟩
    case neg =>
    by_cases k1 : k = 1
    case pos =>
      subst k1
      have d1 : w1.cell? ⟨w.heap.size + 1, 1, none⟩ = some (.int .i64 cl) := (mcells hy1).1 1
      have d2 : w1.cell? ⟨w.heap.size + 1, 2, none⟩ = some (.int .u64 sq) := (mcells hy1).1 2
      have d3 : w1.cell? ⟨w.heap.size + 1, 3, none⟩ = some (.int .u64 ep) := (mcells hy1).1 3
      have d4 : w1.cell? ⟨w.heap.size + 1, 4, none⟩ = some (.int .i64 op.kind) := (mcells hy1).1 4
      have d5 : w1.cell? ⟨w.heap.size + 1, 5, none⟩ = some (.string (bstr op.row)) := (mcells hy1).1 5
      have d6 : w1.cell? ⟨w.heap.size + 1, 6, none⟩ = some (.string (bstr op.col)) := (mcells hy1).1 6
      have d7 : w1.cell? ⟨w.heap.size + 1, 7, none⟩ = some (.string (bstr op.val)) := (mcells hy1).1 7
      have d8 : w1.cell? ⟨w.heap.size + 1, 8, none⟩ = some (.bool op.has) := (mcells hy1).1 8
      have d9 : w1.cell? ⟨w.heap.size + 1, 9, none⟩ = some (.string (bstr op.exp)) := (mcells hy1).1 9
      have fy := (mcells hy1).2
      obtain ⟨w2, hw2⟩ : ∃ w2, w2 = (((((((((w1.setCell ⟨w.heap.size + 1, 1, none⟩ (.int .i64 0)).setCell ⟨w.heap.size + 1, 2, none⟩ (.int .u64 0)).setCell ⟨w.heap.size + 1, 3, none⟩ (.int .u64 0)).setCell ⟨w.heap.size + 1, 4, none⟩ (.int .i64 0)).setCell ⟨w.heap.size + 1, 5, none⟩ (.string ⟨#[]⟩)).setCell ⟨w.heap.size + 1, 6, none⟩ (.string ⟨#[]⟩)).setCell ⟨w.heap.size + 1, 7, none⟩ (.string ⟨#[]⟩)).setCell ⟨w.heap.size + 1, 8, none⟩ (.bool false)).setCell ⟨w.heap.size + 1, 9, none⟩ (.string ⟨#[]⟩)) := ⟨_, rfl⟩
      have y2 : Blk w2 (w.heap.size + 1) 28 (cmC (restC ⟨1, cl, sq, ep, op, pr, st, key, val, gr, wt⟩)).toArray := by rw [hw2]; have h9 := (heap_set_same (heap_set_same (heap_set_same (heap_set_same (heap_set_same (heap_set_same (heap_set_same (heap_set_same (heap_set_same hy1 (o := 1) (.int .i64 0)) (o := 2) (.int .u64 0)) (o := 3) (.int .u64 0)) (o := 4) (.int .i64 0)) (o := 5) (.string ⟨#[]⟩)) (o := 6) (.string ⟨#[]⟩)) (o := 7) (.string ⟨#[]⟩)) (o := 8) (.bool false)) (o := 9) (.string ⟨#[]⟩)); refine h9.trans ?_; kernel_rfl
      have x2 : Blk w2 w.heap.size 28 (cmC ⟨1, cl, sq, ep, op, pr, st, key, val, gr, wt⟩).toArray := by rw [hw2]; exact (blk_other (blk_other (blk_other (blk_other (blk_other (blk_other (blk_other (blk_other (blk_other hx1 (by omega)) (by omega)) (by omega)) (by omega)) (by omega)) (by omega)) (by omega)) (by omega)) (by omega))
      have b2 : Below w.heap.size w w2 := by rw [hw2]; exact (bel_set (bel_set (bel_set (bel_set (bel_set (bel_set (bel_set (bel_set (bel_set hb1 (Nat.le_succ _)) (Nat.le_succ _)) (Nat.le_succ _)) (Nat.le_succ _)) (Nat.le_succ _)) (Nat.le_succ _)) (Nat.le_succ _)) (Nat.le_succ _)) (Nat.le_succ _))
      have Y2 : Hid (Blk w2 (w.heap.size + 1) 28 (cmC (restC ⟨1, cl, sq, ep, op, pr, st, key, val, gr, wt⟩)).toArray) := y2
      have X2 : Hid (Blk w2 w.heap.size 28 (cmC ⟨1, cl, sq, ep, op, pr, st, key, val, gr, wt⟩).toArray) := x2
      have B2 : Hid _ := b2
      have HW2 : Hid _ := hw2
      clear y2 x2 b2 hw2 hx1 hy1 hb1
      go_upto_region 9 with fail
      have hw2 := HW2.out
      rw [← hw2]
      clear hw2 HW2 d1 d2 d3 d4 d5 d6 d7 d8 d9 fy
      have c1 : w2.cell? ⟨w.heap.size, 1, none⟩ = some (.int .i64 cl) := (mcells X2.out).1 1
      have c2 : w2.cell? ⟨w.heap.size, 2, none⟩ = some (.int .u64 sq) := (mcells X2.out).1 2
      have c3 : w2.cell? ⟨w.heap.size, 3, none⟩ = some (.int .u64 ep) := (mcells X2.out).1 3
      have hr : w2.rangeAt w.heap.size 4 (oqC op).toList := range_of_block X2.out [.int .i64 1, .int .i64 cl, .int .u64 sq, .int .u64 ep] (oqC op).toList [.int .u64 pr, .int .i64 st, .string (bstr key), .string (bstr val), .int .i64 gr, .bool wt.mv, .int .i64 wt.g, .string (bstr wt.key), .int .i64 wt.i, .int .i64 wt.o] rfl
      go_wp2_with (first | refine wpList_load_mid rfl 24 _ rfl w.heap.size 4 rfl (oqC op).toList _ hr Tryz.underlying24 rfl (by kernel_rfl) ?_ | fail)
      refine (show Calls Tryz.prog _ #[_, _, _, .agg (oqC op).toList.toArray] _ _ from (oAsked_any cl sq ep op w2)).mono ?_
      rintro e w3 ⟨rfl, hb3⟩
      have Y3 := blk_below Y2.out hb3
      have B3 := below2 B2.out hb3
      clear hr c1 c2 c3
      go_wp2
      go_meet
      case rel => exact ⟨rfl, Y3, B3⟩
    case neg =>
    by_cases k2 : k = 2
    case pos =>
      subst k2
      have d10 : w1.cell? ⟨w.heap.size + 1, 10, none⟩ = some (.int .u64 pr) := (mcells hy1).1 10
      have d11 : w1.cell? ⟨w.heap.size + 1, 11, none⟩ = some (.int .i64 st) := (mcells hy1).1 11
      have d3 : w1.cell? ⟨w.heap.size + 1, 3, none⟩ = some (.int .u64 ep) := (mcells hy1).1 3
      have fy := (mcells hy1).2
      obtain ⟨w2, hw2⟩ : ∃ w2, w2 = (((w1.setCell ⟨w.heap.size + 1, 10, none⟩ (.int .u64 0)).setCell ⟨w.heap.size + 1, 11, none⟩ (.int .i64 0)).setCell ⟨w.heap.size + 1, 3, none⟩ (.int .u64 0)) := ⟨_, rfl⟩
      have y2 : Blk w2 (w.heap.size + 1) 28 (cmC (restC ⟨2, cl, sq, ep, op, pr, st, key, val, gr, wt⟩)).toArray := by rw [hw2]; have h9 := (heap_set_same (heap_set_same (heap_set_same hy1 (o := 10) (.int .u64 0)) (o := 11) (.int .i64 0)) (o := 3) (.int .u64 0)); refine h9.trans ?_; kernel_rfl
      have x2 : Blk w2 w.heap.size 28 (cmC ⟨2, cl, sq, ep, op, pr, st, key, val, gr, wt⟩).toArray := by rw [hw2]; exact (blk_other (blk_other (blk_other hx1 (by omega)) (by omega)) (by omega))
      have b2 : Below w.heap.size w w2 := by rw [hw2]; exact (bel_set (bel_set (bel_set hb1 (Nat.le_succ _)) (Nat.le_succ _)) (Nat.le_succ _))
      have Y2 : Hid (Blk w2 (w.heap.size + 1) 28 (cmC (restC ⟨2, cl, sq, ep, op, pr, st, key, val, gr, wt⟩)).toArray) := y2
      have X2 : Hid (Blk w2 w.heap.size 28 (cmC ⟨2, cl, sq, ep, op, pr, st, key, val, gr, wt⟩).toArray) := x2
      have B2 : Hid _ := b2
      have HW2 : Hid _ := hw2
      clear y2 x2 b2 hw2 hx1 hy1 hb1
      go_upto_region 13 with fail
      have hw2 := HW2.out
      rw [← hw2]
      clear hw2 HW2 d10 d11 d3 fy
      have c10 : w2.cell? ⟨w.heap.size, 10, none⟩ = some (.int .u64 pr) := (mcells X2.out).1 10
      have c11 : w2.cell? ⟨w.heap.size, 11, none⟩ = some (.int .i64 st) := (mcells X2.out).1 11
      have c3 : w2.cell? ⟨w.heap.size, 3, none⟩ = some (.int .u64 ep) := (mcells X2.out).1 3
      have hgd : ∀ b, b = stepB pr st → goodC ⟨2, cl, sq, ep, op, pr, st, key, val, gr, wt⟩ = (b && decide (ep ≤ 1099511627776)) := by rintro b rfl; rfl
      have K := fun W : World => (show Calls Tryz.prog _ _ W (fun e w' => e = .returned (.bool (stepB pr st)) ∧ Below W.heap.size W w') from oStep_any pr st W)
      generalize stepB pr st = b at *
      have hgd := hgd b rfl
      have HG : Hid _ := hgd
      clear hgd
      go_wp2_with fail
      refine (K _).mono ?_
      rintro e w3 ⟨rfl, hb3⟩
      have Y3 := blk_below Y2.out hb3
      have B3 := below2 B2.out hb3
      replace c3 := cell_below hb3 c3
      clear c10 c11 hb3 K
      cases b
      case false =>
        go_wp2
        go_meet
        case rel => exact ⟨congrArg Value.bool (by first | exact HG.out.symm | (refine Eq.trans ?_ HG.out.symm; first | rfl | (simp; done) | (rw [Bool.true_and]; exact decide_eq_decide.2 (by omega)) | (simp; omega) | (simp_all; done) | (simp_all; omega))), Y3, B3⟩
      case true =>
        go_wp2
        go_meet
        case rel => exact ⟨congrArg Value.bool (by first | exact HG.out.symm | (refine Eq.trans ?_ HG.out.symm; first | rfl | (simp; done) | (rw [Bool.true_and]; exact decide_eq_decide.2 (by omega)) | (simp; omega) | (simp_all; done) | (simp_all; omega))), Y3, B3⟩
    case neg =>
    by_cases k3 : k = 3
    case pos =>
      subst k3
      have d10 : w1.cell? ⟨w.heap.size + 1, 10, none⟩ = some (.int .u64 pr) := (mcells hy1).1 10
      have d11 : w1.cell? ⟨w.heap.size + 1, 11, none⟩ = some (.int .i64 st) := (mcells hy1).1 11
      have d3 : w1.cell? ⟨w.heap.size + 1, 3, none⟩ = some (.int .u64 ep) := (mcells hy1).1 3
      have d12 : w1.cell? ⟨w.heap.size + 1, 12, none⟩ = some (.string (bstr key)) := (mcells hy1).1 12
      have d14 : w1.cell? ⟨w.heap.size + 1, 14, none⟩ = some (.int .i64 gr) := (mcells hy1).1 14
      have fy := (mcells hy1).2
      obtain ⟨w2, hw2⟩ : ∃ w2, w2 = (((((w1.setCell ⟨w.heap.size + 1, 10, none⟩ (.int .u64 0)).setCell ⟨w.heap.size + 1, 11, none⟩ (.int .i64 0)).setCell ⟨w.heap.size + 1, 3, none⟩ (.int .u64 0)).setCell ⟨w.heap.size + 1, 12, none⟩ (.string ⟨#[]⟩)).setCell ⟨w.heap.size + 1, 14, none⟩ (.int .i64 0)) := ⟨_, rfl⟩
      have y2 : Blk w2 (w.heap.size + 1) 28 (cmC (restC ⟨3, cl, sq, ep, op, pr, st, key, val, gr, wt⟩)).toArray := by rw [hw2]; have h9 := (heap_set_same (heap_set_same (heap_set_same (heap_set_same (heap_set_same hy1 (o := 10) (.int .u64 0)) (o := 11) (.int .i64 0)) (o := 3) (.int .u64 0)) (o := 12) (.string ⟨#[]⟩)) (o := 14) (.int .i64 0)); refine h9.trans ?_; kernel_rfl
      have x2 : Blk w2 w.heap.size 28 (cmC ⟨3, cl, sq, ep, op, pr, st, key, val, gr, wt⟩).toArray := by rw [hw2]; exact (blk_other (blk_other (blk_other (blk_other (blk_other hx1 (by omega)) (by omega)) (by omega)) (by omega)) (by omega))
      have b2 : Below w.heap.size w w2 := by rw [hw2]; exact (bel_set (bel_set (bel_set (bel_set (bel_set hb1 (Nat.le_succ _)) (Nat.le_succ _)) (Nat.le_succ _)) (Nat.le_succ _)) (Nat.le_succ _))
      have Y2 : Hid (Blk w2 (w.heap.size + 1) 28 (cmC (restC ⟨3, cl, sq, ep, op, pr, st, key, val, gr, wt⟩)).toArray) := y2
      have X2 : Hid (Blk w2 w.heap.size 28 (cmC ⟨3, cl, sq, ep, op, pr, st, key, val, gr, wt⟩).toArray) := x2
      have B2 : Hid _ := b2
      have HW2 : Hid _ := hw2
      clear y2 x2 b2 hw2 hx1 hy1 hb1
      go_upto_region 16 with fail
      have hw2 := HW2.out
      rw [← hw2]
      clear hw2 HW2 d10 d11 d3 d12 d14 fy
      have c10 : w2.cell? ⟨w.heap.size, 10, none⟩ = some (.int .u64 pr) := (mcells X2.out).1 10
      have c11 : w2.cell? ⟨w.heap.size, 11, none⟩ = some (.int .i64 st) := (mcells X2.out).1 11
      have c3 : w2.cell? ⟨w.heap.size, 3, none⟩ = some (.int .u64 ep) := (mcells X2.out).1 3
      have c12 : w2.cell? ⟨w.heap.size, 12, none⟩ = some (.string (bstr key)) := (mcells X2.out).1 12
      have c14 : w2.cell? ⟨w.heap.size, 14, none⟩ = some (.int .i64 gr) := (mcells X2.out).1 14
      have hgd : ∀ b, b = stepB pr st → goodC ⟨3, cl, sq, ep, op, pr, st, key, val, gr, wt⟩ = (b && decide (ep ≤ 1099511627776) && userB key && groupB gr && decide (3 < gr)) := by rintro b rfl; rfl
      have K := fun W : World => (show Calls Tryz.prog _ _ W (fun e w' => e = .returned (.bool (stepB pr st)) ∧ Below W.heap.size W w') from oStep_any pr st W)
      have K2 := fun W : World => User_any key W
      have K3 := fun W : World => (show Calls Tryz.prog _ _ W (fun e w' => e = .returned (.bool (groupB gr)) ∧ Below W.heap.size W w') from oGroup_any gr W)
      generalize userB key = u at *
      generalize groupB gr = gb at *
      generalize stepB pr st = b at *
      have hgd := hgd b rfl
      have HG : Hid _ := hgd
      clear hgd
      go_wp2_with fail
      refine (K _).mono ?_
      rintro e w3 ⟨rfl, hb3⟩
      have Y3 := blk_below Y2.out hb3
      have B3 := below2 B2.out hb3
      replace c3 := cell_below hb3 c3
      replace c12 := cell_below hb3 c12
      replace c14 := cell_below hb3 c14
      clear c10 c11 hb3 K
      cases b
      case false =>
        go_wp2
        go_meet
        case rel => exact ⟨congrArg Value.bool (by first | exact HG.out.symm | (refine Eq.trans ?_ HG.out.symm; first | rfl | (simp; done) | (rw [Bool.true_and]; exact decide_eq_decide.2 (by omega)) | (simp; omega) | (simp_all; done) | (simp_all; omega))), Y3, B3⟩
      case true =>
        by_cases hep : ep ≤ 1099511627776
        case neg =>
          go_wp2
          go_meet
          case rel => exact ⟨congrArg Value.bool (by first | exact HG.out.symm | (refine Eq.trans ?_ HG.out.symm; first | rfl | (simp; done) | (rw [Bool.true_and]; exact decide_eq_decide.2 (by omega)) | (simp; omega) | (simp_all; done) | (simp_all; omega))), Y3, B3⟩
        case pos =>
        go_wp2_with fail
        refine (K2 _).mono ?_
        rintro e w4 ⟨rfl, hb4⟩
        have Y4 := blk_below Y3 hb4
        have B4 := below2 B3 hb4
        replace c14 := cell_below hb4 c14
        clear hb4 K2 Y3 B3 c3 c12
        cases u
        case false =>
          go_wp2
          go_meet
          case rel => exact ⟨congrArg Value.bool (by first | exact HG.out.symm | (refine Eq.trans ?_ HG.out.symm; first | rfl | (simp; done) | (rw [Bool.true_and]; exact decide_eq_decide.2 (by omega)) | (simp; omega) | (simp_all; done) | (simp_all; omega))), Y4, B4⟩
        case true =>
        go_wp2_with fail
        refine (K3 _).mono ?_
        rintro e w5 ⟨rfl, hb5⟩
        have Y5 := blk_below Y4 hb5
        have B5 := below2 B4 hb5
        replace c14 := cell_below hb5 c14
        clear hb5 K3 Y4 B4
        cases gb
        case false =>
          go_wp2
          go_meet
          case rel => exact ⟨congrArg Value.bool (by first | exact HG.out.symm | (refine Eq.trans ?_ HG.out.symm; first | rfl | (simp; done) | (rw [Bool.true_and]; exact decide_eq_decide.2 (by omega)) | (simp; omega) | (simp_all; done) | (simp_all; omega))), Y5, B5⟩
        case true =>
          go_wp2
          go_meet
          case rel => exact ⟨congrArg Value.bool (by first | exact HG.out.symm | (refine Eq.trans ?_ HG.out.symm; first | rfl | (simp; done) | (rw [Bool.true_and]; exact decide_eq_decide.2 (by omega)) | (simp; omega) | (simp_all; done) | (simp_all; omega))), Y5, B5⟩
    case neg =>
    by_cases k4 : k = 4
    case pos =>
      subst k4
      have d10 : w1.cell? ⟨w.heap.size + 1, 10, none⟩ = some (.int .u64 pr) := (mcells hy1).1 10
      have d11 : w1.cell? ⟨w.heap.size + 1, 11, none⟩ = some (.int .i64 st) := (mcells hy1).1 11
      have d3 : w1.cell? ⟨w.heap.size + 1, 3, none⟩ = some (.int .u64 ep) := (mcells hy1).1 3
      have fy := (mcells hy1).2
      obtain ⟨w2, hw2⟩ : ∃ w2, w2 = (((w1.setCell ⟨w.heap.size + 1, 10, none⟩ (.int .u64 0)).setCell ⟨w.heap.size + 1, 11, none⟩ (.int .i64 0)).setCell ⟨w.heap.size + 1, 3, none⟩ (.int .u64 0)) := ⟨_, rfl⟩
      have y2 : Blk w2 (w.heap.size + 1) 28 (cmC (restC ⟨4, cl, sq, ep, op, pr, st, key, val, gr, wt⟩)).toArray := by rw [hw2]; have h9 := (heap_set_same (heap_set_same (heap_set_same hy1 (o := 10) (.int .u64 0)) (o := 11) (.int .i64 0)) (o := 3) (.int .u64 0)); refine h9.trans ?_; kernel_rfl
      have x2 : Blk w2 w.heap.size 28 (cmC ⟨4, cl, sq, ep, op, pr, st, key, val, gr, wt⟩).toArray := by rw [hw2]; exact (blk_other (blk_other (blk_other hx1 (by omega)) (by omega)) (by omega))
      have b2 : Below w.heap.size w w2 := by rw [hw2]; exact (bel_set (bel_set (bel_set hb1 (Nat.le_succ _)) (Nat.le_succ _)) (Nat.le_succ _))
      have Y2 : Hid (Blk w2 (w.heap.size + 1) 28 (cmC (restC ⟨4, cl, sq, ep, op, pr, st, key, val, gr, wt⟩)).toArray) := y2
      have X2 : Hid (Blk w2 w.heap.size 28 (cmC ⟨4, cl, sq, ep, op, pr, st, key, val, gr, wt⟩).toArray) := x2
      have B2 : Hid _ := b2
      have HW2 : Hid _ := hw2
      clear y2 x2 b2 hw2 hx1 hy1 hb1
      go_upto_region 13 with fail
      have hw2 := HW2.out
      rw [← hw2]
      clear hw2 HW2 d10 d11 d3 fy
      have c10 : w2.cell? ⟨w.heap.size, 10, none⟩ = some (.int .u64 pr) := (mcells X2.out).1 10
      have c11 : w2.cell? ⟨w.heap.size, 11, none⟩ = some (.int .i64 st) := (mcells X2.out).1 11
      have c3 : w2.cell? ⟨w.heap.size, 3, none⟩ = some (.int .u64 ep) := (mcells X2.out).1 3
      have hgd : ∀ b, b = stepB pr st → goodC ⟨4, cl, sq, ep, op, pr, st, key, val, gr, wt⟩ = (b && decide (ep ≤ 1099511627776)) := by rintro b rfl; rfl
      have K := fun W : World => (show Calls Tryz.prog _ _ W (fun e w' => e = .returned (.bool (stepB pr st)) ∧ Below W.heap.size W w') from oStep_any pr st W)
      generalize stepB pr st = b at *
      have hgd := hgd b rfl
      have HG : Hid _ := hgd
      clear hgd
      go_wp2_with fail
      refine (K _).mono ?_
      rintro e w3 ⟨rfl, hb3⟩
      have Y3 := blk_below Y2.out hb3
      have B3 := below2 B2.out hb3
      replace c3 := cell_below hb3 c3
      clear c10 c11 hb3 K
      cases b
      case false =>
        go_wp2
        go_meet
        case rel => exact ⟨congrArg Value.bool (by first | exact HG.out.symm | (refine Eq.trans ?_ HG.out.symm; first | rfl | (simp; done) | (rw [Bool.true_and]; exact decide_eq_decide.2 (by omega)) | (simp; omega) | (simp_all; done) | (simp_all; omega))), Y3, B3⟩
      case true =>
        go_wp2
        go_meet
        case rel => exact ⟨congrArg Value.bool (by first | exact HG.out.symm | (refine Eq.trans ?_ HG.out.symm; first | rfl | (simp; done) | (rw [Bool.true_and]; exact decide_eq_decide.2 (by omega)) | (simp; omega) | (simp_all; done) | (simp_all; omega))), Y3, B3⟩
    case neg =>
    by_cases k5 : k = 5
    case pos =>
      subst k5
      have d10 : w1.cell? ⟨w.heap.size + 1, 10, none⟩ = some (.int .u64 pr) := (mcells hy1).1 10
      have d11 : w1.cell? ⟨w.heap.size + 1, 11, none⟩ = some (.int .i64 st) := (mcells hy1).1 11
      have d12 : w1.cell? ⟨w.heap.size + 1, 12, none⟩ = some (.string (bstr key)) := (mcells hy1).1 12
      have d13 : w1.cell? ⟨w.heap.size + 1, 13, none⟩ = some (.string (bstr val)) := (mcells hy1).1 13
      have fy := (mcells hy1).2
      obtain ⟨w2, hw2⟩ : ∃ w2, w2 = ((((w1.setCell ⟨w.heap.size + 1, 10, none⟩ (.int .u64 0)).setCell ⟨w.heap.size + 1, 11, none⟩ (.int .i64 0)).setCell ⟨w.heap.size + 1, 12, none⟩ (.string ⟨#[]⟩)).setCell ⟨w.heap.size + 1, 13, none⟩ (.string ⟨#[]⟩)) := ⟨_, rfl⟩
      have y2 : Blk w2 (w.heap.size + 1) 28 (cmC (restC ⟨5, cl, sq, ep, op, pr, st, key, val, gr, wt⟩)).toArray := by rw [hw2]; have h9 := (heap_set_same (heap_set_same (heap_set_same (heap_set_same hy1 (o := 10) (.int .u64 0)) (o := 11) (.int .i64 0)) (o := 12) (.string ⟨#[]⟩)) (o := 13) (.string ⟨#[]⟩)); refine h9.trans ?_; kernel_rfl
      have x2 : Blk w2 w.heap.size 28 (cmC ⟨5, cl, sq, ep, op, pr, st, key, val, gr, wt⟩).toArray := by rw [hw2]; exact (blk_other (blk_other (blk_other (blk_other hx1 (by omega)) (by omega)) (by omega)) (by omega))
      have b2 : Below w.heap.size w w2 := by rw [hw2]; exact (bel_set (bel_set (bel_set (bel_set hb1 (Nat.le_succ _)) (Nat.le_succ _)) (Nat.le_succ _)) (Nat.le_succ _))
      have Y2 : Hid (Blk w2 (w.heap.size + 1) 28 (cmC (restC ⟨5, cl, sq, ep, op, pr, st, key, val, gr, wt⟩)).toArray) := y2
      have X2 : Hid (Blk w2 w.heap.size 28 (cmC ⟨5, cl, sq, ep, op, pr, st, key, val, gr, wt⟩).toArray) := x2
      have B2 : Hid _ := b2
      have HW2 : Hid _ := hw2
      clear y2 x2 b2 hw2 hx1 hy1 hb1
      go_upto_region 19 with fail
      have hw2 := HW2.out
      rw [← hw2]
      clear hw2 HW2 d10 d11 d12 d13 fy
      have c10 : w2.cell? ⟨w.heap.size, 10, none⟩ = some (.int .u64 pr) := (mcells X2.out).1 10
      have c11 : w2.cell? ⟨w.heap.size, 11, none⟩ = some (.int .i64 st) := (mcells X2.out).1 11
      have c12 : w2.cell? ⟨w.heap.size, 12, none⟩ = some (.string (bstr key)) := (mcells X2.out).1 12
      have c13 : w2.cell? ⟨w.heap.size, 13, none⟩ = some (.string (bstr val)) := (mcells X2.out).1 13
      have hgd : ∀ b, b = stepB pr st → goodC ⟨5, cl, sq, ep, op, pr, st, key, val, gr, wt⟩ = (b && !decide (key = []) && storedB key && decide (val.length ≤ 256)) := by rintro b rfl; rfl
      have K := fun W : World => (show Calls Tryz.prog _ _ W (fun e w' => e = .returned (.bool (stepB pr st)) ∧ Below W.heap.size W w') from oStep_any pr st W)
      have K2 := fun W : World => Stored_any key W
      generalize storedB key = u at *
      generalize stepB pr st = b at *
      have hgd := hgd b rfl
      have HG : Hid _ := hgd
      clear hgd
      go_wp2_with fail
      refine (K _).mono ?_
      rintro e w3 ⟨rfl, hb3⟩
      have Y3 := blk_below Y2.out hb3
      have B3 := below2 B2.out hb3
      replace c12 := cell_below hb3 c12
      replace c13 := cell_below hb3 c13
      clear c10 c11 hb3 K
      cases b
      case false =>
        go_wp2
        go_meet
        case rel => exact ⟨congrArg Value.bool (by first | exact HG.out.symm | (refine Eq.trans ?_ HG.out.symm; first | rfl | (simp; done) | (rw [Bool.true_and]; exact decide_eq_decide.2 (by omega)) | (simp; omega) | (simp_all; done) | (simp_all; omega))), Y3, B3⟩
      case true =>
        by_cases hk : key = []
        case pos =>
          subst hk
          go_wp2
          go_meet
          case rel => exact ⟨congrArg Value.bool (by first | exact HG.out.symm | (refine Eq.trans ?_ HG.out.symm; first | rfl | (simp; done) | (rw [Bool.true_and]; exact decide_eq_decide.2 (by omega)) | (simp; omega) | (simp_all; done) | (simp_all; omega))), Y3, B3⟩
        case neg =>
        have hk2 : (key == ([] : List UInt8)) = false := beq_eq_false_iff_ne.2 hk
        go_wp2_with fail
        refine (K2 _).mono ?_
        rintro e w4 ⟨rfl, hb4⟩
        have Y4 := blk_below Y3 hb4
        have B4 := below2 B3 hb4
        replace c13 := cell_below hb4 c13
        clear hb4 K2 Y3 B3 c12
        cases u
        case false =>
          go_wp2
          go_meet
          case rel => exact ⟨congrArg Value.bool (by first | exact HG.out.symm | (refine Eq.trans ?_ HG.out.symm; first | rfl | (simp; done) | (rw [Bool.true_and]; exact decide_eq_decide.2 (by omega)) | (simp; omega) | (simp_all; done) | (simp_all; omega))), Y4, B4⟩
        case true =>
          go_wp2
          go_meet
          case rel => exact ⟨congrArg Value.bool (by first | exact HG.out.symm | (refine Eq.trans ?_ HG.out.symm; first | rfl | (simp; done) | (rw [Bool.true_and]; exact decide_eq_decide.2 (by omega)) | (simp; omega) | (simp_all; done) | (simp_all; omega))), Y4, B4⟩
    case neg =>
    by_cases k6 : k = 6
    case pos =>
      subst k6
      have d15 : w1.cell? ⟨w.heap.size + 1, 15, none⟩ = some (.bool wt.mv) := (mcells hy1).1 15
      have d16 : w1.cell? ⟨w.heap.size + 1, 16, none⟩ = some (.int .i64 wt.g) := (mcells hy1).1 16
      have d17 : w1.cell? ⟨w.heap.size + 1, 17, none⟩ = some (.string (bstr wt.key)) := (mcells hy1).1 17
      have d18 : w1.cell? ⟨w.heap.size + 1, 18, none⟩ = some (.int .i64 wt.i) := (mcells hy1).1 18
      have d19 : w1.cell? ⟨w.heap.size + 1, 19, none⟩ = some (.int .i64 wt.o) := (mcells hy1).1 19
      have fy := (mcells hy1).2
      obtain ⟨w2, hw2⟩ : ∃ w2, w2 = (((((w1.setCell ⟨w.heap.size + 1, 15, none⟩ (.bool false)).setCell ⟨w.heap.size + 1, 16, none⟩ (.int .i64 0)).setCell ⟨w.heap.size + 1, 17, none⟩ (.string ⟨#[]⟩)).setCell ⟨w.heap.size + 1, 18, none⟩ (.int .i64 0)).setCell ⟨w.heap.size + 1, 19, none⟩ (.int .i64 0)) := ⟨_, rfl⟩
      have y2 : Blk w2 (w.heap.size + 1) 28 (cmC (restC ⟨6, cl, sq, ep, op, pr, st, key, val, gr, wt⟩)).toArray := by rw [hw2]; have h9 := (heap_set_same (heap_set_same (heap_set_same (heap_set_same (heap_set_same hy1 (o := 15) (.bool false)) (o := 16) (.int .i64 0)) (o := 17) (.string ⟨#[]⟩)) (o := 18) (.int .i64 0)) (o := 19) (.int .i64 0)); refine h9.trans ?_; kernel_rfl
      have x2 : Blk w2 w.heap.size 28 (cmC ⟨6, cl, sq, ep, op, pr, st, key, val, gr, wt⟩).toArray := by rw [hw2]; exact (blk_other (blk_other (blk_other (blk_other (blk_other hx1 (by omega)) (by omega)) (by omega)) (by omega)) (by omega))
      have b2 : Below w.heap.size w w2 := by rw [hw2]; exact (bel_set (bel_set (bel_set (bel_set (bel_set hb1 (Nat.le_succ _)) (Nat.le_succ _)) (Nat.le_succ _)) (Nat.le_succ _)) (Nat.le_succ _))
      have Y2 : Hid (Blk w2 (w.heap.size + 1) 28 (cmC (restC ⟨6, cl, sq, ep, op, pr, st, key, val, gr, wt⟩)).toArray) := y2
      have X2 : Hid (Blk w2 w.heap.size 28 (cmC ⟨6, cl, sq, ep, op, pr, st, key, val, gr, wt⟩).toArray) := x2
      have B2 : Hid _ := b2
      have HW2 : Hid _ := hw2
      clear y2 x2 b2 hw2 hx1 hy1 hb1
      go_upto_region 22 with fail
      have hw2 := HW2.out
      rw [← hw2]
      clear hw2 HW2 d15 d16 d17 d18 d19 fy
      have hr : w2.rangeAt w.heap.size 15 (wtC wt) := range_of_block X2.out [.int .i64 6, .int .i64 cl, .int .u64 sq, .int .u64 ep, .int .i64 op.kind, .string (bstr op.row), .string (bstr op.col), .string (bstr op.val), .bool op.has, .string (bstr op.exp), .int .u64 pr, .int .i64 st, .string (bstr key), .string (bstr val), .int .i64 gr] (wtC wt) [] rfl
      go_wp2_with (first | refine wpList_load_mid rfl 26 _ rfl w.heap.size 15 rfl (wtC wt) _ hr Tryz.underlying26 rfl (by kernel_rfl) ?_ | fail)
      refine (show Calls Tryz.prog _ #[.agg (wtC wt).toArray] _ _ from (oWant_any wt w2)).mono ?_
      rintro e w3 ⟨rfl, hb3⟩
      have Y3 := blk_below Y2.out hb3
      have B3 := below2 B2.out hb3
      clear hr
      go_wp2
      go_meet
      case rel => exact ⟨rfl, Y3, B3⟩
    case neg =>
    by_cases k7 : k = 7
    case pos =>
      subst k7
      have d10 : w1.cell? ⟨w.heap.size + 1, 10, none⟩ = some (.int .u64 pr) := (mcells hy1).1 10
      have d11 : w1.cell? ⟨w.heap.size + 1, 11, none⟩ = some (.int .i64 st) := (mcells hy1).1 11
      have fy := (mcells hy1).2
      obtain ⟨w2, hw2⟩ : ∃ w2, w2 = ((w1.setCell ⟨w.heap.size + 1, 10, none⟩ (.int .u64 0)).setCell ⟨w.heap.size + 1, 11, none⟩ (.int .i64 0)) := ⟨_, rfl⟩
      have y2 : Blk w2 (w.heap.size + 1) 28 (cmC (restC ⟨7, cl, sq, ep, op, pr, st, key, val, gr, wt⟩)).toArray := by rw [hw2]; have h9 := (heap_set_same (heap_set_same hy1 (o := 10) (.int .u64 0)) (o := 11) (.int .i64 0)); refine h9.trans ?_; kernel_rfl
      have x2 : Blk w2 w.heap.size 28 (cmC ⟨7, cl, sq, ep, op, pr, st, key, val, gr, wt⟩).toArray := by rw [hw2]; exact (blk_other (blk_other hx1 (by omega)) (by omega))
      have b2 : Below w.heap.size w w2 := by rw [hw2]; exact (bel_set (bel_set hb1 (Nat.le_succ _)) (Nat.le_succ _))
      have Y2 : Hid (Blk w2 (w.heap.size + 1) 28 (cmC (restC ⟨7, cl, sq, ep, op, pr, st, key, val, gr, wt⟩)).toArray) := y2
      have X2 : Hid (Blk w2 w.heap.size 28 (cmC ⟨7, cl, sq, ep, op, pr, st, key, val, gr, wt⟩).toArray) := x2
      have B2 : Hid _ := b2
      have HW2 : Hid _ := hw2
      clear y2 x2 b2 hw2 hx1 hy1 hb1
      go_upto_region 25 with fail
      have hw2 := HW2.out
      rw [← hw2]
      clear hw2 HW2 d10 d11 fy
      have c10 : w2.cell? ⟨w.heap.size, 10, none⟩ = some (.int .u64 pr) := (mcells X2.out).1 10
      have c11 : w2.cell? ⟨w.heap.size, 11, none⟩ = some (.int .i64 st) := (mcells X2.out).1 11
      have hgd : ∀ b, b = stepB pr st → goodC ⟨7, cl, sq, ep, op, pr, st, key, val, gr, wt⟩ = (b) := by rintro b rfl; rfl
      have K := fun W : World => (show Calls Tryz.prog _ _ W (fun e w' => e = .returned (.bool (stepB pr st)) ∧ Below W.heap.size W w') from oStep_any pr st W)
      generalize stepB pr st = b at *
      have hgd := hgd b rfl
      have HG : Hid _ := hgd
      clear hgd
      go_wp2_with fail
      refine (K _).mono ?_
      rintro e w3 ⟨rfl, hb3⟩
      have Y3 := blk_below Y2.out hb3
      have B3 := below2 B2.out hb3
      clear c10 c11 hb3 K
      cases b
      case false =>
        go_wp2
        go_meet
        case rel => exact ⟨congrArg Value.bool (by first | exact HG.out.symm | (refine Eq.trans ?_ HG.out.symm; first | rfl | (simp; done) | (rw [Bool.true_and]; exact decide_eq_decide.2 (by omega)) | (simp; omega) | (simp_all; done) | (simp_all; omega))), Y3, B3⟩
      case true =>
        go_wp2
        go_meet
        case rel => exact ⟨congrArg Value.bool (by first | exact HG.out.symm | (refine Eq.trans ?_ HG.out.symm; first | rfl | (simp; done) | (rw [Bool.true_and]; exact decide_eq_decide.2 (by omega)) | (simp; omega) | (simp_all; done) | (simp_all; omega))), Y3, B3⟩
    case neg =>
    have hg : goodC ⟨k, cl, sq, ep, op, pr, st, key, val, gr, wt⟩ = false := by simp [goodC, k0, k1, k2, k3, k4, k5, k6, k7]
    have hr : restC ⟨k, cl, sq, ep, op, pr, st, key, val, gr, wt⟩ = ⟨0, cl, sq, ep, op, pr, st, key, val, gr, wt⟩ := by simp [restC, k1, k2, k3, k4, k5, k6, k7]
    have HG : Hid _ := hg
    have HR : Hid _ := hr
    clear hg hr
    go_wp2
    go_meet
    case rel => exact ⟨congrArg Value.bool HG.out.symm, by rw [HR.out]; exact hy1, hb1⟩
  case rest =>
    obtain ⟨rfl, hy, hb⟩ := hcut
    clear HX1 HY1 hb1 HB1 cx0
    have hok := HOK.out
    clear HOK
    generalize goodC ⟨k, cl, sq, ep, op, pr, st, key, val, gr, wt⟩ = G at *
    generalize restC ⟨k, cl, sq, ep, op, pr, st, key, val, gr, wt⟩ = R at *
    have hq : ∀ W, (binOp .eql 28 (.agg (cmC R).toArray) (.agg #[.int .i64 0, .int .i64 0, .int .u64 0, .int .u64 0, .int .i64 0, .string ⟨#[]⟩, .string ⟨#[]⟩, .string ⟨#[]⟩, .bool false, .string ⟨#[]⟩, .int .u64 0, .int .i64 0, .string ⟨#[]⟩, .string ⟨#[]⟩, .int .i64 0, .bool false, .int .i64 0, .string ⟨#[]⟩, .int .i64 0, .int .i64 0])).run Tryz.prog W = .ok (.bool (decide (R = cm0))) W := fun W => cm_eql R cm0 W
    have hgu : ∀ (x y : Operand) (W : World), (eqGuard .eql 28 x y (.agg (cmC R).toArray) (.agg #[.int .i64 0, .int .i64 0, .int .u64 0, .int .u64 0, .int .i64 0, .string ⟨#[]⟩, .string ⟨#[]⟩, .string ⟨#[]⟩, .bool false, .string ⟨#[]⟩, .int .u64 0, .int .i64 0, .string ⟨#[]⟩, .string ⟨#[]⟩, .int .i64 0, .bool false, .int .i64 0, .string ⟨#[]⟩, .int .i64 0, .int .i64 0])).run Tryz.prog W = .ok () W := fun x y W => cm_guard .eql x y _ _ W
    have hr : wc.rangeAt (w.heap.size + 1) 0 (cmC R) := range_of_block hy [] _ [] (by simp)
    have hl : (cmC R).length = 20 := rfl
    have hi : (Tryz.prog.info? 28).map (·.size) = some (cmC R).length := by rw [hl]; kernel_rfl
    generalize decide (R = cm0) = D at *
    generalize cmC R = L at *
    clear hy hl
    cases G
    case false =>
      obtain rfl : ok = false := hok
      go_wp2_with fail
      refine (jArg_any false _).mono ?_
      rintro e w3 ⟨rfl, rfl⟩
      go_wp2
      go_ret
      exact ⟨rfl, hb⟩
    case true =>
      obtain rfl : ok = D := hok
      go_wp2_with (first | refine wpList_load_w (by kernel_rfl) 28 _ rfl (w.heap.size + 1) 0 rfl L _ hr Tryz.underlying28 rfl hi ?_ | fail)
      refine (jArg_any ok _).mono ?_
      rintro e w3 ⟨rfl, rfl⟩
      cases ok
      all_goals
        go_wp2
        go_ret
        exact ⟨rfl, hb⟩

end Go.Proofs.YtbdbefgfejdbjaaGreat
