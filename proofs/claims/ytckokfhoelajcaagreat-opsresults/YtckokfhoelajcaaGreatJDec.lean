/-
  ops.DecodeResult: the result of bytes.
-/
import Derived.Test.YtckokfhoelajcaaGreatGJTk2
namespace Go.Proofs.YtckokfhoelajcaaGreat
open Go.RowKit Go.BigFrame
attribute [local go_sem] size_bstr toList_bstr

theorem bel_kt {w w2 w4 W0 : World} {g nr na : Nat} {a a' : Bool} {l l' : List UInt8} (h : Below w.heap.size w w2) (h2 : Tk W0 g nr na a l w2) (h4 : Tk W0 g nr na a' l' w4) (k : Kt g na w2 w4) (hg : w.heap.size ≤ g) (hna : w.heap.size ≤ na) : Below w.heap.size w w4 :=
  ⟨h4.gr.os.trans (h2.gr.os.symm.trans h.os), h4.gr.tape.trans (h2.gr.tape.symm.trans h.tape), h4.gr.output.trans (h2.gr.output.symm.trans h.output), Nat.le_trans h.size k.1, fun i hi => (k.2 i (Nat.lt_of_lt_of_le hi h.size) (by omega) (by omega)).trans (h.block i hi)⟩
theorem bel_set {w W : World} {b o : Nat} {v : Value} (h : Below w.heap.size w W) (hb : w.heap.size ≤ b) : Below w.heap.size w (W.setCell ⟨b, o, none⟩ v) :=
  ⟨h.os, h.tape, h.output, by simpa [World.setCell] using h.size, fun k hk => (heap_set_other v (by omega)).trans (h.block k hk)⟩
theorem bel_set5 {w W : World} {p q r s t : Value} (h : Below w.heap.size w W) : Below w.heap.size w (((((W.setCell ⟨w.heap.size, 0, none⟩ p).setCell ⟨w.heap.size, 1, none⟩ q).setCell ⟨w.heap.size, 2, none⟩ r).setCell ⟨w.heap.size, 3, none⟩ s).setCell ⟨w.heap.size, 4, none⟩ t) :=
  bel_set (bel_set (bel_set (bel_set (bel_set h (Nat.le_refl _)) (Nat.le_refl _)) (Nat.le_refl _)) (Nat.le_refl _)) (Nat.le_refl _)
/-- A reader, its flag. -/
theorem Tk.start {W : World} {g nr na n : Nat} {a : Bool} {l : List UInt8} (rd : Rd W g (bstr l)) (r0 : W.cell? ⟨nr, 0, none⟩ = some (.pointer (some ⟨g, 0, none⟩))) (a0 : W.cell? ⟨na, 0, none⟩ = some (.bool a)) (af : W.frozen? ⟨na, 0, none⟩ = false)
    (h1 : g < n) (h2 : n ≤ nr) (h3 : n ≤ na) (h4 : nr ≠ na) (ra : nr < W.heap.size) (rn : na < W.heap.size) : Tk { W with heap := W.heap.extract 0 n } g nr na a l W := by
  have hs : (W.heap.extract 0 n).size = n := by rw [Array.size_extract]; omega
  refine ⟨rd, r0, a0, af, ⟨rfl, rfl, rfl, ?_, ?_⟩, ?_, ?_, ?_, h4, ra, rn⟩
  · show (W.heap.extract 0 n).size ≤ _
    omega
  · intro k hk _
    have hk2 : k < n := by
      have : k < (W.heap.extract 0 n).size := hk
      omega
    show _ = (W.heap.extract 0 n)[k]?
    rw [Array.getElem?_extract, if_pos (by omega), Nat.zero_add]
  · show g < (W.heap.extract 0 n).size
    omega
  · show (W.heap.extract 0 n).size ≤ nr
    omega
  · show (W.heap.extract 0 n).size ≤ na
    omega

set_option maxHeartbeats 4000000 in
set_option maxRecDepth 100000 in
/-- A taker over bytes: its reader and its flag lie in new blocks. -/
theorem jNew_any (l : List UInt8) (w : World) :
    Calls Tryz.prog 97 #[.string (bstr l)] w fun e w' => ∃ g nr na, e = .returned (tkV nr na) ∧ (∃ W0, Tk W0 g nr na true l w') ∧ w.heap.size ≤ g ∧ w.heap.size ≤ na ∧ Below w.heap.size w w' := by
  go_enter Tryz.func97, Tryz.ntmps97
  go_wp2_with fail
  refine (New_any (bstr l) _).mono ?_
  rintro e w1 ⟨rfl, r1, hb1⟩
  rw [World.size_alloc] at r1
  have x0 := heap_alloc_new w (.cells #[.nilFunc, .nilFunc, .nilFunc] 108)
  have x1 := (hb1.block w.heap.size (by simp)).trans x0
  obtain ⟨N, hN⟩ : ∃ N, N = w1.heap.size := ⟨_, rfl⟩
  obtain ⟨w2, hw2⟩ : ∃ w2, w2 = (w1.alloc (.cells #[.pointer (some ⟨w.heap.size + 1, 0, none⟩)] 165)).alloc (.cells #[.bool true] 4) := ⟨_, rfl⟩
  have hb2 : Below w1.heap.size w1 w2 := by rw [hw2]; exact ((Below.refl _ _).alloc (Nat.le_refl _) _).alloc (by simp) _
  have p0 : w2.cell? ⟨N, 0, none⟩ = some (.pointer (some ⟨w.heap.size + 1, 0, none⟩)) := by rw [hw2, hN]; exact cell_alloc_old (cell_new0 _ [] _ rfl)
  have p1 : w2.cell? ⟨N + 1, 0, none⟩ = some (.bool true) := by rw [hw2, hN]; exact cell_new0 _ [] _ (by simp)
  have p2 : w2.frozen? ⟨N + 1, 0, none⟩ = false := by
    have := (mcells (heap_alloc_new (w1.alloc (.cells #[.pointer (some ⟨w.heap.size + 1, 0, none⟩)] 165)) (.cells #[.bool true] 4))).2 0
    rw [World.size_alloc] at this
    rw [hw2, hN]
    exact this
  have hsz2 : w2.heap.size = N + 2 := by rw [hw2, hN]; simp
  have hN2 : w.heap.size + 2 ≤ N := by rw [hN]; exact r1.lt
  have r2 := r1.below hb2 r1.lt
  have x2 := (hb2.block w.heap.size (by omega)).trans x1
  have q0 : w2.cell? ⟨w.heap.size, 0, none⟩ = some .nilFunc := (mcells x2).1 0
  have q1 : w2.cell? ⟨w.heap.size, 1, none⟩ = some .nilFunc := (mcells x2).1 1
  have q2 : w2.cell? ⟨w.heap.size, 2, none⟩ = some .nilFunc := (mcells x2).1 2
  have fz := (mcells x2).2
  have hb4 : Below w.heap.size w w2 := bel_call hb2 (bel_call hb1 (bel_alloc (Below.refl _ _)))
  have HX : Hid _ := x2
  have HB : Hid _ := hb4
  have HP0 : Hid _ := p0
  have HP1 : Hid _ := p1
  have HP2 : Hid _ := p2
  have HS2 : Hid _ := hsz2
  have HR2 : Hid _ := r2
  have HW : Hid _ := hw2
  have HN : Hid _ := hN
  have HN2 : Hid _ := hN2
  clear x0 x1 x2 hb1 hb2 hb4 r2 hw2 p0 p1 p2 hsz2 hN2
  go_upto_region 3 with fail
  rw [← HN.out]
  have HW2 := HW.out
  rw [← HW2]
  clear HW2 HW HN hN r1
  go_wp2
  have y0 := heap_set_same HX.out (o := 0) (tk1 N (N + 1))
  have y1 := heap_set_same y0 (o := 1) (tk2 N (N + 1))
  have y2 := heap_set_same y1 (o := 2) (tk3 N (N + 1))
  have z := (mcells y2).1
  have z0 := z 0
  have z1 := z 1
  have z2 := z 2
  have hn2 := HN2.out
  have hs2 := HS2.out
  have h3 : ∀ k, k ≠ w.heap.size → (((w2.setCell ⟨w.heap.size, 0, none⟩ (tk1 N (N + 1))).setCell ⟨w.heap.size, 1, none⟩ (tk2 N (N + 1))).setCell ⟨w.heap.size, 2, none⟩ (tk3 N (N + 1))).heap[k]? = w2.heap[k]? := fun k hk =>
    (heap_set_other _ hk).trans ((heap_set_other _ hk).trans (heap_set_other _ hk))
  refine bodyPost_ret (v := tkV N (N + 1)) (by rw [yres1 rfl]; simp [go_sem, z0, z1, z2]) rfl ⟨w.heap.size + 1, N, N + 1, rfl, ⟨_, Tk.start (n := w.heap.size + 2) ((h3 _ (by omega)).trans HR2.out) ((World.cell?_of_block (a := ⟨N, 0, none⟩) (h3 _ (by show N ≠ _; omega))).trans HP0.out) ((World.cell?_of_block (a := ⟨N + 1, 0, none⟩) (h3 _ (by show N + 1 ≠ _; omega))).trans HP1.out) ((World.frozen?_of_block (a := ⟨N + 1, 0, none⟩) (h3 _ (by show N + 1 ≠ _; omega))).trans HP2.out) (by omega) (by omega) (by omega) (by omega) (by simp [World.setCell]; omega) (by simp [World.setCell]; omega)⟩, by omega, by omega, ?_⟩
  exact ⟨HB.out.os, HB.out.tape, HB.out.output, by simp [World.setCell]; omega, fun k hk => (h3 k (by omega)).trans (HB.out.block k hk)⟩

set_option maxHeartbeats 4000000 in
set_option maxRecDepth 100000 in
theorem jDecode_any (l : List UInt8) (w : World) (hl : l.length ≤ 1048576) :
    Calls Tryz.prog 70 #[.string (bstr l), .func (.func 52) #[] #[], .func (.func 71) #[] #[]] w fun e w' =>
      e = .returned (.tuple #[rzV (if decO l then decR l else rz0), .int .i64 (if decO l then 0 else 4)]) ∧ Below w.heap.size w w' := by
  obtain ⟨D, hD⟩ : ∃ D, D = decR l := ⟨_, rfl⟩
  obtain ⟨wh, hwh⟩ : ∃ wh, wh = (a5 l && decide ((l5 l).length = 0)) := ⟨_, rfl⟩
  obtain ⟨ok, hok⟩ : ∃ ok, ok = okR D := ⟨_, rfl⟩
  have hdo : decO l = (wh && ok) := by rw [hwh, hok, hD]; rfl
  rw [hdo, ← hD]
  have hres := jResult_any D
  rw [← hok] at hres
  have HDo : Hid _ := hD
  have HWh : Hid _ := hwh
  clear hD hwh hok hdo
  obtain ⟨de, df, dr, dv, dn⟩ := D
  have hz0 := RzB.new w
  go_enter Tryz.func70, Tryz.ntmps70
  go_wp2_with fail
  refine (jNew_any l _).mono ?_
  rintro e w1 ⟨g, nr, na, rfl, ⟨W0, hT⟩, hg, hna, hb1⟩
  rw [World.size_alloc] at hg hna
  have hg' : w.heap.size ≤ g := by omega
  have hna' : w.heap.size ≤ na := by omega
  have hz1 : RzB w1 w.heap.size rz0 := hz0.below hb1 (by simp)
  have hb1' : Below w.heap.size w w1 := bel_call hb1 (bel_alloc (Below.refl _ _))
  obtain ⟨N, hN⟩ : ∃ N, N = w1.heap.size := ⟨_, rfl⟩
  obtain ⟨w2, hw2⟩ : ∃ w2, w2 = w1.alloc (.cells #[tk1 nr na, tk2 nr na, tk3 nr na] 108) := ⟨_, rfl⟩
  have hb2 : Below w1.heap.size w1 w2 := by rw [hw2]; exact (Below.refl _ _).alloc (Nat.le_refl _) _
  have hz2 : RzB w2 w.heap.size rz0 := hz1.below hb2 hz1.lt
  have hc := mcells (show w2.heap[N]? = some (.cells #[tk1 nr na, tk2 nr na, tk3 nr na] 108 (0, 0)) by rw [hw2, hN]; exact heap_alloc_new w1 _)
  have c0 : w2.cell? ⟨N, 0, none⟩ = some (tk1 nr na) := hc.1 0
  have c1 : w2.cell? ⟨N, 1, none⟩ = some (tk2 nr na) := hc.1 1
  have c2 : w2.cell? ⟨N, 2, none⟩ = some (tk3 nr na) := hc.1 2
  have hT2 := hT.step hb2
  have hgN : g < w1.heap.size := hT.rd.lt
  have hnaN : na < w1.heap.size := hT.rn
  have hN1 : N ≠ g := by omega
  have hN2 : N ≠ na := by omega
  have hN3 : w.heap.size ≠ g := by omega
  have hN4 : w.heap.size ≠ na := by omega
  have hwN : w.heap.size < N := by rw [hN]; exact hz1.lt
  have M1 : Hid _ := hN1
  have M2 : Hid _ := hN2
  have M3 : Hid _ := hN3
  have M4 : Hid _ := hN4
  have M5 : Hid _ := hwN
  have M6 : Hid _ := hg'
  have M7 : Hid _ := hna'
  have hB2 : Below w.heap.size w w2 := bel_call hb2 hb1'
  have MB : Hid _ := hB2
  have HW : Hid _ := hw2
  have HN : Hid _ := hN
  clear hN1 hN2 hN3 hN4 hwN hg hna hg' hna' hgN hnaN hb1 hb1' hb2 hz0 hz1 hc hw2 hT hB2
  go_upto_region 2 with fail
  rw [← HN.out]
  have HW2 := HW.out
  rw [← HW2]
  clear HW2 HW HN hN
  go_wp2_with fail
  refine (jTake_any g nr na l W0 w2 hT2 hl).mono ?_
  rintro e w3 ⟨rfl, hT3, k3⟩
  rw [← HDo.out]
  replace c0 := (k3.cell (block_lt_of_cell c0) M1.out M2.out).trans c0
  replace c1 := (k3.cell (block_lt_of_cell c1) M1.out M2.out).trans c1
  replace c2 := (k3.cell (block_lt_of_cell c2) M1.out M2.out).trans c2
  have hz3 := hz2.kt k3 M3.out M4.out
  obtain ⟨X, hX⟩ : ∃ X, X = w3.heap.size := ⟨_, rfl⟩
  obtain ⟨w4, hw4⟩ : ∃ w4, w4 = w3.alloc (.cells #[.int .i64 de, .bool df, .string (bstr dr), .string (bstr dv), .int .u64 (dn : Int)] 46) := ⟨_, rfl⟩
  have hb4 : Below w3.heap.size w3 w4 := by rw [hw4]; exact (Below.refl _ _).alloc (Nat.le_refl _) _
  have hx4 : RzB w4 X ⟨de, df, dr, dv, dn⟩ := by rw [hw4, hX]; exact heap_alloc_new w3 _
  have hz4 := hz3.below hb4 hz3.lt
  replace c0 := cell_below hb4 c0
  replace c1 := cell_below hb4 c1
  replace c2 := cell_below hb4 c2
  have hT4 := hT3.step hb4
  have k4 : Kt g na w2 w4 := k3.trans (Kt.below hb4)
  have hB4 : Below w.heap.size w w4 := bel_kt MB.out hT2 hT4 k4 M6.out M7.out
  have HB4 : Hid _ := hB4
  have hXw : w.heap.size < X := by rw [hX]; exact hz3.lt
  have MX : Hid _ := hXw
  have HW : Hid _ := hw4
  have HN : Hid _ := hX
  clear hb4 hw4 hz2 hz3 hT2 hT3 k3 k4 hXw hB4
  go_upto_region 3 with fail
  rw [← HN.out]
  have HW2 := HW.out
  rw [← HW2]
  clear HW2 HW HN hX
  obtain ⟨x0, x1, x2, x3, x4⟩ := hx4.facts
  obtain ⟨z0, z1, z2, z3, z4⟩ := hz4.facts
  simp only at x0 x1 x2 x3 x4 z0 z1 z2 z3 z4
  have fz := hz4.frz
  go_wp2_with fail
  refine (jWhole_any g nr na (a5 l) (l5 l) W0 w4 hT4).mono ?_
  rintro e w5 ⟨rfl, rfl⟩
  rw [← HWh.out]
  clear HWh HDo
  cases wh with
  | false =>
    obtain ⟨w6, hw6⟩ : ∃ w6, w6 = w5.alloc (.cells #[.int .i64 0, .bool false, .string ⟨#[]⟩, .string ⟨#[]⟩, .int .u64 0] 46) := ⟨_, rfl⟩
    have hb6 : Below w5.heap.size w5 w6 := by rw [hw6]; exact (Below.refl _ _).alloc (Nat.le_refl _) _
    have hy6 : RzB w6 w5.heap.size rz0 := by rw [hw6]; exact RzB.new w5
    have hz6 := hz4.below hb6 hz4.lt
    have hB6 := bel_call hb6 HB4.out
    have HW : Hid _ := hw6
    clear hw6 x0 x1 x2 x3 x4 z0 z1 z2 z3 z4 fz c0 c1 c2 hb6 hT4
    obtain ⟨x0, x1, x2, x3, x4⟩ := hy6.facts
    obtain ⟨z0, z1, z2, z3, z4⟩ := hz6.facts
    simp only at x0 x1 x2 x3 x4 z0 z1 z2 z3 z4
    have fz := hz6.frz
    go_upto_region 5 with fail
    have HW2 := HW.out
    rw [← HW2]
    clear HW2 HW
    go_wp2
    exact ret_rz2 rfl rfl rfl (hz6.set rz0) rfl ⟨rfl, bel_set5 hB6⟩
  | true =>
    go_wp2_with fail
    refine (hres w5).mono ?_
    rintro e w6 ⟨rfl, hb6⟩
    have hx6 := hx4.below hb6 hx4.lt
    have hz6 := hz4.below hb6 hz4.lt
    have hB6 := bel_call hb6 HB4.out
    clear x0 x1 x2 x3 x4 z0 z1 z2 z3 z4 fz c0 c1 c2 hb6 hT4 hx4 hz4 hres
    cases ok with
    | true =>
      obtain ⟨x0, x1, x2, x3, x4⟩ := hx6.facts
      obtain ⟨z0, z1, z2, z3, z4⟩ := hz6.facts
      simp only at x0 x1 x2 x3 x4 z0 z1 z2 z3 z4
      have fz := hz6.frz
      go_wp2
      exact ret_rz2 rfl rfl rfl (hz6.set ⟨de, df, dr, dv, dn⟩) rfl ⟨rfl, bel_set5 hB6⟩
    | false =>
      obtain ⟨w7, hw7⟩ : ∃ w7, w7 = w6.alloc (.cells #[.int .i64 0, .bool false, .string ⟨#[]⟩, .string ⟨#[]⟩, .int .u64 0] 46) := ⟨_, rfl⟩
      have hb7 : Below w6.heap.size w6 w7 := by rw [hw7]; exact (Below.refl _ _).alloc (Nat.le_refl _) _
      have hy7 : RzB w7 w6.heap.size rz0 := by rw [hw7]; exact RzB.new w6
      have hz7 := hz6.below hb7 hz6.lt
      have hB7 := bel_call hb7 hB6
      have HW : Hid _ := hw7
      clear hw7 hb7 hx6 hz6 hB6
      obtain ⟨x0, x1, x2, x3, x4⟩ := hy7.facts
      obtain ⟨z0, z1, z2, z3, z4⟩ := hz7.facts
      simp only at x0 x1 x2 x3 x4 z0 z1 z2 z3 z4
      have fz := hz7.frz
      go_upto_region 5 with fail
      have HW2 := HW.out
      rw [← HW2]
      clear HW2 HW
      go_wp2
      exact ret_rz2 rfl rfl rfl (hz7.set rz0) rfl ⟨rfl, bel_set5 hB7⟩

set_option maxHeartbeats 1000000 in
theorem jDecodeR_any (l : List UInt8) (w : World) (hl : l.length ≤ 1048576) :
    Calls Tryz.prog 30 #[.string (bstr l)] w fun e w' =>
      e = .returned (.tuple #[rzV (if decO l then decR l else rz0), .int .i64 (if decO l then 0 else 4)]) ∧ Below w.heap.size w w' := by
  have he := jDecode_any l
  generalize (if decO l then decR l else rz0) = R at *
  generalize (if decO l then (0 : Int) else 4) = E at *
  obtain ⟨de, df, dr, dv, dn⟩ := R
  have hz0 := RzB.new w
  go_enter Tryz.func30, Tryz.ntmps30
  go_wp2_with fail
  refine (he _ hl).mono ?_
  rintro e w1 ⟨rfl, hb1⟩
  have hz1 : RzB w1 w.heap.size rz0 := hz0.below hb1 (by simp)
  have hB1 : Below w.heap.size w w1 := bel_call hb1 (bel_alloc (Below.refl _ _))
  obtain ⟨z0, z1, z2, z3, z4⟩ := hz1.facts
  simp only at z0 z1 z2 z3 z4
  have fz := hz1.frz
  clear hz0 hb1 he
  go_wp2
  exact ret_rz2 rfl rfl rfl (hz1.set ⟨de, df, dr, dv, dn⟩) rfl ⟨rfl, bel_set5 hB1⟩

end Go.Proofs.YtckokfhoelajcaaGreat
