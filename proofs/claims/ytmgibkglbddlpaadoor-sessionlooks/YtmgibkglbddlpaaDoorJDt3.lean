/-
  The document's DecodeResult: as the program's.
-/
import Derived.Test.YtmgibkglbddlpaaDoorJDtM
namespace Go.Proofs.YtmgibkglbddlpaaDoor
open Go.RowKit Go.BigFrame
attribute [local go_sem] size_bstr toList_bstr

set_option maxHeartbeats 2000000 in
theorem dDone_any (g t : Nat) (bad : Bool) (l : List UInt8) (w : World) (h : DT w g t bad l) :
    Calls Tryd.prog 40 #[.pointer (some ⟨t, 0, none⟩)] w fun e w' => e = .returned (.bool (!bad && decide (l.length = 0))) ∧ w' = w := by
  have c0 := h.c0
  have c1 := h.c1
  obtain ⟨D, hD⟩ : ∃ D, D = decide (l.length = 0) := ⟨_, rfl⟩
  rw [← hD]
  have HD : Hid _ := hD
  clear hD
  go_enter Tryd.func40, Tryd.ntmps40
  cases bad
  · go_wp2_with fail
    refine (RLeft_any g l w h.r).mono ?_
    rintro e w1 ⟨rfl, rfl⟩
    by_cases h0 : l.length = 0
    · have hi : (l.length : Int) = 0 := by omega
      obtain rfl : D = true := by rw [HD.out]; exact decide_eq_true h0
      clear h0 HD
      go_wp2
      go_ret
      exact ⟨rfl, rfl⟩
    · have hi : ((l.length : Int) == 0) = false := beq_eq_false_iff_ne.2 (by omega)
      have hi2 : 0 < l.length := by omega
      obtain rfl : D = false := by rw [HD.out]; exact decide_eq_false h0
      clear h0 HD
      go_wp2
      go_ret
      exact ⟨rfl, rfl⟩
  · go_wp2
    go_ret
    exact ⟨rfl, rfl⟩
theorem bel_kd {w w2 w4 : World} {g t : Nat} (h : Below w.heap.size w w2) (k : KD g t w2 w4) (hg : w.heap.size ≤ g) (ht : w.heap.size ≤ t) : Below w.heap.size w w4 :=
  ⟨k.os.trans h.os, k.tape.trans h.tape, k.output.trans h.output, Nat.le_trans h.size k.size, fun i hi => (k.block i (Nat.lt_of_lt_of_le hi h.size) (by omega) (by omega)).trans (h.block i hi)⟩

set_option maxHeartbeats 8000000 in
set_option maxRecDepth 100000 in
theorem rDecode_any (l : List UInt8) (w : World) (hl : l.length ≤ 1048576) :
    Calls Tryd.prog 24 #[.string (bstr l)] w fun e w' =>
      e = .returned (.tuple #[rzV (if decO l then decR l else rz0), .int .i64 (if decO l then 0 else 4)]) ∧ Below w.heap.size w w' := by
  obtain ⟨d1, d2⟩ := doc_dec l
  obtain ⟨D, hD⟩ : ∃ D, D = docR l := ⟨_, rfl⟩
  obtain ⟨wh, hwh⟩ : ∃ wh, wh = (!docB l && decide ((m5 l).length = 0)) := ⟨_, rfl⟩
  obtain ⟨ok, hok⟩ : ∃ ok, ok = okR D := ⟨_, rfl⟩
  have hdo : decO l = (wh && ok) := by rw [← d1, hwh, hok, hD]; rfl
  have hfin : (if decO l then decR l else rz0) = if (wh && ok) then D else rz0 := by
    rw [hdo]
    split
    · rename_i h
      rw [hD, d2 (by rw [d1, hdo]; exact h)]
    · rfl
  rw [hfin, hdo]
  have hres := rResult_any D
  rw [← hok] at hres
  have HDo : Hid _ := hD
  have HWh : Hid _ := hwh
  clear hD hwh hok hdo hfin d1 d2
  obtain ⟨de, df, dr, dv, dn⟩ := D
  have hz0 := RzB.new w
  go_enter Tryd.func24, Tryd.ntmps24
  go_wp2_with fail
  refine (RNew_any (bstr l) _).mono ?_
  rintro e w1 ⟨rfl, r1, hb1⟩
  rw [World.size_alloc] at r1 ⊢
  have hz1 : RzB w1 w.heap.size rz0 := hz0.below hb1 (by simp)
  have hb1' : Below w.heap.size w w1 := bel_call hb1 (bel_alloc (Below.refl _ _))
  obtain ⟨T, hT⟩ : ∃ T, T = w1.heap.size := ⟨_, rfl⟩
  obtain ⟨w2, hw2⟩ : ∃ w2, w2 = w1.alloc (.cells #[.pointer (some ⟨w.heap.size + 1, 0, none⟩), .bool false] 77) := ⟨_, rfl⟩
  have hb2 : Below w1.heap.size w1 w2 := by rw [hw2]; exact bel_alloc (Below.refl _ _)
  have hlt1 : w.heap.size + 1 < w1.heap.size := r1.lt
  have hD2 : DT w2 (w.heap.size + 1) T false l := ⟨r1.next hb2, by rw [hw2, hT]; exact heap_alloc_new w1 _, by omega⟩
  have hz2 : RzB w2 w.heap.size rz0 := hz1.below hb2 hz1.lt
  have hB2 : Below w.heap.size w w2 := bel_call hb2 hb1'
  have M1 : Hid (w.heap.size ≠ w.heap.size + 1) := by show _ ≠ _; omega
  have M2 : Hid (w.heap.size ≠ T) := by show _ ≠ _; omega
  have M3 : Hid (w.heap.size ≤ w.heap.size + 1) := by show _ ≤ _; omega
  have M4 : Hid (w.heap.size ≤ T) := by show _ ≤ _; omega
  have HW : Hid _ := hw2
  have HN : Hid _ := hT
  clear hw2 hz0 hz1 hb1 hb1' hb2 r1 hlt1
  go_upto_region 2 with fail
  rw [← HN.out]
  have HW2 := HW.out
  rw [← HW2]
  clear HW2 HW HN hT
  go_wp2_with fail
  refine (dRes_any (w.heap.size + 1) T l w2 hD2 (by omega)).mono ?_
  rintro e w3 ⟨rfl, hD3, k3⟩
  rw [← HDo.out]
  have hz3 := hz2.kd k3 M1.out M2.out
  have hB3 := bel_kd hB2 k3 M3.out M4.out
  obtain ⟨X, hX⟩ : ∃ X, X = w3.heap.size := ⟨_, rfl⟩
  obtain ⟨w4, hw4⟩ : ∃ w4, w4 = w3.alloc (.cells #[.int .i64 de, .bool df, .string (bstr dr), .string (bstr dv), .int .u64 (dn : Int)] 25) := ⟨_, rfl⟩
  have hb4 : Below w3.heap.size w3 w4 := by rw [hw4]; exact bel_alloc (Below.refl _ _)
  have hx4 : RzB w4 X ⟨de, df, dr, dv, dn⟩ := by rw [hw4, hX]; exact heap_alloc_new w3 _
  have hz4 := hz3.below hb4 hz3.lt
  have hD4 := hD3.below hb4
  have hB4 := bel_call hb4 hB3
  have HW : Hid _ := hw4
  have HN : Hid _ := hX
  clear hb4 hw4 hz2 hz3 hD2 hD3 k3 hB2 hB3
  go_upto_region 3 with fail
  rw [← HN.out]
  have HW2 := HW.out
  rw [← HW2]
  clear HW2 HW HN hX
  obtain ⟨x0, x1, x2, x3, x4⟩ := hx4.facts
  obtain ⟨z0, z1, z2, z3, z4⟩ := hz4.facts
  simp only at x0 x1 x2 x3 x4 z0 z1 z2 z3 z4
  have fz := hz4.frz
  go_wp2_with fail
  refine (dDone_any (w.heap.size + 1) T (docB l) (m5 l) w4 hD4).mono ?_
  rintro e w5 ⟨rfl, rfl⟩
  rw [← HWh.out]
  clear HWh HDo hD4
  cases wh with
  | false =>
    go_wp2
    exact ret_rz2 rfl rfl rfl (hz4.set rz0) rfl ⟨rfl, bel_set5 hB4⟩
  | true =>
    go_wp2_with fail
    refine (hres w5).mono ?_
    rintro e w6 ⟨rfl, hb6⟩
    have hx6 := hx4.below hb6 hx4.lt
    have hz6 := hz4.below hb6 hz4.lt
    have hB6 := bel_call hb6 hB4
    clear x0 x1 x2 x3 x4 z0 z1 z2 z3 z4 fz hb6 hx4 hz4 hres hB4
    obtain ⟨x0, x1, x2, x3, x4⟩ := hx6.facts
    obtain ⟨z0, z1, z2, z3, z4⟩ := hz6.facts
    simp only at x0 x1 x2 x3 x4 z0 z1 z2 z3 z4
    have fz := hz6.frz
    cases ok with
    | true =>
      go_wp2
      exact ret_rz2 rfl rfl rfl (hz6.set ⟨de, df, dr, dv, dn⟩) rfl ⟨rfl, bel_set5 hB6⟩
    | false =>
      go_wp2
      exact ret_rz2 rfl rfl rfl (hz6.set rz0) rfl ⟨rfl, bel_set5 hB6⟩

end Go.Proofs.YtmgibkglbddlpaaDoor
