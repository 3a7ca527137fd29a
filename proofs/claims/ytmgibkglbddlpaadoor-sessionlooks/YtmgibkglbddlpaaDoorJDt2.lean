/-
  The document's DecodeResult.
-/
import Derived.Test.YtmgibkglbddlpaaDoorJDt
import Derived.Test.YtmgibkglbddlpaaDoorJDec
namespace Go.Proofs.YtmgibkglbddlpaaDoor
open Go.RowKit Go.BigFrame
attribute [local go_sem] size_bstr toList_bstr

/-- What the document's DecodeResult reads. -/
def m2 (l : List UInt8) : List UInt8 := bR (nR l)
def m3 (l : List UInt8) : List UInt8 := tR 65536 (m2 l)
def m4 (l : List UInt8) : List UInt8 := tR 65536 (m3 l)
def m5 (l : List UInt8) : List UInt8 := nR (m4 l)
def docB (l : List UInt8) : Bool := ((((false || !dN 1073741824 l) || !dB (nR l)) || !okT 65536 (m2 l)) || !okT 65536 (m3 l)) || !dN 1099511627776 (m4 l)
def docR (l : List UInt8) : Rz := ⟨(dX 1073741824 l : Nat), decide ((bV (nR l)).toNat = 1), tV 65536 (m2 l), tV 65536 (m3 l), dX 1099511627776 (m4 l)⟩
def docO (l : List UInt8) : Bool := !docB l && decide ((m5 l).length = 0) && okR (docR l)
theorem KD.far {g t b o : Nat} {v : Value} {w w' : World} (h : KD g t w w') (hb : w.heap.size ≤ b) : KD g t w (w'.setCell ⟨b, o, none⟩ v) :=
  ⟨h.os, h.tape, h.output, by simpa [World.setCell] using h.size, fun i hi h1 h2 => (heap_set_other v (by omega)).trans (h.block i hi h1 h2)⟩
theorem RzB.kd {w w' : World} {g t b : Nat} {r : Rz} (h : RzB w b r) (k : KD g t w w') (h1 : b ≠ g) (h2 : b ≠ t) : RzB w' b r := (k.block b (blk_lt h) h1 h2).trans h
theorem bR_len (l : List UInt8) : (bR l).length ≤ l.length := by cases l <;> simp [bR]
theorem tR_len5 (m : Nat) (l : List UInt8) : (tR m l).length ≤ l.length := by
  unfold tR
  split
  · rw [List.length_drop]; omega
  · exact Nat.le_refl _
theorem RzB.far {w : World} {b c o : Nat} {v : Value} {r : Rz} (h : RzB w b r) (hb : b ≠ c) : RzB (w.setCell ⟨c, o, none⟩ v) b r := (heap_set_other v hb).trans h

set_option maxHeartbeats 8000000 in
set_option maxRecDepth 100000 in
theorem dRes_any (g t : Nat) (l : List UInt8) (w : World) (h : DT w g t false l) (hl : l.length ≤ 10000000) :
    Calls Tryd.prog 39 #[.pointer (some ⟨t, 0, none⟩)] w fun e w' => e = .returned (rzV (docR l)) ∧ DT w' g t (docB l) (m5 l) ∧ KD g t w w' := by
  have e1 := rest_len l
  have e2 := bR_len (nR l)
  have e3 := tR_len5 65536 (m2 l)
  have e4 := tR_len5 65536 (m3 l)
  have E1 : Hid ((m2 l).length ≤ 10000000) := by show (bR (nR l)).length ≤ _; omega
  have E2 : Hid ((m3 l).length ≤ 10000000) := by have := E1.out; show (tR 65536 (m2 l)).length ≤ _; omega
  have E3 : Hid ((m4 l).length ≤ 10000000) := by have := E2.out; show (tR 65536 (m3 l)).length ≤ _; omega
  obtain ⟨ht, hg⟩ := h.lt
  obtain ⟨P, hP⟩ : ∃ P, P = w.heap.size + 1 := ⟨_, rfl⟩
  obtain ⟨w1, hw1⟩ : ∃ w1, w1 = (w.alloc (.cells #[.int .i64 0, .bool false, .string ⟨#[]⟩, .string ⟨#[]⟩, .int .u64 0] 25)).alloc (.cells #[.int .i64 0, .bool false, .string ⟨#[]⟩, .string ⟨#[]⟩, .int .u64 0] 25) := ⟨_, rfl⟩
  have hb1 : Below w.heap.size w w1 := by rw [hw1]; exact bel_alloc (bel_alloc (Below.refl _ _))
  have ha1 : RzB w1 w.heap.size rz0 := by rw [hw1]; exact (Below.heap_alloc _ _ _ (by simp)).trans (RzB.new w)
  have hz1 : RzB w1 P rz0 := by
    have := RzB.new (w.alloc (.cells #[.int .i64 0, .bool false, .string ⟨#[]⟩, .string ⟨#[]⟩, .int .u64 0] 25))
    rw [World.size_alloc] at this
    rw [hw1, hP]
    exact this
  have hT1 := h.below hb1
  have hk1 : KD g t w w1 := KD.below hb1
  have N1 : Hid (P ≠ g) := by show _ ≠ _; omega
  have N2 : Hid (P ≠ t) := by show _ ≠ _; omega
  have N3 : Hid (w.heap.size ≠ g) := by show _ ≠ _; omega
  have N4 : Hid (w.heap.size ≠ t) := by show _ ≠ _; omega
  have N5 : Hid (w.heap.size ≠ P) := by show _ ≠ _; omega
  have N6 : Hid (w.heap.size ≤ P) := by show _ ≤ _; omega
  have HW : Hid _ := hw1
  have HP : Hid _ := hP
  clear hw1 hP h e1 e2 e3 e4 ht hg hb1
  go_enter Tryd.func39, Tryd.ntmps39
  go_upto_region 2 with fail
  rw [← HP.out, ← HW.out]
  clear HW
  go_wp2_with fail
  refine (dK_any g t false l w1 hT1 hl).mono ?_
  rintro e v1 ⟨rfl, hU1, k⟩
  have hy1 := hz1.kd k N1.out N2.out
  have hA1 := ha1.kd k N3.out N4.out
  have hK1 := hk1.trans k
  clear hT1 hz1 ha1 hk1 k
  obtain ⟨q0, q1, q2, q3, q4⟩ := hy1.facts
  simp only at q0 q1 q2 q3 q4
  have fz := hy1.frz
  obtain ⟨w2, hw⟩ : ∃ w', w' = v1.setCell ⟨P, 0, none⟩ (.int .i64 ((dX 1073741824 l : Nat) : Int)) := ⟨_, rfl⟩
  have hz2 : RzB w2 P ⟨((dX 1073741824 l : Nat) : Int), false, [], [], 0⟩ := by rw [hw]; exact heap_set_same hy1 (o := 0) _
  have ha2 := hA1.far (c := P) (o := 0) (v := (.int .i64 ((dX 1073741824 l : Nat) : Int))) N5.out
  have hT2 := hU1.far (b := P) (o := 0) (v := (.int .i64 ((dX 1073741824 l : Nat) : Int))) N1.out N2.out
  have hk2 := hK1.far (b := P) (o := 0) (v := (.int .i64 ((dX 1073741824 l : Nat) : Int))) N6.out
  rw [← hw] at ha2 hT2 hk2
  have HW : Hid _ := hw
  clear hw hy1 hA1 hU1 hK1
  go_upto_region 3 with fail
  have HW2 := HW.out
  rw [← HW2]
  clear HW HW2 q0 q1 q2 q3 q4 fz
  go_wp2_with fail
  refine (dB_any g t _ (nR l) w2 hT2).mono ?_
  rintro e v2 ⟨rfl, hU2, k⟩
  have hy2 := hz2.kd k N1.out N2.out
  have hA2 := ha2.kd k N3.out N4.out
  have hK2 := hk2.trans k
  clear hT2 hz2 ha2 hk2 k
  obtain ⟨q0, q1, q2, q3, q4⟩ := hy2.facts
  simp only at q0 q1 q2 q3 q4
  have fz := hy2.frz
  obtain ⟨w3, hw⟩ : ∃ w', w' = v2.setCell ⟨P, 1, none⟩ (.bool (decide ((bV (nR l)).toNat = 1))) := ⟨_, rfl⟩
  have hz3 : RzB w3 P ⟨((dX 1073741824 l : Nat) : Int), decide ((bV (nR l)).toNat = 1), [], [], 0⟩ := by rw [hw]; exact heap_set_same hy2 (o := 1) _
  have ha3 := hA2.far (c := P) (o := 1) (v := (.bool (decide ((bV (nR l)).toNat = 1)))) N5.out
  have hT3 := hU2.far (b := P) (o := 1) (v := (.bool (decide ((bV (nR l)).toNat = 1)))) N1.out N2.out
  have hk3 := hK2.far (b := P) (o := 1) (v := (.bool (decide ((bV (nR l)).toNat = 1)))) N6.out
  rw [← hw] at ha3 hT3 hk3
  have HW : Hid _ := hw
  clear hw hy2 hA2 hU2 hK2
  go_upto_region 4 with fail
  have HW2 := HW.out
  rw [← HW2]
  clear HW HW2 q0 q1 q2 q3 q4 fz
  go_wp2_with fail
  refine (dT_any g t _ (m2 l) w3 hT3 E1.out).mono ?_
  rintro e v3 ⟨rfl, hU3, k⟩
  have hy3 := hz3.kd k N1.out N2.out
  have hA3 := ha3.kd k N3.out N4.out
  have hK3 := hk3.trans k
  clear hT3 hz3 ha3 hk3 k
  obtain ⟨q0, q1, q2, q3, q4⟩ := hy3.facts
  simp only at q0 q1 q2 q3 q4
  have fz := hy3.frz
  obtain ⟨w4, hw⟩ : ∃ w', w' = v3.setCell ⟨P, 2, none⟩ (.string (bstr (tV 65536 (m2 l)))) := ⟨_, rfl⟩
  have hz4 : RzB w4 P ⟨((dX 1073741824 l : Nat) : Int), decide ((bV (nR l)).toNat = 1), tV 65536 (m2 l), [], 0⟩ := by rw [hw]; exact heap_set_same hy3 (o := 2) _
  have ha4 := hA3.far (c := P) (o := 2) (v := (.string (bstr (tV 65536 (m2 l))))) N5.out
  have hT4 := hU3.far (b := P) (o := 2) (v := (.string (bstr (tV 65536 (m2 l))))) N1.out N2.out
  have hk4 := hK3.far (b := P) (o := 2) (v := (.string (bstr (tV 65536 (m2 l))))) N6.out
  rw [← hw] at ha4 hT4 hk4
  have HW : Hid _ := hw
  clear hw hy3 hA3 hU3 hK3
  go_upto_region 5 with fail
  have HW2 := HW.out
  rw [← HW2]
  clear HW HW2 q0 q1 q2 q3 q4 fz
  go_wp2_with fail
  refine (dT_any g t _ (m3 l) w4 hT4 E2.out).mono ?_
  rintro e v4 ⟨rfl, hU4, k⟩
  have hy4 := hz4.kd k N1.out N2.out
  have hA4 := ha4.kd k N3.out N4.out
  have hK4 := hk4.trans k
  clear hT4 hz4 ha4 hk4 k
  obtain ⟨q0, q1, q2, q3, q4⟩ := hy4.facts
  simp only at q0 q1 q2 q3 q4
  have fz := hy4.frz
  obtain ⟨w5, hw⟩ : ∃ w', w' = v4.setCell ⟨P, 3, none⟩ (.string (bstr (tV 65536 (m3 l)))) := ⟨_, rfl⟩
  have hz5 : RzB w5 P ⟨((dX 1073741824 l : Nat) : Int), decide ((bV (nR l)).toNat = 1), tV 65536 (m2 l), tV 65536 (m3 l), 0⟩ := by rw [hw]; exact heap_set_same hy4 (o := 3) _
  have ha5 := hA4.far (c := P) (o := 3) (v := (.string (bstr (tV 65536 (m3 l))))) N5.out
  have hT5 := hU4.far (b := P) (o := 3) (v := (.string (bstr (tV 65536 (m3 l))))) N1.out N2.out
  have hk5 := hK4.far (b := P) (o := 3) (v := (.string (bstr (tV 65536 (m3 l))))) N6.out
  rw [← hw] at ha5 hT5 hk5
  have HW : Hid _ := hw
  clear hw hy4 hA4 hU4 hK4
  go_upto_region 6 with fail
  have HW2 := HW.out
  rw [← HW2]
  clear HW HW2 q0 q1 q2 q3 q4 fz
  go_wp2_with fail
  refine (dN_any g t 1099511627776 _ (m4 l) w5 hT5 E3.out).mono ?_
  rintro e v5 ⟨rfl, hU5, k⟩
  have hy5 := hz5.kd k N1.out N2.out
  have hA5 := ha5.kd k N3.out N4.out
  have hK5 := hk5.trans k
  clear hT5 hz5 ha5 hk5 k
  obtain ⟨q0, q1, q2, q3, q4⟩ := hy5.facts
  simp only at q0 q1 q2 q3 q4
  have fz := hy5.frz
  obtain ⟨w6, hw⟩ : ∃ w', w' = v5.setCell ⟨P, 4, none⟩ (.int .u64 ((dX 1099511627776 (m4 l) : Nat) : Int)) := ⟨_, rfl⟩
  have hz6 : RzB w6 P (docR l) := by rw [hw]; exact heap_set_same hy5 (o := 4) _
  have ha6 := hA5.far (c := P) (o := 4) (v := (.int .u64 ((dX 1099511627776 (m4 l) : Nat) : Int))) N5.out
  have hT6 := hU5.far (b := P) (o := 4) (v := (.int .u64 ((dX 1099511627776 (m4 l) : Nat) : Int))) N1.out N2.out
  have hk6 := hK5.far (b := P) (o := 4) (v := (.int .u64 ((dX 1099511627776 (m4 l) : Nat) : Int))) N6.out
  rw [← hw] at ha6 hT6 hk6
  have HW : Hid _ := hw
  clear hw hy5 hA5 hU5 hK5
  go_upto_region 7 with fail
  have HW2 := HW.out
  rw [← HW2]
  clear HW HW2 q0 q1 q2 q3 q4 fz
  obtain ⟨q0, q1, q2, q3, q4⟩ := hz6.facts
  obtain ⟨p0, p1, p2, p3, p4⟩ := ha6.facts
  simp only at p0 p1 p2 p3 p4
  have fz := ha6.frz
  have HR : Hid _ := ha6.set (docR l)
  have N7 : Hid (w.heap.size ≤ w.heap.size) := Nat.le_refl _
  have hT9 : Hid (DT (((((w6.setCell ⟨w.heap.size, 0, none⟩ (.int .i64 (docR l).err)).setCell ⟨w.heap.size, 1, none⟩ (.bool (docR l).found)).setCell ⟨w.heap.size, 2, none⟩ (.string (bstr (docR l).row))).setCell ⟨w.heap.size, 3, none⟩ (.string (bstr (docR l).val))).setCell ⟨w.heap.size, 4, none⟩ (.int .u64 ((docR l).ver : Int))) g t (docB l) (m5 l)) := ((((hT6.far N3.out N4.out).far N3.out N4.out).far N3.out N4.out).far N3.out N4.out).far N3.out N4.out
  have hk9 : Hid (KD g t w (((((w6.setCell ⟨w.heap.size, 0, none⟩ (.int .i64 (docR l).err)).setCell ⟨w.heap.size, 1, none⟩ (.bool (docR l).found)).setCell ⟨w.heap.size, 2, none⟩ (.string (bstr (docR l).row))).setCell ⟨w.heap.size, 3, none⟩ (.string (bstr (docR l).val))).setCell ⟨w.heap.size, 4, none⟩ (.int .u64 ((docR l).ver : Int)))) := ((((hk6.far N7.out).far N7.out).far N7.out).far N7.out).far N7.out
  clear hT6 hk6 hz6 ha6
  go_wp2
  exact ret_rz rfl rfl HR.out rfl ⟨rfl, hT9.out, hk9.out⟩

end Go.Proofs.YtmgibkglbddlpaaDoor
