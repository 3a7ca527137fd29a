/-
  The contracts of the document's reader (New, Left, Number, Text, Byte), over this seat's translation.
-/
import Derived.Test.YtmgibkglbddlpaaDoorJRTk
import Derived.Test.YtmgibkglbddlpaaDoorJMath
namespace Go.Proofs.YtmgibkglbddlpaaDoor
open Go.RowKit Go.BigFrame
attribute [local go_sem] size_bstr getElem_bstr toList_bstr

def okB : List UInt8 → Bool
  | [] => false
  | _ :: _ => true
def bV : List UInt8 → UInt8
  | [] => 0
  | x :: _ => x
def bR : List UInt8 → List UInt8
  | [] => []
  | _ :: l => l
theorem rrun_piece {P : Program} (t : TypeId) (L : List UInt8) (i j : Nat) (hij : i ≤ j) (hj : j ≤ L.length) (w : World) (ht : P.underlying t = some .string) :
    (Instr.slice t (.string (bstr L)) (some (.int .i64 (i : Int))) (some (.int .i64 (j : Int))) none).run P w = .ok (.string (bstr ((L.drop i).take (j - i)))) w := by
  have h := run_slice_string (P := P) (w := w) t (bstr L) .i64 .i64 (i : Int) (j : Int) ht (by omega) (by omega) (by rw [size_bstr]; omega)
  rw [h]
  have e2 : (bstr L).extract ((i : Int).toNat) ((j : Int).toNat) = bstr ((L.drop i).take (j - i)) := by
    apply ByteArray.ext
    simp [bstr, List.extract_eq_take_drop]
  rw [e2]
theorem rrun_from {P : Program} (t : TypeId) (L : List UInt8) (i : Nat) (hi : i ≤ L.length) (w : World) (ht : P.underlying t = some .string) :
    (Instr.slice t (.string (bstr L)) (some (.int .i64 (i : Int))) none none).run P w = .ok (.string (bstr (L.drop i))) w := by
  have h := run_slice_string_l (P := P) (t := t) (s := bstr L) (w := w) ht .i64 (i : Int) (by omega) (by rw [size_bstr]; omega)
  rw [h]
  have e2 : (bstr L).extract ((i : Int).toNat) (bstr L).size = bstr (L.drop i) := by
    apply ByteArray.ext
    rw [size_bstr]
    simp only [bstr, ByteArray.data_extract, List.extract_toArray, Int.toNat_natCast, List.extract_eq_take_drop]
    rw [List.take_of_length_le (by rw [List.length_drop]; omega)]
  rw [e2]

/-- Block g is the document's reader, of which s is left. -/
def Rr (w : World) (g : Nat) (s : ByteArray) : Prop := w.heap[g]? = some (.cells #[.string s] 90 (0, 0))
theorem Rr.cell0 {w : World} {g : Nat} {s : ByteArray} (h : Rr w g s) : w.cell? ⟨g, 0, none⟩ = some (.string s) := by
  unfold Rr at h
  simp [World.cell?, h]
theorem Rr.free {w : World} {g : Nat} {s : ByteArray} (h : Rr w g s) : w.frozen? ⟨g, 0, none⟩ = false := by
  unfold Rr at h
  simp [World.frozen?, h]
theorem Rr.lt {w : World} {g : Nat} {s : ByteArray} (h : Rr w g s) : g < w.heap.size := lt_of_block h
theorem Rr.set {w : World} {g : Nat} {s : ByteArray} (h : Rr w g s) (t : ByteArray) : Rr (w.setCell ⟨g, 0, none⟩ (.string t)) g t := by
  have hlt := h.lt
  unfold Rr at *
  have h' : w.heap[g] = .cells #[.string s] 90 (0, 0) := by simpa [Array.getElem?_eq_getElem hlt] using h
  show (w.heap.modify g _)[g]? = _
  rw [Array.getElem?_eq_getElem (by simpa using hlt), Array.getElem_modify_self, h']
  rfl
theorem Rr.below {w w' : World} {g : Nat} {s : ByteArray} {B : Nat} (h : Rr w g s) (hb : RowKit.Below B w w') (hg : g < B) : Rr w' g s := (hb.block g hg).trans h
theorem Rr.next {w w' : World} {g : Nat} {s : ByteArray} (h : Rr w g s) (hb : RowKit.Below w.heap.size w w') : Rr w' g s := h.below hb h.lt

set_option maxHeartbeats 400000 in
theorem RNew_any (s : ByteArray) (w : World) :
    Calls Tryd.prog 38 #[.string s] w fun e w' => e = .returned (.pointer (some ⟨w.heap.size, 0, none⟩)) ∧ Rr w' w.heap.size s ∧ RowKit.Below w.heap.size w w' := by
  go_enter Tryd.func38, Tryd.ntmps38
  go_wp2
  go_ret
  exact ⟨rfl, heap_alloc_new w _, (RowKit.Below.refl _ _).alloc (Nat.le_refl _) _⟩

set_option maxHeartbeats 400000 in
theorem RLeft_any (g : Nat) (l : List UInt8) (w : World) (h : Rr w g (bstr l)) :
    Calls Tryd.prog 61 #[.pointer (some ⟨g, 0, none⟩)] w fun e w' => e = .returned (.int .i64 (l.length : Int)) ∧ w' = w := by
  have c0 := h.cell0
  go_enter Tryd.func61, Tryd.ntmps61
  go_wp2
  go_ret
  exact ⟨rfl, rfl⟩

set_option maxHeartbeats 1000000 in
set_option maxRecDepth 100000 in
theorem RNumber_r (g : Nat) (l : List UInt8) (w : World) (h : Rr w g (bstr l)) (hl : l.length ≤ 10000000) :
    Calls Tryd.prog 77 #[.pointer (some ⟨g, 0, none⟩)] w fun e w' => e = .returned (.tuple #[.int .u64 (nV l), .bool (okN l)]) ∧ Rr w' g (bstr (nR l)) ∧ w.grownBy w' (some g) := by
  have c0 := h.cell0
  have hcon := fun W => RTakeNumber_any l W (by omega)
  cases ho : okN l with
  | true =>
    have hv : nV l = (numOf l).1 := by unfold nV; rw [ho, if_pos rfl]
    have hr : nR l = l.drop (numOf l).2 := by unfold nR; rw [ho, if_pos rfl]
    simp only [okN, decide_eq_true_eq] at ho
    have hle : (numOf l).2 ≤ l.length := (numOf_back (l := l) (v := (numOf l).1) rfl ho).2.2.1
    have hsl := fun W => rrun_from (P := Tryd.prog) 9 l (numOf l).2 hle W Tryd.underlying9
    rw [← hr] at hsl
    rw [← hv] at hcon
    have hnz : (((numOf l).2 : Int) == 0) = false := by simp; omega
    clear hv hr
    generalize (numOf l).2 = n at *
    generalize nV l = v at *
    generalize nR l = r at *
    go_enter Tryd.func77, Tryd.ntmps77
    go_wp2_with fail
    refine (hcon _).mono ?_
    rintro e w1 ⟨rfl, hb1⟩
    have h1 := h.next hb1
    clear c0
    have c0 := h1.cell0
    have f0 := h1.free
    go_wp2
    go_ret2
    exact ⟨rfl, h1.set _, grown_trans (grown_of_below hb1) (grown_setCell _ _ _)⟩
  | false =>
    have hv : nV l = 0 := by unfold nV; rw [ho, if_neg (by simp)]
    have hr : nR l = l := by unfold nR; rw [ho, if_neg (by simp)]
    simp only [okN, decide_eq_false_iff_not, Decidable.not_not] at ho
    rw [numOf_none ho, ho] at hcon
    rw [hv, hr]
    go_enter Tryd.func77, Tryd.ntmps77
    go_wp2_with fail
    refine (hcon _).mono ?_
    rintro e w1 ⟨rfl, hb1⟩
    have h1 := h.next hb1
    go_wp2
    go_ret2
    exact ⟨rfl, h1, grown_of_below hb1⟩

set_option maxHeartbeats 1000000 in
set_option maxRecDepth 100000 in
theorem RTakeText_yes (m : Nat) (l : List UInt8) (w : World) (hl : l.length ≤ 10000000) (hm : m ≤ 10000000) (ho : okT m l = true) :
    Calls Tryd.prog 87 #[.string (bstr l), .int .i64 m] w fun e w' => e = .returned (.tuple #[.string (bstr (tV m l)), .int .i64 (((numOf l).2 + (numOf l).1 : Nat) : Int)]) ∧ RowKit.Below w.heap.size w w' := by
  have hcon := fun W => RTakeNumber_any l W (by omega)
  have hv : tV m l = (l.drop (numOf l).2).take (numOf l).1 := by unfold tV; rw [ho, if_pos rfl]
  simp only [okT, Bool.and_eq_true, decide_eq_true_eq] at ho
  obtain ⟨⟨h1, h2⟩, h3⟩ := ho
  have hsl := fun W => rrun_piece (P := Tryd.prog) 9 l (numOf l).2 ((numOf l).2 + (numOf l).1) (by omega) h3 W Tryd.underlying9
  rw [show (numOf l).2 + (numOf l).1 - (numOf l).2 = (numOf l).1 by omega, ← hv] at hsl
  have hnz : (((numOf l).2 : Int) == 0) = false := by simp; omega
  clear hv
  generalize (numOf l).2 = n at *
  generalize (numOf l).1 = v at *
  generalize tV m l = t at *
  rw [show (((n + v : Nat)) : Int) = (n : Int) + (v : Int) by omega] at *
  go_enter Tryd.func87, Tryd.ntmps87
  go_wp2_with fail
  refine (hcon _).mono ?_
  rintro e w1 ⟨rfl, hb1⟩
  go_wp2
  go_ret2
  exact ⟨rfl, hb1⟩

set_option maxHeartbeats 1000000 in
set_option maxRecDepth 100000 in
theorem RTakeText_no (m : Nat) (l : List UInt8) (w : World) (hl : l.length ≤ 10000000) (hm : m ≤ 10000000) (ho : okT m l = false) :
    Calls Tryd.prog 87 #[.string (bstr l), .int .i64 m] w fun e w' => e = .returned (.tuple #[.string ⟨#[]⟩, .int .i64 0]) ∧ RowKit.Below w.heap.size w w' := by
  have hcon := fun W => RTakeNumber_any l W (by omega)
  simp only [okT, Bool.and_eq_false_iff, decide_eq_false_iff_not] at ho
  have hlt := numOf_lt l
  by_cases h0 : (numOf l).2 = 0
  · rw [numOf_none h0, h0] at hcon
    go_enter Tryd.func87, Tryd.ntmps87
    go_wp2_with fail
    refine (hcon _).mono ?_
    rintro e w1 ⟨rfl, hb1⟩
    go_wp2
    go_ret2
    exact ⟨rfl, hb1⟩
  · have hle : (numOf l).2 ≤ l.length := (numOf_back (l := l) (v := (numOf l).1) rfl h0).2.2.1
    have hnz : (((numOf l).2 : Int) == 0) = false := by simp; omega
    generalize (numOf l).2 = n at *
    generalize (numOf l).1 = v at *
    by_cases h3 : n + v ≤ l.length
    · have hvm : m < v := by omega
      go_enter Tryd.func87, Tryd.ntmps87
      go_wp2_with fail
      refine (hcon _).mono ?_
      rintro e w1 ⟨rfl, hb1⟩
      go_wp2
      go_ret2
      exact ⟨rfl, hb1⟩
    · go_enter Tryd.func87, Tryd.ntmps87
      go_wp2_with fail
      refine (hcon _).mono ?_
      rintro e w1 ⟨rfl, hb1⟩
      go_wp2
      go_ret2
      exact ⟨rfl, hb1⟩

set_option maxHeartbeats 1000000 in
set_option maxRecDepth 100000 in
theorem RText_r (g m : Nat) (l : List UInt8) (w : World) (h : Rr w g (bstr l)) (hl : l.length ≤ 10000000) (hm : m ≤ 10000000) :
    Calls Tryd.prog 76 #[.pointer (some ⟨g, 0, none⟩), .int .i64 m] w fun e w' => e = .returned (.tuple #[.string (bstr (tV m l)), .bool (okT m l)]) ∧ Rr w' g (bstr (tR m l)) ∧ w.grownBy w' (some g) := by
  have c0 := h.cell0
  cases ho : okT m l with
  | true =>
    have hcon := fun W => RTakeText_yes m l W hl hm ho
    have hr : tR m l = l.drop ((numOf l).2 + (numOf l).1) := by unfold tR; rw [ho, if_pos rfl]
    simp only [okT, Bool.and_eq_true, decide_eq_true_eq] at ho
    obtain ⟨⟨h1, h2⟩, h3⟩ := ho
    have hsl := fun W => rrun_from (P := Tryd.prog) 9 l ((numOf l).2 + (numOf l).1) h3 W Tryd.underlying9
    rw [← hr] at hsl
    have hnz : ((((numOf l).2 + (numOf l).1 : Nat) : Int) == 0) = false := by simp; omega
    have hpos : (numOf l).2 + (numOf l).1 ≠ 0 := by omega
    clear hr h1 h2
    generalize (numOf l).2 + (numOf l).1 = n at *
    generalize tV m l = t at *
    generalize tR m l = r at *
    go_enter Tryd.func76, Tryd.ntmps76
    go_wp2_with fail
    refine (hcon _).mono ?_
    rintro e w1 ⟨rfl, hb1⟩
    have h1 := h.next hb1
    clear c0
    have c0 := h1.cell0
    have f0 := h1.free
    go_wp2
    go_ret2
    exact ⟨rfl, h1.set _, grown_trans (grown_of_below hb1) (grown_setCell _ _ _)⟩
  | false =>
    have hcon := fun W => RTakeText_no m l W hl hm ho
    have hv : tV m l = [] := by unfold tV; rw [ho, if_neg (by simp)]
    have hr : tR m l = l := by unfold tR; rw [ho, if_neg (by simp)]
    rw [hv, hr]
    go_enter Tryd.func76, Tryd.ntmps76
    go_wp2_with fail
    refine (hcon _).mono ?_
    rintro e w1 ⟨rfl, hb1⟩
    have h1 := h.next hb1
    go_wp2
    go_ret2
    exact ⟨rfl, h1, grown_of_below hb1⟩

set_option maxHeartbeats 1000000 in
set_option maxRecDepth 100000 in
theorem RTake_one (g : Nat) (x : UInt8) (l : List UInt8) (w : World) (h : Rr w g (bstr (x :: l))) :
    Calls Tryd.prog 86 #[.pointer (some ⟨g, 0, none⟩), .int .i64 1] w fun e w' => e = .returned (.tuple #[.string (bstr [x]), .bool true]) ∧ Rr w' g (bstr l) ∧ w.grownBy w' (some g) := by
  have c0 := h.cell0
  have f0 := h.free
  have hs1 := fun W => run_head (P := Tryd.prog) 9 (x :: l) 1 (by simp) W Tryd.underlying9
  have hs2 := fun W => rrun_from (P := Tryd.prog) 9 (x :: l) 1 (by simp) W Tryd.underlying9
  rw [show (x :: l).take 1 = [x] from rfl, show ((1 : Nat) : Int) = 1 from rfl] at hs1
  rw [show (x :: l).drop 1 = l from rfl, show ((1 : Nat) : Int) = 1 from rfl] at hs2
  have hlen : 0 < (x :: l).length := by simp
  have hset := h.set (bstr l)
  generalize x :: l = L at *
  go_enter Tryd.func86, Tryd.ntmps86
  go_wp2
  go_ret2
  exact ⟨rfl, hset, grown_setCell _ _ _⟩

set_option maxHeartbeats 1000000 in
set_option maxRecDepth 100000 in
theorem RTake_none (g : Nat) (w : World) (h : Rr w g (bstr [])) :
    Calls Tryd.prog 86 #[.pointer (some ⟨g, 0, none⟩), .int .i64 1] w fun e w' => e = .returned (.tuple #[.string ⟨#[]⟩, .bool false]) ∧ w' = w := by
  have c0 := h.cell0
  go_enter Tryd.func86, Tryd.ntmps86
  go_wp2
  go_ret2
  exact ⟨rfl, rfl⟩

set_option maxHeartbeats 1000000 in
set_option maxRecDepth 100000 in
theorem RByte_r (g : Nat) (l : List UInt8) (w : World) (h : Rr w g (bstr l)) :
    Calls Tryd.prog 75 #[.pointer (some ⟨g, 0, none⟩)] w fun e w' => e = .returned (.tuple #[.int .u8 ((bV l).toNat : Int), .bool (okB l)]) ∧ Rr w' g (bstr (bR l)) ∧ w.grownBy w' (some g) := by
  cases l with
  | nil =>
    go_enter Tryd.func75, Tryd.ntmps75
    go_wp2_with fail
    refine (RTake_none g w h).mono ?_
    rintro e w1 ⟨rfl, rfl⟩
    go_wp2
    go_ret2
    exact ⟨rfl, h, grown_refl _ _⟩
  | cons x l =>
    go_enter Tryd.func75, Tryd.ntmps75
    go_wp2_with fail
    refine (RTake_one g x l w h).mono ?_
    rintro e w1 ⟨rfl, h1, g1⟩
    go_wp2
    go_ret2
    exact ⟨rfl, h1, g1⟩

end Go.Proofs.YtmgibkglbddlpaaDoor
