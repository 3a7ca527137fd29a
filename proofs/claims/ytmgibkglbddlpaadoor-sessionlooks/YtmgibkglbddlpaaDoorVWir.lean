/-
  Texts and numbers laid and read, as lists: the wire's functions in that form.
-/
import Derived.Test.YtmgibkglbddlpaaDoorPut
import Derived.Test.YtmgibkglbddlpaaDoorReader
import Derived.Lib.QuietBelow
import Derived.BigQuiet
namespace Go.Proofs.YtmgibkglbddlpaaDoor
open Go.RowKit Go.BigFrame
attribute [local go_sem] size_bstr toList_bstr

/-- A text as bytes; a cell; a list. -/
def txt (s : List UInt8) : List UInt8 := Lib.uvarint s.length ++ s
theorem putText (b s : List UInt8) (w : World) (hb : b.length ≤ 10000000000) (hs : s.length ≤ 10000000000) :
    Calls Tryd.prog 69 #[.string (bstr b), .string (bstr s)] w fun e w' => e = .returned (.string (bstr (b ++ txt s))) ∧ RowKit.Below w.heap.size w w' := by
  have := PutText_any (bstr b) (bstr s) w (by rw [size_bstr]; exact hb) (by rw [size_bstr]; exact hs)
  rw [append_text, data_bstr, data_bstr, size_bstr] at this
  exact this
theorem putNum (b : List UInt8) (x : Nat) (w : World) (hx : x < 18446744073709551616) (hb : b.length ≤ 10000000000) :
    Calls Tryd.prog 17 #[.string (bstr b), .int .u64 x] w fun e w' => e = .returned (.string (bstr (b ++ Lib.uvarint x))) ∧ RowKit.Below w.heap.size w w' := by
  have := PutNumber_any (bstr b) x w hx (by rw [size_bstr]; exact hb)
  rw [append_bstr] at this
  exact this
theorem txt_len {s : List UInt8} (h : s.length ≤ 10000000000) : (txt s).length ≤ s.length + 10 := by
  unfold txt
  rw [List.length_append]
  have := Lib.uvarint_length64 (x := s.length) (by omega)
  omega
def okT (m : Nat) (l : List UInt8) : Bool := decide ((numOf l).2 ≠ 0) && decide ((numOf l).1 ≤ m) && decide ((numOf l).2 + (numOf l).1 ≤ l.length)
/-- A text read: it, whether there was one, what is left. -/
def tV (m : Nat) (l : List UInt8) : List UInt8 := if okT m l then (l.drop (numOf l).2).take (numOf l).1 else []
def tR (m : Nat) (l : List UInt8) : List UInt8 := if okT m l then l.drop ((numOf l).2 + (numOf l).1) else l
/-- A number; a byte. -/
def okN (l : List UInt8) : Bool := decide ((numOf l).2 ≠ 0)
def nV (l : List UInt8) : Nat := if okN l then (numOf l).1 else 0
def nR (l : List UInt8) : List UInt8 := if okN l then l.drop (numOf l).2 else l
theorem Text_r (g m : Nat) (l : List UInt8) (w : World) (h : Rd w g (bstr l)) (hl : l.length ≤ 10000000) (hm : m ≤ 10000000) :
    Calls Tryd.prog 72 #[.pointer (some ⟨g, 0, none⟩), .int .i64 m] w fun e w' => e = .returned (.tuple #[.string (bstr (tV m l)), .bool (okT m l)]) ∧ Rd w' g (bstr (tR m l)) ∧ w.grownBy w' (some g) := by
  unfold tV tR
  cases ho : okT m l with
  | true =>
    simp only [okT, Bool.and_eq_true, decide_eq_true_eq] at ho
    rw [if_pos rfl, if_pos rfl]
    exact Text_yes g l (numOf l).1 (numOf l).2 m w h (by omega) rfl ho.1.1 (by omega) (by omega) ho.2
  | false =>
    rw [if_neg (by simp), if_neg (by simp)]
    by_cases h0 : (numOf l).2 = 0
    · refine (Text_none g l m w h (by omega) h0).mono ?_
      rintro e w' ⟨rfl, rfl⟩
      exact ⟨rfl, h, grown_refl _ _⟩
    · refine (Text_no g l (numOf l).1 (numOf l).2 m w h (by omega) rfl h0 (by omega) ?_).mono ?_
      · simp only [okT, Bool.and_eq_false_iff, decide_eq_false_iff_not] at ho
        omega
      · rintro e w' ⟨rfl, rfl⟩
        exact ⟨rfl, h, grown_refl _ _⟩
theorem Number_r (g : Nat) (l : List UInt8) (w : World) (h : Rd w g (bstr l)) (hl : l.length ≤ 10000000) :
    Calls Tryd.prog 19 #[.pointer (some ⟨g, 0, none⟩)] w fun e w' => e = .returned (.tuple #[.int .u64 (nV l), .bool (okN l)]) ∧ Rd w' g (bstr (nR l)) ∧ w.grownBy w' (some g) := by
  unfold nV nR
  cases ho : okN l with
  | true =>
    simp only [okN, decide_eq_true_eq] at ho
    rw [if_pos rfl, if_pos rfl]
    exact Number_yes g l (numOf l).1 (numOf l).2 w h (by omega) rfl ho
  | false =>
    simp only [okN, decide_eq_false_iff_not, Decidable.not_not] at ho
    rw [if_neg (by simp), if_neg (by simp)]
    refine (Number_no g l w h (by omega) ho).mono ?_
    rintro e w' ⟨rfl, rfl⟩
    exact ⟨rfl, h, grown_refl _ _⟩
theorem okT_txt {m : Nat} {s r : List UInt8} (h : s.length ≤ m) (hm : m ≤ 10000000) : okT m (txt s ++ r) = true ∧ tV m (txt s ++ r) = s ∧ tR m (txt s ++ r) = r := by
  have hn := numOf_uvarint s.length (by omega) (s ++ r)
  have hp := Lib.uvarint_pos s.length
  have e : txt s ++ r = Lib.uvarint s.length ++ (s ++ r) := by simp [txt]
  have ho : okT m (txt s ++ r) = true := by
    unfold okT
    rw [e, hn]
    simp only [Bool.and_eq_true, decide_eq_true_eq, List.length_append]
    omega
  refine ⟨ho, ?_, ?_⟩
  · unfold tV
    rw [ho, if_pos rfl, e, hn]
    simp
  · unfold tR
    rw [ho, if_pos rfl, e, hn]
    simp [← List.drop_drop]
theorem okN_num {x : Nat} {r : List UInt8} (h : x < 18446744073709551616) : okN (Lib.uvarint x ++ r) = true ∧ nV (Lib.uvarint x ++ r) = x ∧ nR (Lib.uvarint x ++ r) = r := by
  have hn := numOf_uvarint x h r
  have hp := Lib.uvarint_pos x
  have ho : okN (Lib.uvarint x ++ r) = true := by
    unfold okN
    rw [hn]
    simp only [decide_eq_true_eq]
    omega
  refine ⟨ho, ?_, ?_⟩
  · unfold nV
    rw [ho, if_pos rfl, hn]
  · unfold nR
    rw [ho, if_pos rfl, hn]
    simp
theorem okT_back {m : Nat} {l : List UInt8} (h : okT m l = true) : l = txt (tV m l) ++ tR m l ∧ (tV m l).length ≤ m := by
  have h' := h
  simp only [okT, Bool.and_eq_true, decide_eq_true_eq] at h'
  obtain ⟨⟨h1, h2⟩, h3⟩ := h'
  obtain ⟨k1, k2, k3, k4, k5⟩ := numOf_back (l := l) (v := (numOf l).1) (n := (numOf l).2) rfl h1
  have hlen : ((l.drop (numOf l).2).take (numOf l).1).length = (numOf l).1 := by rw [List.length_take, List.length_drop]; omega
  unfold tV tR
  rw [h, if_pos rfl, if_pos rfl]
  refine ⟨?_, by rw [hlen]; exact h2⟩
  unfold txt
  rw [hlen, ← k5, List.append_assoc, ← List.drop_drop, List.take_append_drop, List.take_append_drop]
theorem okN_back {l : List UInt8} (h : okN l = true) : l = Lib.uvarint (nV l) ++ nR l ∧ nV l < 18446744073709551616 := by
  have h' := h
  simp only [okN, decide_eq_true_eq] at h'
  obtain ⟨k1, k2, k3, k4, k5⟩ := numOf_back (l := l) (v := (numOf l).1) (n := (numOf l).2) rfl h'
  unfold nV nR
  rw [h, if_pos rfl, if_pos rfl]
  exact ⟨by rw [← k5, List.take_append_drop], k4⟩

end Go.Proofs.YtmgibkglbddlpaaDoor
