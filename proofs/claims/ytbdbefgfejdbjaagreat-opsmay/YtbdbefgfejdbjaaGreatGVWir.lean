/-
  The contracts of the reader's methods (Left, Byte, Number, Take, Text), over this seat's translation.
  Texts and numbers laid and read, as lists: the wire's functions in that form.
-/
import Derived.Test.YtbdbefgfejdbjaaGreatRead
import Derived.Test.YtbdbefgfejdbjaaGreatNumber
import Derived.Test.YtbdbefgfejdbjaaGreatShelf
import Derived.Laws.EntriesVeiled
import Derived.Test.YtbdbefgfejdbjaaGreatPut
import Derived.Lib.QuietBelow
import Derived.BigQuiet
namespace Go.Proofs.YtbdbefgfejdbjaaGreat
open Go.RowKit

theorem extract_to (l : List UInt8) (n : Nat) : (bstr l).extract 0 n = bstr (l.take n) := by
  apply ByteArray.ext
  simp [bstr]
theorem extract_from (l : List UInt8) (n : Nat) : (bstr l).extract n (bstr l).size = bstr (l.drop n) := by
  apply ByteArray.ext
  rw [size_bstr]
  simp [bstr, List.take_of_length_le]

/-- Behind a store into block g: that block alone has turned. -/
theorem grown_setCell (w : World) (g : Nat) (v : Value) : w.grownBy (w.setCell ⟨g, 0, none⟩ v) (some g) :=
  ⟨rfl, rfl, rfl, by simp [World.setCell], fun k _ hk => Below.heap_setCell _ _ _ _ (fun e => hk (by rw [e]))⟩
theorem grown_trans {a b c : World} {g : Nat} (h : a.grownBy b (some g)) (k : b.grownBy c (some g)) : a.grownBy c (some g) :=
  ⟨k.os.trans h.os, k.tape.trans h.tape, k.output.trans h.output, Nat.le_trans h.size k.size, fun i hi hne => (k.block i (Nat.lt_of_lt_of_le hi h.size) hne).trans (h.block i hi hne)⟩
theorem grown_of_below {a b : World} {g : Nat} (h : Below a.heap.size a b) : a.grownBy b (some g) := ⟨h.os, h.tape, h.output, h.size, fun i hi _ => h.block i hi⟩
theorem grown_refl (w : World) (g : Nat) : w.grownBy w (some g) := ⟨rfl, rfl, rfl, Nat.le_refl _, fun _ _ _ => rfl⟩

set_option maxHeartbeats 400000 in
theorem Left_any (g : Nat) (l : List UInt8) (w : World) (h : Rd w g (bstr l)) :
    Calls Tryz.prog 131 #[.pointer (some ⟨g, 0, none⟩)] w fun e w' => e = .returned (.int .i64 l.length) ∧ w' = w := by
  go_enter Tryz.func131, Tryz.ntmps131
  go_wp2_with fail
  refine (open_any g _ _ h).mono ?_
  rintro e w1 ⟨rfl, rfl⟩
  go_wp2
  go_ret
  exact ⟨by rw [← size_bstr]; rfl, rfl⟩

set_option maxHeartbeats 400000 in
theorem Left_nil (w : World) :
    Calls Tryz.prog 131 #[.pointer none] w fun e w' => e = .returned (.int .i64 0) ∧ w' = w := by
  go_enter Tryz.func131, Tryz.ntmps131
  go_wp2_with fail
  refine (open_nil _).mono ?_
  rintro e w1 ⟨rfl, rfl⟩
  go_wp2
  go_ret
  exact ⟨rfl, rfl⟩

set_option maxHeartbeats 400000 in
theorem Number_no (g : Nat) (l : List UInt8) (w : World) (h : Rd w g (bstr l)) (hl : l.length ≤ 10000000000) (hn : (numOf l).2 = 0) :
    Calls Tryz.prog 127 #[.pointer (some ⟨g, 0, none⟩)] w fun e w' => e = .returned (.tuple #[.int .u64 0, .bool false]) ∧ w' = w := by
  go_enter Tryz.func127, Tryz.ntmps127
  go_wp2_with fail
  refine (open_any g _ _ h).mono ?_
  rintro e w1 ⟨rfl, rfl⟩
  go_wp2_with fail
  refine (number_any (bstr l) _ (by rw [size_bstr]; unfold maxLen; omega)).mono ?_
  rintro e w1 ⟨rfl, rfl⟩
  rw [data_bstr, hn]
  go_wp2
  go_ret2
  exact ⟨rfl, rfl⟩

set_option maxHeartbeats 400000 in
theorem Number_yes (g : Nat) (l : List UInt8) (v n : Nat) (w : World) (h : Rd w g (bstr l)) (hl : l.length ≤ 10000000000) (hn : numOf l = (v, n)) (h0 : n ≠ 0) :
    Calls Tryz.prog 127 #[.pointer (some ⟨g, 0, none⟩)] w fun e w' => e = .returned (.tuple #[.int .u64 v, .bool true]) ∧ Rd w' g (bstr (l.drop n)) ∧ w.grownBy w' (some g) := by
  obtain ⟨h1, h10, hnl, hv, ht⟩ := numOf_back hn h0
  have HN : Hid (numOf l = (v, n)) := hn
  have hb : ((n : Int) == 0) = false := by simp; omega
  clear ht hn
  go_enter Tryz.func127, Tryz.ntmps127
  go_wp2_with fail
  refine (open_any g _ _ h).mono ?_
  rintro e w1 ⟨rfl, rfl⟩
  go_wp2_with fail
  refine (number_any (bstr l) _ (by rw [size_bstr]; unfold maxLen; omega)).mono ?_
  rintro e w1 ⟨rfl, rfl⟩
  rw [data_bstr, HN.out]
  go_wp2_with fail
  refine (cut_any g _ n _ h (by rw [size_bstr]; exact hnl)).mono ?_
  rintro e w2 ⟨rfl, rfl⟩
  go_wp2
  go_ret2
  exact ⟨rfl, by rw [← extract_from]; exact h.set _, grown_setCell _ _ _⟩

set_option maxHeartbeats 400000 in
theorem Number_nil (w : World) :
    Calls Tryz.prog 127 #[.pointer none] w fun e w' => e = .returned (.tuple #[.int .u64 0, .bool false]) ∧ w' = w := by
  go_enter Tryz.func127, Tryz.ntmps127
  go_wp2_with fail
  refine (open_nil _).mono ?_
  rintro e w1 ⟨rfl, rfl⟩
  go_wp2_with fail
  refine (number_any ⟨#[]⟩ _ (by decide)).mono ?_
  rintro e w1 ⟨rfl, rfl⟩
  go_wp2
  go_ret2
  exact ⟨rfl, rfl⟩

set_option maxHeartbeats 400000 in
/-- strings.Clone: the same bytes; of what was there nothing has turned. -/
theorem Clone_any (l : List UInt8) (w : World) (hl : l.length ≤ 10000000000) :
    Calls Tryz.prog 143 #[.string (bstr l)] w fun e w' => e = .returned (.string (bstr l)) ∧ Below w.heap.size w w' := by
  go_enter Tryz.func143, Tryz.ntmps143
  go_wp2_with fail
  refine (Tryz.stringslite_Clone (bstr l) _ (by rw [size_bstr]; omega)).mono ?_
  rintro e w1 ⟨rfl, hb⟩
  go_wp2
  go_ret
  exact ⟨rfl, hb⟩

theorem eql_func (g : Nat) (w : World) : (binOp .eql 119 (.func (.func 145) #[.pointer (some ⟨g, 0, none⟩)] #[]) .nilFunc).run Tryz.prog w = .ok (.bool false) w := by kernel_rfl
theorem eql_nilFunc (w : World) : (binOp .eql 119 .nilFunc .nilFunc).run Tryz.prog w = .ok (.bool true) w := by kernel_rfl

set_option maxHeartbeats 400000 in
theorem Text_none (g : Nat) (l : List UInt8) (m : Int) (w : World) (h : Rd w g (bstr l)) (hl : l.length ≤ 10000000000) (hn : (numOf l).2 = 0) :
    Calls Tryz.prog 129 #[.pointer (some ⟨g, 0, none⟩), .int .i64 m] w fun e w' => e = .returned (.tuple #[.string ⟨#[]⟩, .bool false]) ∧ w' = w := by
  go_enter Tryz.func129, Tryz.ntmps129
  go_wp2_with fail
  refine (open_any g _ _ h).mono ?_
  rintro e w1 ⟨rfl, rfl⟩
  go_wp2_with fail
  refine (number_any (bstr l) _ (by rw [size_bstr]; unfold maxLen; omega)).mono ?_
  rintro e w1 ⟨rfl, rfl⟩
  rw [data_bstr, hn]
  go_wp2
  go_ret2
  exact ⟨rfl, rfl⟩

set_option maxHeartbeats 1000000 in
theorem Text_no (g : Nat) (l : List UInt8) (v n : Nat) (m : Int) (w : World) (h : Rd w g (bstr l)) (hl : l.length ≤ 10000000000) (hn : numOf l = (v, n)) (h0 : n ≠ 0) (hm : m ≤ 9223372036854775807) (hno : m < 0 ∨ m < v ∨ l.length < n + v) :
    Calls Tryz.prog 129 #[.pointer (some ⟨g, 0, none⟩), .int .i64 m] w fun e w' => e = .returned (.tuple #[.string ⟨#[]⟩, .bool false]) ∧ w' = w := by
  obtain ⟨h1, h10, hnl, hv, ht⟩ := numOf_back hn h0
  have HN : Hid (numOf l = (v, n)) := hn
  have hb : ((n : Int) == 0) = false := by simp; omega
  have hsz : ((bstr l).size : Int) = l.length := by rw [size_bstr]
  have hno' : m < 0 ∨ m < v ∨ ((bstr l).size : Int) - n < v := by omega
  have hnl' : (n : Int) ≤ ((bstr l).size : Int) := by omega
  have hl' : ((bstr l).size : Int) ≤ 10000000000 := by omega
  clear ht hn hsz hno
  go_enter Tryz.func129, Tryz.ntmps129
  go_wp2_with fail
  refine (open_any g _ _ h).mono ?_
  rintro e w1 ⟨rfl, rfl⟩
  go_wp2_with fail
  refine (number_any (bstr l) _ (by rw [size_bstr]; unfold maxLen; omega)).mono ?_
  rintro e w1 ⟨rfl, rfl⟩
  rw [data_bstr, HN.out]
  by_cases c1 : m < 0
  · go_wp2
    go_ret2
    exact ⟨rfl, rfl⟩
  · by_cases c2 : m < v
    · go_wp2
      go_ret2
      exact ⟨rfl, rfl⟩
    · have c3 : ((bstr l).size : Int) - n < v := by omega
      go_wp2
      go_ret2
      exact ⟨rfl, rfl⟩

set_option maxHeartbeats 1000000 in
theorem Text_yes (g : Nat) (l : List UInt8) (v n : Nat) (m : Int) (w : World) (h : Rd w g (bstr l)) (hl : l.length ≤ 10000000000) (hn : numOf l = (v, n)) (h0 : n ≠ 0) (hm : m ≤ 9223372036854775807) (hvm : (v : Int) ≤ m) (hvl : n + v ≤ l.length) :
    Calls Tryz.prog 129 #[.pointer (some ⟨g, 0, none⟩), .int .i64 m] w fun e w' => e = .returned (.tuple #[.string (bstr ((l.drop n).take v)), .bool true]) ∧ Rd w' g (bstr (l.drop (n + v))) ∧ w.grownBy w' (some g) := by
  obtain ⟨h1, h10, hnl, hv, ht⟩ := numOf_back hn h0
  have HN : Hid (numOf l = (v, n)) := hn
  have hb : ((n : Int) == 0) = false := by simp; omega
  have hsz : ((bstr l).size : Int) = l.length := by rw [size_bstr]
  have hvl' : (v : Int) ≤ ((bstr l).size : Int) - n := by omega
  have hnl' : (n : Int) ≤ ((bstr l).size : Int) := by omega
  have hl' : ((bstr l).size : Int) ≤ 10000000000 := by omega
  have hg := h.lt
  have htk : ((l.drop n).take v).length ≤ 10000000000 := by have := List.length_take_le v (l.drop n); omega
  clear ht hn hsz
  go_enter Tryz.func129, Tryz.ntmps129
  go_wp2_with fail
  refine (open_any g _ _ h).mono ?_
  rintro e w1 ⟨rfl, rfl⟩
  go_wp2_with fail
  refine (number_any (bstr l) _ (by rw [size_bstr]; unfold maxLen; omega)).mono ?_
  rintro e w1 ⟨rfl, rfl⟩
  rw [data_bstr, HN.out]
  go_wp2_with fail
  refine (cut_any g _ n _ h (by rw [size_bstr]; exact hnl)).mono ?_
  rintro e w2 ⟨rfl, rfl⟩
  have h2 := h.set ((bstr l).extract n (bstr l).size)
  rw [extract_from] at h2
  rw [extract_from, extract_to]
  go_wp2_with fail
  refine (cut_any g _ v _ h2 (by rw [size_bstr, List.length_drop]; omega)).mono ?_
  rintro e w3 ⟨rfl, rfl⟩
  have h3 := h2.set ((bstr (l.drop n)).extract v (bstr (l.drop n)).size)
  rw [extract_from] at h3
  rw [extract_from, extract_to]
  go_wp2_with fail
  refine (Clone_any _ _ htk).mono ?_
  rintro e w4 ⟨rfl, hb4⟩
  go_wp2
  go_ret2
  refine ⟨rfl, ?_, grown_trans (grown_setCell _ _ _) (grown_trans (grown_setCell _ _ _) (grown_of_below hb4))⟩
  rw [List.drop_drop] at h3
  exact h3.below hb4 (by simpa using hg)

end Go.Proofs.YtbdbefgfejdbjaaGreat

namespace Go.Proofs.YtbdbefgfejdbjaaGreat
open Go.RowKit Go.BigFrame
attribute [local go_sem] size_bstr toList_bstr

/-- A text as bytes; a cell; a list. -/
def txt (s : List UInt8) : List UInt8 := Lib.uvarint s.length ++ s
theorem putText (b s : List UInt8) (w : World) (hb : b.length ≤ 10000000000) (hs : s.length ≤ 10000000000) :
    Calls Tryz.prog 121 #[.string (bstr b), .string (bstr s)] w fun e w' => e = .returned (.string (bstr (b ++ txt s))) ∧ RowKit.Below w.heap.size w w' := by
  have := PutText_any (bstr b) (bstr s) w (by rw [size_bstr]; exact hb) (by rw [size_bstr]; exact hs)
  rw [append_text, data_bstr, data_bstr, size_bstr] at this
  exact this
theorem putNum (b : List UInt8) (x : Nat) (w : World) (hx : x < 18446744073709551616) (hb : b.length ≤ 10000000000) :
    Calls Tryz.prog 113 #[.string (bstr b), .int .u64 x] w fun e w' => e = .returned (.string (bstr (b ++ Lib.uvarint x))) ∧ RowKit.Below w.heap.size w w' := by
  have := PutNumber_any (bstr b) x w hx (by rw [size_bstr]; exact hb)
  rw [append_bstr] at this
  exact this
theorem txt_len {s : List UInt8} (h : s.length ≤ 10000000000) : (txt s).length ≤ s.length + 10 := by
  unfold txt
  rw [List.length_append]
  have := Lib.uvarint_length64 (x := s.length) (by omega)
  omega
def okT (m : Nat) (l : List UInt8) : Bool := decide ((numOf l).2 ≠ 0) && decide ((numOf l).1 ≤ m) && decide ((numOf l).2 + (numOf l).1 ≤ l.length)
/-- A text read: it, whether there was one, what is left. -/
def tV (m : Nat) (l : List UInt8) : List UInt8 := if okT m l then (l.drop (numOf l).2).take (numOf l).1 else []
def tR (m : Nat) (l : List UInt8) : List UInt8 := if okT m l then l.drop ((numOf l).2 + (numOf l).1) else l
/-- A number; a byte. -/
def okN (l : List UInt8) : Bool := decide ((numOf l).2 ≠ 0)
def nV (l : List UInt8) : Nat := if okN l then (numOf l).1 else 0
def nR (l : List UInt8) : List UInt8 := if okN l then l.drop (numOf l).2 else l
theorem Text_r (g m : Nat) (l : List UInt8) (w : World) (h : Rd w g (bstr l)) (hl : l.length ≤ 10000000) (hm : m ≤ 10000000) :
    Calls Tryz.prog 129 #[.pointer (some ⟨g, 0, none⟩), .int .i64 m] w fun e w' => e = .returned (.tuple #[.string (bstr (tV m l)), .bool (okT m l)]) ∧ Rd w' g (bstr (tR m l)) ∧ w.grownBy w' (some g) := by
  unfold tV tR
  cases ho : okT m l with
  | true =>
    simp only [okT, Bool.and_eq_true, decide_eq_true_eq] at ho
    rw [if_pos rfl, if_pos rfl]
    exact Text_yes g l (numOf l).1 (numOf l).2 m w h (by omega) rfl ho.1.1 (by omega) (by omega) ho.2
  | false =>
    rw [if_neg (by simp), if_neg (by simp)]
    by_cases h0 : (numOf l).2 = 0
    · refine (Text_none g l m w h (by omega) h0).mono ?_
      rintro e w' ⟨rfl, rfl⟩
      exact ⟨rfl, h, grown_refl _ _⟩
    · refine (Text_no g l (numOf l).1 (numOf l).2 m w h (by omega) rfl h0 (by omega) ?_).mono ?_
      · simp only [okT, Bool.and_eq_false_iff, decide_eq_false_iff_not] at ho
        omega
      · rintro e w' ⟨rfl, rfl⟩
        exact ⟨rfl, h, grown_refl _ _⟩
theorem Number_r (g : Nat) (l : List UInt8) (w : World) (h : Rd w g (bstr l)) (hl : l.length ≤ 10000000) :
    Calls Tryz.prog 127 #[.pointer (some ⟨g, 0, none⟩)] w fun e w' => e = .returned (.tuple #[.int .u64 (nV l), .bool (okN l)]) ∧ Rd w' g (bstr (nR l)) ∧ w.grownBy w' (some g) := by
  unfold nV nR
  cases ho : okN l with
  | true =>
    simp only [okN, decide_eq_true_eq] at ho
    rw [if_pos rfl, if_pos rfl]
    exact Number_yes g l (numOf l).1 (numOf l).2 w h (by omega) rfl ho
  | false =>
    simp only [okN, decide_eq_false_iff_not, Decidable.not_not] at ho
    rw [if_neg (by simp), if_neg (by simp)]
    refine (Number_no g l w h (by omega) ho).mono ?_
    rintro e w' ⟨rfl, rfl⟩
    exact ⟨rfl, h, grown_refl _ _⟩
theorem okT_txt {m : Nat} {s r : List UInt8} (h : s.length ≤ m) (hm : m ≤ 10000000) : okT m (txt s ++ r) = true ∧ tV m (txt s ++ r) = s ∧ tR m (txt s ++ r) = r := by
  have hn := numOf_uvarint s.length (by omega) (s ++ r)
  have hp := Lib.uvarint_pos s.length
  have e : txt s ++ r = Lib.uvarint s.length ++ (s ++ r) := by simp [txt]
  have ho : okT m (txt s ++ r) = true := by
    unfold okT
    rw [e, hn]
    simp only [Bool.and_eq_true, decide_eq_true_eq, List.length_append]
    omega
  refine ⟨ho, ?_, ?_⟩
  · unfold tV
    rw [ho, if_pos rfl, e, hn]
    simp
  · unfold tR
    rw [ho, if_pos rfl, e, hn]
    simp [← List.drop_drop]
theorem okN_num {x : Nat} {r : List UInt8} (h : x < 18446744073709551616) : okN (Lib.uvarint x ++ r) = true ∧ nV (Lib.uvarint x ++ r) = x ∧ nR (Lib.uvarint x ++ r) = r := by
  have hn := numOf_uvarint x h r
  have hp := Lib.uvarint_pos x
  have ho : okN (Lib.uvarint x ++ r) = true := by
    unfold okN
    rw [hn]
    simp only [decide_eq_true_eq]
    omega
  refine ⟨ho, ?_, ?_⟩
  · unfold nV
    rw [ho, if_pos rfl, hn]
  · unfold nR
    rw [ho, if_pos rfl, hn]
    simp
theorem okT_back {m : Nat} {l : List UInt8} (h : okT m l = true) : l = txt (tV m l) ++ tR m l ∧ (tV m l).length ≤ m := by
  have h' := h
  simp only [okT, Bool.and_eq_true, decide_eq_true_eq] at h'
  obtain ⟨⟨h1, h2⟩, h3⟩ := h'
  obtain ⟨k1, k2, k3, k4, k5⟩ := numOf_back (l := l) (v := (numOf l).1) (n := (numOf l).2) rfl h1
  have hlen : ((l.drop (numOf l).2).take (numOf l).1).length = (numOf l).1 := by rw [List.length_take, List.length_drop]; omega
  unfold tV tR
  rw [h, if_pos rfl, if_pos rfl]
  refine ⟨?_, by rw [hlen]; exact h2⟩
  unfold txt
  rw [hlen, ← k5, List.append_assoc, ← List.drop_drop, List.take_append_drop, List.take_append_drop]
theorem okN_back {l : List UInt8} (h : okN l = true) : l = Lib.uvarint (nV l) ++ nR l ∧ nV l < 18446744073709551616 := by
  have h' := h
  simp only [okN, decide_eq_true_eq] at h'
  obtain ⟨k1, k2, k3, k4, k5⟩ := numOf_back (l := l) (v := (numOf l).1) (n := (numOf l).2) rfl h'
  unfold nV nR
  rw [h, if_pos rfl, if_pos rfl]
  exact ⟨by rw [← k5, List.take_append_drop], k4⟩

end Go.Proofs.YtbdbefgfejdbjaaGreat
