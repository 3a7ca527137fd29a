/-
  The contracts of the reader's methods (Left, Byte, Number, Take, Text), over this seat's translation.
-/
import Derived.Test.YtmgibkglbddlpaaDoorRead
import Derived.Test.YtmgibkglbddlpaaDoorNumber
import Derived.Test.YtmgibkglbddlpaaDoorShelf
import Derived.Laws.EntriesVeiled
namespace Go.Proofs.YtmgibkglbddlpaaDoor
open Go.RowKit

theorem extract_to (l : List UInt8) (n : Nat) : (bstr l).extract 0 n = bstr (l.take n) := by
  apply ByteArray.ext
  simp [bstr]
theorem extract_from (l : List UInt8) (n : Nat) : (bstr l).extract n (bstr l).size = bstr (l.drop n) := by
  apply ByteArray.ext
  rw [size_bstr]
  simp [bstr, List.take_of_length_le]

/-- Behind a store into block g: that block alone has turned. -/
theorem grown_setCell (w : World) (g : Nat) (v : Value) : w.grownBy (w.setCell ⟨g, 0, none⟩ v) (some g) :=
  ⟨rfl, rfl, rfl, by simp [World.setCell], fun k _ hk => Below.heap_setCell _ _ _ _ (fun e => hk (by rw [e]))⟩
theorem grown_trans {a b c : World} {g : Nat} (h : a.grownBy b (some g)) (k : b.grownBy c (some g)) : a.grownBy c (some g) :=
  ⟨k.os.trans h.os, k.tape.trans h.tape, k.output.trans h.output, Nat.le_trans h.size k.size, fun i hi hne => (k.block i (Nat.lt_of_lt_of_le hi h.size) hne).trans (h.block i hi hne)⟩
theorem grown_of_below {a b : World} {g : Nat} (h : Below a.heap.size a b) : a.grownBy b (some g) := ⟨h.os, h.tape, h.output, h.size, fun i hi _ => h.block i hi⟩
theorem grown_refl (w : World) (g : Nat) : w.grownBy w (some g) := ⟨rfl, rfl, rfl, Nat.le_refl _, fun _ _ _ => rfl⟩

set_option maxHeartbeats 400000 in
theorem Left_any (g : Nat) (l : List UInt8) (w : World) (h : Rd w g (bstr l)) :
    Calls Tryd.prog 21 #[.pointer (some ⟨g, 0, none⟩)] w fun e w' => e = .returned (.int .i64 l.length) ∧ w' = w := by
  go_enter Tryd.func21, Tryd.ntmps21
  go_wp2_with fail
  refine (open_any g _ _ h).mono ?_
  rintro e w1 ⟨rfl, rfl⟩
  go_wp2
  go_ret
  exact ⟨by rw [← size_bstr]; rfl, rfl⟩

set_option maxHeartbeats 400000 in
theorem Left_nil (w : World) :
    Calls Tryd.prog 21 #[.pointer none] w fun e w' => e = .returned (.int .i64 0) ∧ w' = w := by
  go_enter Tryd.func21, Tryd.ntmps21
  go_wp2_with fail
  refine (open_nil _).mono ?_
  rintro e w1 ⟨rfl, rfl⟩
  go_wp2
  go_ret
  exact ⟨rfl, rfl⟩

set_option maxHeartbeats 400000 in
theorem Number_no (g : Nat) (l : List UInt8) (w : World) (h : Rd w g (bstr l)) (hl : l.length ≤ 10000000000) (hn : (numOf l).2 = 0) :
    Calls Tryd.prog 19 #[.pointer (some ⟨g, 0, none⟩)] w fun e w' => e = .returned (.tuple #[.int .u64 0, .bool false]) ∧ w' = w := by
  go_enter Tryd.func19, Tryd.ntmps19
  go_wp2_with fail
  refine (open_any g _ _ h).mono ?_
  rintro e w1 ⟨rfl, rfl⟩
  go_wp2_with fail
  refine (number_any (bstr l) _ (by rw [size_bstr]; unfold maxLen; omega)).mono ?_
  rintro e w1 ⟨rfl, rfl⟩
  rw [data_bstr, hn]
  go_wp2
  go_ret2
  exact ⟨rfl, rfl⟩

set_option maxHeartbeats 400000 in
theorem Number_yes (g : Nat) (l : List UInt8) (v n : Nat) (w : World) (h : Rd w g (bstr l)) (hl : l.length ≤ 10000000000) (hn : numOf l = (v, n)) (h0 : n ≠ 0) :
    Calls Tryd.prog 19 #[.pointer (some ⟨g, 0, none⟩)] w fun e w' => e = .returned (.tuple #[.int .u64 v, .bool true]) ∧ Rd w' g (bstr (l.drop n)) ∧ w.grownBy w' (some g) := by
  obtain ⟨h1, h10, hnl, hv, ht⟩ := numOf_back hn h0
  have HN : Hid (numOf l = (v, n)) := hn
  have hb : ((n : Int) == 0) = false := by simp; omega
  clear ht hn
  go_enter Tryd.func19, Tryd.ntmps19
  go_wp2_with fail
  refine (open_any g _ _ h).mono ?_
  rintro e w1 ⟨rfl, rfl⟩
  go_wp2_with fail
  refine (number_any (bstr l) _ (by rw [size_bstr]; unfold maxLen; omega)).mono ?_
  rintro e w1 ⟨rfl, rfl⟩
  rw [data_bstr, HN.out]
  go_wp2_with fail
  refine (cut_any g _ n _ h (by rw [size_bstr]; exact hnl)).mono ?_
  rintro e w2 ⟨rfl, rfl⟩
  go_wp2
  go_ret2
  exact ⟨rfl, by rw [← extract_from]; exact h.set _, grown_setCell _ _ _⟩

set_option maxHeartbeats 400000 in
theorem Number_nil (w : World) :
    Calls Tryd.prog 19 #[.pointer none] w fun e w' => e = .returned (.tuple #[.int .u64 0, .bool false]) ∧ w' = w := by
  go_enter Tryd.func19, Tryd.ntmps19
  go_wp2_with fail
  refine (open_nil _).mono ?_
  rintro e w1 ⟨rfl, rfl⟩
  go_wp2_with fail
  refine (number_any ⟨#[]⟩ _ (by decide)).mono ?_
  rintro e w1 ⟨rfl, rfl⟩
  go_wp2
  go_ret2
  exact ⟨rfl, rfl⟩

set_option maxHeartbeats 400000 in
/-- strings.Clone: the same bytes; of what was there nothing has turned. -/
theorem Clone_any (l : List UInt8) (w : World) (hl : l.length ≤ 10000000000) :
    Calls Tryd.prog 34 #[.string (bstr l)] w fun e w' => e = .returned (.string (bstr l)) ∧ Below w.heap.size w w' := by
  go_enter Tryd.func34, Tryd.ntmps34
  go_wp2_with fail
  refine (Tryd.stringslite_Clone (bstr l) _ (by rw [size_bstr]; omega)).mono ?_
  rintro e w1 ⟨rfl, hb⟩
  go_wp2
  go_ret
  exact ⟨rfl, hb⟩

theorem eql_func (g : Nat) (w : World) : (binOp .eql 28 (.func (.func 51) #[.pointer (some ⟨g, 0, none⟩)] #[]) .nilFunc).run Tryd.prog w = .ok (.bool false) w := by kernel_rfl
theorem eql_nilFunc (w : World) : (binOp .eql 28 .nilFunc .nilFunc).run Tryd.prog w = .ok (.bool true) w := by kernel_rfl

set_option maxHeartbeats 400000 in
theorem Take_no (g : Nat) (l : List UInt8) (n : Int) (w : World) (h : Rd w g (bstr l)) (hn : n < 0 ∨ (l.length : Int) < n) :
    Calls Tryd.prog 20 #[.pointer (some ⟨g, 0, none⟩), .int .i64 n] w fun e w' => e = .returned (.tuple #[.string ⟨#[]⟩, .bool false]) ∧ w' = w := by
  have hsz := size_bstr l
  rw [← hsz] at hn
  clear hsz
  have hf := eql_func g
  go_enter Tryd.func20, Tryd.ntmps20
  go_wp2_with fail
  refine (open_any g _ _ h).mono ?_
  rintro e w1 ⟨rfl, rfl⟩
  by_cases h0 : n < 0
  · go_wp2
    go_ret2
    exact ⟨rfl, rfl⟩
  · have h1 : ((bstr l).size : Int) < n := by omega
    go_wp2
    go_ret2
    exact ⟨rfl, rfl⟩

set_option maxHeartbeats 400000 in
theorem Take_nil (n : Int) (w : World) :
    Calls Tryd.prog 20 #[.pointer none, .int .i64 n] w fun e w' => e = .returned (.tuple #[.string ⟨#[]⟩, .bool false]) ∧ w' = w := by
  have hf := eql_nilFunc
  go_enter Tryd.func20, Tryd.ntmps20
  go_wp2_with fail
  refine (open_nil _).mono ?_
  rintro e w1 ⟨rfl, rfl⟩
  go_wp2
  go_ret2
  exact ⟨rfl, rfl⟩

set_option maxHeartbeats 400000 in
theorem Take_yes (g : Nat) (l : List UInt8) (n : Nat) (w : World) (h : Rd w g (bstr l)) (hl : l.length ≤ 10000000000) (hn : n ≤ l.length) :
    Calls Tryd.prog 20 #[.pointer (some ⟨g, 0, none⟩), .int .i64 n] w fun e w' => e = .returned (.tuple #[.string (bstr (l.take n)), .bool true]) ∧ Rd w' g (bstr (l.drop n)) ∧ w.grownBy w' (some g) := by
  have hsz : (n : Int) ≤ ((bstr l).size : Int) := by rw [size_bstr]; omega
  have hlt : (l.take n).length ≤ n := List.length_take_le _ _
  have hg := h.lt
  have hf := eql_func g
  go_enter Tryd.func20, Tryd.ntmps20
  go_wp2_with fail
  refine (open_any g _ _ h).mono ?_
  rintro e w1 ⟨rfl, rfl⟩
  go_wp2_with fail
  refine (cut_any g _ n _ h (by rw [size_bstr]; exact hn)).mono ?_
  rintro e w2 ⟨rfl, rfl⟩
  rw [extract_to]
  go_wp2_with fail
  refine (Clone_any _ _ (by omega)).mono ?_
  rintro e w3 ⟨rfl, hb⟩
  go_wp2
  go_ret2
  refine ⟨rfl, ?_, grown_trans (grown_setCell _ _ _) (grown_of_below hb)⟩
  rw [← extract_from]
  exact (h.set _).below hb (by simpa using hg)

set_option maxHeartbeats 400000 in
theorem Text_none (g : Nat) (l : List UInt8) (m : Int) (w : World) (h : Rd w g (bstr l)) (hl : l.length ≤ 10000000000) (hn : (numOf l).2 = 0) :
    Calls Tryd.prog 72 #[.pointer (some ⟨g, 0, none⟩), .int .i64 m] w fun e w' => e = .returned (.tuple #[.string ⟨#[]⟩, .bool false]) ∧ w' = w := by
  go_enter Tryd.func72, Tryd.ntmps72
  go_wp2_with fail
  refine (open_any g _ _ h).mono ?_
  rintro e w1 ⟨rfl, rfl⟩
  go_wp2_with fail
  refine (number_any (bstr l) _ (by rw [size_bstr]; unfold maxLen; omega)).mono ?_
  rintro e w1 ⟨rfl, rfl⟩
  rw [data_bstr, hn]
  go_wp2
  go_ret2
  exact ⟨rfl, rfl⟩

set_option maxHeartbeats 1000000 in
theorem Text_no (g : Nat) (l : List UInt8) (v n : Nat) (m : Int) (w : World) (h : Rd w g (bstr l)) (hl : l.length ≤ 10000000000) (hn : numOf l = (v, n)) (h0 : n ≠ 0) (hm : m ≤ 9223372036854775807) (hno : m < 0 ∨ m < v ∨ l.length < n + v) :
    Calls Tryd.prog 72 #[.pointer (some ⟨g, 0, none⟩), .int .i64 m] w fun e w' => e = .returned (.tuple #[.string ⟨#[]⟩, .bool false]) ∧ w' = w := by
  obtain ⟨h1, h10, hnl, hv, ht⟩ := numOf_back hn h0
  have HN : Hid (numOf l = (v, n)) := hn
  have hb : ((n : Int) == 0) = false := by simp; omega
  have hsz : ((bstr l).size : Int) = l.length := by rw [size_bstr]
  have hno' : m < 0 ∨ m < v ∨ ((bstr l).size : Int) - n < v := by omega
  have hnl' : (n : Int) ≤ ((bstr l).size : Int) := by omega
  have hl' : ((bstr l).size : Int) ≤ 10000000000 := by omega
  clear ht hn hsz hno
  go_enter Tryd.func72, Tryd.ntmps72
  go_wp2_with fail
  refine (open_any g _ _ h).mono ?_
  rintro e w1 ⟨rfl, rfl⟩
  go_wp2_with fail
  refine (number_any (bstr l) _ (by rw [size_bstr]; unfold maxLen; omega)).mono ?_
  rintro e w1 ⟨rfl, rfl⟩
  rw [data_bstr, HN.out]
  by_cases c1 : m < 0
  · go_wp2
    go_ret2
    exact ⟨rfl, rfl⟩
  · by_cases c2 : m < v
    · go_wp2
      go_ret2
      exact ⟨rfl, rfl⟩
    · have c3 : ((bstr l).size : Int) - n < v := by omega
      go_wp2
      go_ret2
      exact ⟨rfl, rfl⟩

set_option maxHeartbeats 1000000 in
theorem Text_yes (g : Nat) (l : List UInt8) (v n : Nat) (m : Int) (w : World) (h : Rd w g (bstr l)) (hl : l.length ≤ 10000000000) (hn : numOf l = (v, n)) (h0 : n ≠ 0) (hm : m ≤ 9223372036854775807) (hvm : (v : Int) ≤ m) (hvl : n + v ≤ l.length) :
    Calls Tryd.prog 72 #[.pointer (some ⟨g, 0, none⟩), .int .i64 m] w fun e w' => e = .returned (.tuple #[.string (bstr ((l.drop n).take v)), .bool true]) ∧ Rd w' g (bstr (l.drop (n + v))) ∧ w.grownBy w' (some g) := by
  obtain ⟨h1, h10, hnl, hv, ht⟩ := numOf_back hn h0
  have HN : Hid (numOf l = (v, n)) := hn
  have hb : ((n : Int) == 0) = false := by simp; omega
  have hsz : ((bstr l).size : Int) = l.length := by rw [size_bstr]
  have hvl' : (v : Int) ≤ ((bstr l).size : Int) - n := by omega
  have hnl' : (n : Int) ≤ ((bstr l).size : Int) := by omega
  have hl' : ((bstr l).size : Int) ≤ 10000000000 := by omega
  have hg := h.lt
  have htk : ((l.drop n).take v).length ≤ 10000000000 := by have := List.length_take_le v (l.drop n); omega
  clear ht hn hsz
  go_enter Tryd.func72, Tryd.ntmps72
  go_wp2_with fail
  refine (open_any g _ _ h).mono ?_
  rintro e w1 ⟨rfl, rfl⟩
  go_wp2_with fail
  refine (number_any (bstr l) _ (by rw [size_bstr]; unfold maxLen; omega)).mono ?_
  rintro e w1 ⟨rfl, rfl⟩
  rw [data_bstr, HN.out]
  go_wp2_with fail
  refine (cut_any g _ n _ h (by rw [size_bstr]; exact hnl)).mono ?_
  rintro e w2 ⟨rfl, rfl⟩
  have h2 := h.set ((bstr l).extract n (bstr l).size)
  rw [extract_from] at h2
  rw [extract_from, extract_to]
  go_wp2_with fail
  refine (cut_any g _ v _ h2 (by rw [size_bstr, List.length_drop]; omega)).mono ?_
  rintro e w3 ⟨rfl, rfl⟩
  have h3 := h2.set ((bstr (l.drop n)).extract v (bstr (l.drop n)).size)
  rw [extract_from] at h3
  rw [extract_from, extract_to]
  go_wp2_with fail
  refine (Clone_any _ _ htk).mono ?_
  rintro e w4 ⟨rfl, hb4⟩
  go_wp2
  go_ret2
  refine ⟨rfl, ?_, grown_trans (grown_setCell _ _ _) (grown_trans (grown_setCell _ _ _) (grown_of_below hb4))⟩
  rw [List.drop_drop] at h3
  exact h3.below hb4 (by simpa using hg)

end Go.Proofs.YtmgibkglbddlpaaDoor
