/-
  The contracts of the reader's methods (Left, Byte, Number, Take, Text), over this seat's translation.
  A list of cells read from bytes, as lists; the reader's methods in that form.
  The contract of cells.take: one cell read from a reader.
-/
import Derived.Test.YtmpnofbhbglfpaaGreatDoorRead
import Derived.Test.YtmpnofbhbglfpaaGreatDoorGNumber
import Derived.Test.YtmpnofbhbglfpaaGreatDoorShelf
import Derived.Laws.EntriesVeiled
import Derived.Test.YtmpnofbhbglfpaaGreatDoorGCEnc
import Derived.Laws.ResultCell
namespace Go.Proofs.YtmpnofbhbglfpaaGreatDoor
open Go.RowKit

theorem extract_to (l : List UInt8) (n : Nat) : (bstr l).extract 0 n = bstr (l.take n) := by
  apply ByteArray.ext
  simp [bstr]
theorem extract_from (l : List UInt8) (n : Nat) : (bstr l).extract n (bstr l).size = bstr (l.drop n) := by
  apply ByteArray.ext
  rw [size_bstr]
  simp [bstr, List.take_of_length_le]

/-- Behind a store into block g: that block alone has turned. -/
theorem grown_setCell (w : World) (g : Nat) (v : Value) : w.grownBy (w.setCell ⟨g, 0, none⟩ v) (some g) :=
  ⟨rfl, rfl, rfl, by simp [World.setCell], fun k _ hk => Below.heap_setCell _ _ _ _ (fun e => hk (by rw [e]))⟩
theorem grown_trans {a b c : World} {g : Nat} (h : a.grownBy b (some g)) (k : b.grownBy c (some g)) : a.grownBy c (some g) :=
  ⟨k.os.trans h.os, k.tape.trans h.tape, k.output.trans h.output, Nat.le_trans h.size k.size, fun i hi hne => (k.block i (Nat.lt_of_lt_of_le hi h.size) hne).trans (h.block i hi hne)⟩
theorem grown_of_below {a b : World} {g : Nat} (h : Below a.heap.size a b) : a.grownBy b (some g) := ⟨h.os, h.tape, h.output, h.size, fun i hi _ => h.block i hi⟩
theorem grown_refl (w : World) (g : Nat) : w.grownBy w (some g) := ⟨rfl, rfl, rfl, Nat.le_refl _, fun _ _ _ => rfl⟩

set_option maxHeartbeats 400000 in
theorem Left_any (g : Nat) (l : List UInt8) (w : World) (h : Rd w g (bstr l)) :
    Calls Tryz.prog 118 #[.pointer (some ⟨g, 0, none⟩)] w fun e w' => e = .returned (.int .i64 l.length) ∧ w' = w := by
  go_enter Tryz.func118, Tryz.ntmps118
  go_wp2_with fail
  refine (open_any g _ _ h).mono ?_
  rintro e w1 ⟨rfl, rfl⟩
  go_wp2
  go_ret
  exact ⟨by rw [← size_bstr]; rfl, rfl⟩

set_option maxHeartbeats 400000 in
theorem Left_nil (w : World) :
    Calls Tryz.prog 118 #[.pointer none] w fun e w' => e = .returned (.int .i64 0) ∧ w' = w := by
  go_enter Tryz.func118, Tryz.ntmps118
  go_wp2_with fail
  refine (open_nil _).mono ?_
  rintro e w1 ⟨rfl, rfl⟩
  go_wp2
  go_ret
  exact ⟨rfl, rfl⟩

set_option maxHeartbeats 400000 in
theorem Number_no (g : Nat) (l : List UInt8) (w : World) (h : Rd w g (bstr l)) (hl : l.length ≤ 10000000000) (hn : (numOf l).2 = 0) :
    Calls Tryz.prog 140 #[.pointer (some ⟨g, 0, none⟩)] w fun e w' => e = .returned (.tuple #[.int .u64 0, .bool false]) ∧ w' = w := by
  go_enter Tryz.func140, Tryz.ntmps140
  go_wp2_with fail
  refine (open_any g _ _ h).mono ?_
  rintro e w1 ⟨rfl, rfl⟩
  go_wp2_with fail
  refine (number_any (bstr l) _ (by rw [size_bstr]; unfold maxLen; omega)).mono ?_
  rintro e w1 ⟨rfl, rfl⟩
  rw [data_bstr, hn]
  go_wp2
  go_ret2
  exact ⟨rfl, rfl⟩

set_option maxHeartbeats 400000 in
theorem Number_yes (g : Nat) (l : List UInt8) (v n : Nat) (w : World) (h : Rd w g (bstr l)) (hl : l.length ≤ 10000000000) (hn : numOf l = (v, n)) (h0 : n ≠ 0) :
    Calls Tryz.prog 140 #[.pointer (some ⟨g, 0, none⟩)] w fun e w' => e = .returned (.tuple #[.int .u64 v, .bool true]) ∧ Rd w' g (bstr (l.drop n)) ∧ w.grownBy w' (some g) := by
  obtain ⟨h1, h10, hnl, hv, ht⟩ := numOf_back hn h0
  have HN : Hid (numOf l = (v, n)) := hn
  have hb : ((n : Int) == 0) = false := by simp; omega
  clear ht hn
  go_enter Tryz.func140, Tryz.ntmps140
  go_wp2_with fail
  refine (open_any g _ _ h).mono ?_
  rintro e w1 ⟨rfl, rfl⟩
  go_wp2_with fail
  refine (number_any (bstr l) _ (by rw [size_bstr]; unfold maxLen; omega)).mono ?_
  rintro e w1 ⟨rfl, rfl⟩
  rw [data_bstr, HN.out]
  go_wp2_with fail
  refine (cut_any g _ n _ h (by rw [size_bstr]; exact hnl)).mono ?_
  rintro e w2 ⟨rfl, rfl⟩
  go_wp2
  go_ret2
  exact ⟨rfl, by rw [← extract_from]; exact h.set _, grown_setCell _ _ _⟩

set_option maxHeartbeats 400000 in
theorem Number_nil (w : World) :
    Calls Tryz.prog 140 #[.pointer none] w fun e w' => e = .returned (.tuple #[.int .u64 0, .bool false]) ∧ w' = w := by
  go_enter Tryz.func140, Tryz.ntmps140
  go_wp2_with fail
  refine (open_nil _).mono ?_
  rintro e w1 ⟨rfl, rfl⟩
  go_wp2_with fail
  refine (number_any ⟨#[]⟩ _ (by decide)).mono ?_
  rintro e w1 ⟨rfl, rfl⟩
  go_wp2
  go_ret2
  exact ⟨rfl, rfl⟩

set_option maxHeartbeats 400000 in
/-- strings.Clone: the same bytes; of what was there nothing has turned. -/
theorem Clone_any (l : List UInt8) (w : World) (hl : l.length ≤ 10000000000) :
    Calls Tryz.prog 39 #[.string (bstr l)] w fun e w' => e = .returned (.string (bstr l)) ∧ Below w.heap.size w w' := by
  go_enter Tryz.func39, Tryz.ntmps39
  go_wp2_with fail
  refine (Tryz.stringslite_Clone (bstr l) _ (by rw [size_bstr]; omega)).mono ?_
  rintro e w1 ⟨rfl, hb⟩
  go_wp2
  go_ret
  exact ⟨rfl, hb⟩

set_option maxHeartbeats 400000 in
theorem Byte_none (g : Nat) (w : World) (h : Rd w g (bstr [])) :
    Calls Tryz.prog 143 #[.pointer (some ⟨g, 0, none⟩)] w fun e w' => e = .returned (.tuple #[.int .u8 0, .bool false]) ∧ w' = w := by
  have hz : (bstr []).toList.isEmpty = true := by rw [toList_bstr]; rfl
  go_enter Tryz.func143, Tryz.ntmps143
  go_wp2_with fail
  refine (open_any g _ _ h).mono ?_
  rintro e w1 ⟨rfl, rfl⟩
  go_wp2
  go_ret2
  exact ⟨rfl, rfl⟩

theorem eql_func (g : Nat) (w : World) : (binOp .eql 111 (.func (.func 149) #[.pointer (some ⟨g, 0, none⟩)] #[]) .nilFunc).run Tryz.prog w = .ok (.bool false) w := by kernel_rfl
theorem eql_nilFunc (w : World) : (binOp .eql 111 .nilFunc .nilFunc).run Tryz.prog w = .ok (.bool true) w := by kernel_rfl

set_option maxHeartbeats 400000 in
theorem Text_none (g : Nat) (l : List UInt8) (m : Int) (w : World) (h : Rd w g (bstr l)) (hl : l.length ≤ 10000000000) (hn : (numOf l).2 = 0) :
    Calls Tryz.prog 142 #[.pointer (some ⟨g, 0, none⟩), .int .i64 m] w fun e w' => e = .returned (.tuple #[.string ⟨#[]⟩, .bool false]) ∧ w' = w := by
  go_enter Tryz.func142, Tryz.ntmps142
  go_wp2_with fail
  refine (open_any g _ _ h).mono ?_
  rintro e w1 ⟨rfl, rfl⟩
  go_wp2_with fail
  refine (number_any (bstr l) _ (by rw [size_bstr]; unfold maxLen; omega)).mono ?_
  rintro e w1 ⟨rfl, rfl⟩
  rw [data_bstr, hn]
  go_wp2
  go_ret2
  exact ⟨rfl, rfl⟩

set_option maxHeartbeats 1000000 in
theorem Text_no (g : Nat) (l : List UInt8) (v n : Nat) (m : Int) (w : World) (h : Rd w g (bstr l)) (hl : l.length ≤ 10000000000) (hn : numOf l = (v, n)) (h0 : n ≠ 0) (hm : m ≤ 9223372036854775807) (hno : m < 0 ∨ m < v ∨ l.length < n + v) :
    Calls Tryz.prog 142 #[.pointer (some ⟨g, 0, none⟩), .int .i64 m] w fun e w' => e = .returned (.tuple #[.string ⟨#[]⟩, .bool false]) ∧ w' = w := by
  obtain ⟨h1, h10, hnl, hv, ht⟩ := numOf_back hn h0
  have HN : Hid (numOf l = (v, n)) := hn
  have hb : ((n : Int) == 0) = false := by simp; omega
  have hsz : ((bstr l).size : Int) = l.length := by rw [size_bstr]
  have hno' : m < 0 ∨ m < v ∨ ((bstr l).size : Int) - n < v := by omega
  have hnl' : (n : Int) ≤ ((bstr l).size : Int) := by omega
  have hl' : ((bstr l).size : Int) ≤ 10000000000 := by omega
  clear ht hn hsz hno
  go_enter Tryz.func142, Tryz.ntmps142
  go_wp2_with fail
  refine (open_any g _ _ h).mono ?_
  rintro e w1 ⟨rfl, rfl⟩
  go_wp2_with fail
  refine (number_any (bstr l) _ (by rw [size_bstr]; unfold maxLen; omega)).mono ?_
  rintro e w1 ⟨rfl, rfl⟩
  rw [data_bstr, HN.out]
  by_cases c1 : m < 0
  · go_wp2
    go_ret2
    exact ⟨rfl, rfl⟩
  · by_cases c2 : m < v
    · go_wp2
      go_ret2
      exact ⟨rfl, rfl⟩
    · have c3 : ((bstr l).size : Int) - n < v := by omega
      go_wp2
      go_ret2
      exact ⟨rfl, rfl⟩

set_option maxHeartbeats 1000000 in
theorem Text_yes (g : Nat) (l : List UInt8) (v n : Nat) (m : Int) (w : World) (h : Rd w g (bstr l)) (hl : l.length ≤ 10000000000) (hn : numOf l = (v, n)) (h0 : n ≠ 0) (hm : m ≤ 9223372036854775807) (hvm : (v : Int) ≤ m) (hvl : n + v ≤ l.length) :
    Calls Tryz.prog 142 #[.pointer (some ⟨g, 0, none⟩), .int .i64 m] w fun e w' => e = .returned (.tuple #[.string (bstr ((l.drop n).take v)), .bool true]) ∧ Rd w' g (bstr (l.drop (n + v))) ∧ w.grownBy w' (some g) := by
  obtain ⟨h1, h10, hnl, hv, ht⟩ := numOf_back hn h0
  have HN : Hid (numOf l = (v, n)) := hn
  have hb : ((n : Int) == 0) = false := by simp; omega
  have hsz : ((bstr l).size : Int) = l.length := by rw [size_bstr]
  have hvl' : (v : Int) ≤ ((bstr l).size : Int) - n := by omega
  have hnl' : (n : Int) ≤ ((bstr l).size : Int) := by omega
  have hl' : ((bstr l).size : Int) ≤ 10000000000 := by omega
  have hg := h.lt
  have htk : ((l.drop n).take v).length ≤ 10000000000 := by have := List.length_take_le v (l.drop n); omega
  clear ht hn hsz
  go_enter Tryz.func142, Tryz.ntmps142
  go_wp2_with fail
  refine (open_any g _ _ h).mono ?_
  rintro e w1 ⟨rfl, rfl⟩
  go_wp2_with fail
  refine (number_any (bstr l) _ (by rw [size_bstr]; unfold maxLen; omega)).mono ?_
  rintro e w1 ⟨rfl, rfl⟩
  rw [data_bstr, HN.out]
  go_wp2_with fail
  refine (cut_any g _ n _ h (by rw [size_bstr]; exact hnl)).mono ?_
  rintro e w2 ⟨rfl, rfl⟩
  have h2 := h.set ((bstr l).extract n (bstr l).size)
  rw [extract_from] at h2
  rw [extract_from, extract_to]
  go_wp2_with fail
  refine (cut_any g _ v _ h2 (by rw [size_bstr, List.length_drop]; omega)).mono ?_
  rintro e w3 ⟨rfl, rfl⟩
  have h3 := h2.set ((bstr (l.drop n)).extract v (bstr (l.drop n)).size)
  rw [extract_from] at h3
  rw [extract_from, extract_to]
  go_wp2_with fail
  refine (Clone_any _ _ htk).mono ?_
  rintro e w4 ⟨rfl, hb4⟩
  go_wp2
  go_ret2
  refine ⟨rfl, ?_, grown_trans (grown_setCell _ _ _) (grown_trans (grown_setCell _ _ _) (grown_of_below hb4))⟩
  rw [List.drop_drop] at h3
  exact h3.below hb4 (by simpa using hg)

end Go.Proofs.YtmpnofbhbglfpaaGreatDoor

namespace Go.Proofs.YtmpnofbhbglfpaaGreatDoor
open Go.RowKit Go.BigFrame Go.Sort
attribute [local go_sem] size_bstr toList_bstr ls_def

def okT (m : Nat) (l : List UInt8) : Bool := decide ((numOf l).2 ≠ 0) && decide ((numOf l).1 ≤ m) && decide ((numOf l).2 + (numOf l).1 ≤ l.length)
/-- A text read: it, whether there was one, what is left. -/
def tV (m : Nat) (l : List UInt8) : List UInt8 := if okT m l then (l.drop (numOf l).2).take (numOf l).1 else []
def tR (m : Nat) (l : List UInt8) : List UInt8 := if okT m l then l.drop ((numOf l).2 + (numOf l).1) else l
/-- A number; a byte. -/
def okN (l : List UInt8) : Bool := decide ((numOf l).2 ≠ 0)
def nV (l : List UInt8) : Nat := if okN l then (numOf l).1 else 0
def nR (l : List UInt8) : List UInt8 := if okN l then l.drop (numOf l).2 else l
def okB : List UInt8 → Bool
  | [] => false
  | _ :: _ => true
def bV : List UInt8 → UInt8
  | [] => 0
  | x :: _ => x
def bR : List UInt8 → List UInt8
  | [] => []
  | _ :: l => l

theorem Text_r (g m : Nat) (l : List UInt8) (w : World) (h : Rd w g (bstr l)) (hl : l.length ≤ 10000000) (hm : m ≤ 10000000) :
    Calls Tryz.prog 142 #[.pointer (some ⟨g, 0, none⟩), .int .i64 m] w fun e w' => e = .returned (.tuple #[.string (bstr (tV m l)), .bool (okT m l)]) ∧ Rd w' g (bstr (tR m l)) ∧ w.grownBy w' (some g) := by
  unfold tV tR
  cases ho : okT m l with
  | true =>
    simp only [okT, Bool.and_eq_true, decide_eq_true_eq] at ho
    rw [if_pos rfl, if_pos rfl]
    exact Text_yes g l (numOf l).1 (numOf l).2 m w h (by omega) rfl ho.1.1 (by omega) (by omega) ho.2
  | false =>
    rw [if_neg (by simp), if_neg (by simp)]
    by_cases h0 : (numOf l).2 = 0
    · refine (Text_none g l m w h (by omega) h0).mono ?_
      rintro e w' ⟨rfl, rfl⟩
      exact ⟨rfl, h, grown_refl _ _⟩
    · refine (Text_no g l (numOf l).1 (numOf l).2 m w h (by omega) rfl h0 (by omega) ?_).mono ?_
      · simp only [okT, Bool.and_eq_false_iff, decide_eq_false_iff_not] at ho
        omega
      · rintro e w' ⟨rfl, rfl⟩
        exact ⟨rfl, h, grown_refl _ _⟩
theorem Number_r (g : Nat) (l : List UInt8) (w : World) (h : Rd w g (bstr l)) (hl : l.length ≤ 10000000) :
    Calls Tryz.prog 140 #[.pointer (some ⟨g, 0, none⟩)] w fun e w' => e = .returned (.tuple #[.int .u64 (nV l), .bool (okN l)]) ∧ Rd w' g (bstr (nR l)) ∧ w.grownBy w' (some g) := by
  unfold nV nR
  cases ho : okN l with
  | true =>
    simp only [okN, decide_eq_true_eq] at ho
    rw [if_pos rfl, if_pos rfl]
    exact Number_yes g l (numOf l).1 (numOf l).2 w h (by omega) rfl ho
  | false =>
    simp only [okN, decide_eq_false_iff_not, Decidable.not_not] at ho
    rw [if_neg (by simp), if_neg (by simp)]
    refine (Number_no g l w h (by omega) ho).mono ?_
    rintro e w' ⟨rfl, rfl⟩
    exact ⟨rfl, h, grown_refl _ _⟩

set_option maxHeartbeats 1000000 in
theorem Byte_some (g : Nat) (x : UInt8) (l : List UInt8) (w : World) (h : Rd w g (bstr (x :: l))) :
    Calls Tryz.prog 143 #[.pointer (some ⟨g, 0, none⟩)] w fun e w' => e = .returned (.tuple #[.int .u8 (x.toNat : Int), .bool true]) ∧ Rd w' g (bstr l) ∧ w.grownBy w' (some g) := by
  go_enter Tryz.func143, Tryz.ntmps143
  go_wp2_with fail
  refine (open_any g _ _ h).mono ?_
  rintro e w1 ⟨rfl, rfl⟩
  go_wp2_with fail
  refine (cut_any g _ 1 _ h (by rw [size_bstr]; simp)).mono ?_
  rintro e w2 ⟨rfl, rfl⟩
  have h2 := h.set ((bstr (x :: l)).extract 1 (bstr (x :: l)).size)
  rw [extract_from] at h2
  rw [extract_from, extract_to]
  have e1 : (x :: l).take 1 = [x] := rfl
  have e2 : (x :: l).drop 1 = l := rfl
  rw [e1, e2]
  rw [e2] at h2
  go_wp2
  go_ret2
  exact ⟨rfl, h2, grown_setCell _ _ _⟩
theorem Byte_r (g : Nat) (l : List UInt8) (w : World) (h : Rd w g (bstr l)) :
    Calls Tryz.prog 143 #[.pointer (some ⟨g, 0, none⟩)] w fun e w' => e = .returned (.tuple #[.int .u8 ((bV l).toNat : Int), .bool (okB l)]) ∧ Rd w' g (bstr (bR l)) ∧ w.grownBy w' (some g) := by
  cases l with
  | nil =>
    refine (Byte_none g w h).mono ?_
    rintro e w' ⟨rfl, rfl⟩
    exact ⟨rfl, h, grown_refl _ _⟩
  | cons x l => exact Byte_some g x l w h

end Go.Proofs.YtmpnofbhbglfpaaGreatDoor

namespace Go.Proofs.YtmpnofbhbglfpaaGreatDoor
open Go.RowKit Go.BigFrame Go.Sort
attribute [local go_sem] size_bstr toList_bstr ls_def

def l1 (l : List UInt8) : List UInt8 := tR 65536 l
def l2 (l : List UInt8) : List UInt8 := tR 65536 (l1 l)
def l3 (l : List UInt8) : List UInt8 := nR (l2 l)
def l4 (l : List UInt8) : List UInt8 := bR (l3 l)
/-- What is left behind a cell. -/
def l5 (l : List UInt8) : List UInt8 := tR 65536 (l4 l)
/-- The cell with which bytes begin. -/
def cellOf (l : List UInt8) : Cl := ⟨tV 65536 l, tV 65536 (l1 l), (nV (l2 l) : Int), bV (l3 l) == 1, tV 65536 (l4 l)⟩
def takeOk (l : List UInt8) : Bool := okT 65536 l && okT 65536 (l1 l) && okN (l2 l) && okB (l3 l) && okT 65536 (l4 l) && decide ((bV (l3 l)).toNat ≤ 1) && okC (cellOf l)
theorem tR_len (m : Nat) (l : List UInt8) : (tR m l).length ≤ l.length := by unfold tR; split <;> simp
theorem nR_len (l : List UInt8) : (nR l).length ≤ l.length := by unfold nR; split <;> simp
theorem bR_len (l : List UInt8) : (bR l).length ≤ l.length := by cases l <;> simp [bR]

/-- The block of an answer that is a cell, untouched. -/
def Rz (W : World) (n : Nat) : Prop := W.heap[n]? = some (.cells #[.string ⟨#[]⟩, .string ⟨#[]⟩, .int .u64 0, .bool false, .string ⟨#[]⟩] 39 (0, 0))
theorem Rz.facts {W : World} {n : Nat} (h : Rz W n) : W.cell? ⟨n, 0, none⟩ = some (.string ⟨#[]⟩) ∧ W.cell? ⟨n, 1, none⟩ = some (.string ⟨#[]⟩) ∧ W.cell? ⟨n, 2, none⟩ = some (.int .u64 0) ∧ W.cell? ⟨n, 3, none⟩ = some (.bool false) ∧ W.cell? ⟨n, 4, none⟩ = some (.string ⟨#[]⟩) ∧
    W.frozen? ⟨n, 0, none⟩ = false ∧ W.frozen? ⟨n, 1, none⟩ = false ∧ W.frozen? ⟨n, 2, none⟩ = false ∧ W.frozen? ⟨n, 3, none⟩ = false ∧ W.frozen? ⟨n, 4, none⟩ = false := by
  unfold Rz at h
  refine ⟨?_, ?_, ?_, ?_, ?_, ?_, ?_, ?_, ?_, ?_⟩ <;> simp [World.cell?, World.frozen?, h]
theorem Rz.lt {W : World} {n : Nat} (h : Rz W n) : n < W.heap.size := lt_of_block h
theorem Rz.grown {W W' : World} {n g : Nat} (h : Rz W n) (hg : W.grownBy W' (some g)) (hne : g ≠ n) : Rz W' n := (hg.block n h.lt (fun e => hne (by cases e; rfl))).trans h
theorem Rz.step {W W' : World} {n : Nat} (h : Rz W n) (hb : RowKit.Below W.heap.size W W') : Rz W' n := (hb.block n h.lt).trans h
theorem Rz.new (w : World) : Rz (w.alloc (.cells #[.string ⟨#[]⟩, .string ⟨#[]⟩, .int .u64 0, .bool false, .string ⟨#[]⟩] 39)) w.heap.size := heap_alloc_new w _
theorem g_put5 {w W : World} {n g : Nat} {p q r s t : Value} (h : w.grownBy W (some g)) (hne : w.heap.size ≤ n) : w.grownBy (((((W.setCell ⟨n, 0, none⟩ p).setCell ⟨n, 1, none⟩ q).setCell ⟨n, 2, none⟩ r).setCell ⟨n, 3, none⟩ s).setCell ⟨n, 4, none⟩ t) (some g) := by
  have hb := below_set5 (n := n) p q r s t (RowKit.Below.refl n W) (Nat.le_refl _)
  exact ⟨hb.os.trans h.os, hb.tape.trans h.tape, hb.output.trans h.output, Nat.le_trans h.size hb.size, fun k hk hkg => (hb.block k (by omega)).trans (h.block k hk hkg)⟩

end Go.Proofs.YtmpnofbhbglfpaaGreatDoor
