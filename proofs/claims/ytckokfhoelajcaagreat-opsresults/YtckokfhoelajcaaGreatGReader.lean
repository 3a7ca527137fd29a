/-
  The library's contracts that this seat's proofs use (strings.IndexByte, strings.Clone and what they call), laid at this seat's numbers.
  The contracts of the reader's methods (Left, Byte, Number, Take, Text), over this seat's translation.
-/
import Derived.Shelf.Strings.Builder1
import Derived.Shelf.LaysM
import Derived.Shelf.Strconv.Clone
import Derived.Test.YtckokfhoelajcaaGreatProg
import Derived.Test.YtckokfhoelajcaaGreatRead
import Derived.Test.YtckokfhoelajcaaGreatNumber
import Derived.Laws.EntriesVeiled
namespace Go.Proofs
open Go.Shelf
def Tryz.lays169_ren : Go.Shelf.Ren := ⟨fun | 169 => 117 | n => n, fun | 70 => 152 | 9 => 9 | 0 => 0 | 72 => 155 | 37 => 153 | 127 => 176 | 3 => 3 | 5 => 5 | n => n, fun | n => n⟩
theorem Tryz.lays169 : Go.Proofs.Lays.n169 Tryz.prog Tryz.lays169_ren := {
  mixed := by kernel_rfl
  f169 := Tryz.func117.trans (congrArg some (by kernel_rfl))
  t0 := Tryz.underlying0
  a0 := Tryz.isAgg0
  z0 := Tryz.sizeOf0
  v0 := Tryz.zeroValue0
  t3 := Tryz.underlying3
  a3 := Tryz.isAgg3
  z3 := Tryz.sizeOf3
  v3 := Tryz.zeroValue3
  t9 := Tryz.underlying9
  a9 := Tryz.isAgg9
  z9 := Tryz.sizeOf9
  v9 := Tryz.zeroValue9
  t37 := Tryz.underlying153
  a37 := Tryz.isAgg153
  z37 := Tryz.sizeOf153
  v37 := Tryz.zeroValue153
  t70 := Tryz.underlying152
  a70 := Tryz.isAgg152
  z70 := Tryz.sizeOf152
  v70 := Tryz.zeroValue152
  t72 := Tryz.underlying155
  a72 := Tryz.isAgg155
  z72 := Tryz.sizeOf155
  v72 := Tryz.zeroValue155
  t127 := Tryz.underlying176
  a127 := Tryz.isAgg176
  z127 := Tryz.sizeOf176
  v127 := Tryz.zeroValue176 }
theorem Tryz.Builder_Extra_169 : Builder.Extra Tryz.prog Tryz.lays169_ren := {
  sizeBuilder := by kernel_rfl
  liesBuilder := by kernel_rfl
  t5 := Tryz.underlying5
  a5 := Tryz.isAgg5
  z5 := Tryz.sizeOf5
  v5 := Tryz.zeroValue5
  infoByte := by kernel_rfl
  cellsByte := by kernel_rfl
  sizeByte := by kernel_rfl
  neB5 := by decide }
open Go.RowKit in
theorem Tryz.Builder_String (B b : Nat) (l : List UInt8) (w : World) (h : Lib.IsBuilder 155 5 B b (Lib.byteCells l) w) (h0 : l ≠ []) :
    Calls Tryz.prog 117 #[.pointer (some ⟨b, 0, none⟩)] w fun e w' => e = .returned (.string ⟨l.toArray⟩) ∧ Below B w w' := Any.Builder_String Tryz.lays169 Tryz.Builder_Extra_169 B b l w h h0
open Go.RowKit in
theorem Tryz.Builder_String_empty (B b : Nat) (w : World) (h : Lib.IsBuilder 155 5 B b [] w) (hBw : B ≤ w.heap.size) :
    Calls Tryz.prog 117 #[.pointer (some ⟨b, 0, none⟩)] w fun e w' => e = .returned (.string ⟨#[]⟩) ∧ Below B w w' := Any.Builder_String_empty Tryz.lays169 Tryz.Builder_Extra_169 B b w h hBw
open Go.RowKit in
theorem Tryz.Builder_String_any (B b : Nat) (l : List UInt8) (w : World) (h : Lib.IsBuilder 155 5 B b (Lib.byteCells l) w) (hBw : B ≤ w.heap.size) :
    Calls Tryz.prog 117 #[.pointer (some ⟨b, 0, none⟩)] w fun e w' => e = .returned (.string ⟨l.toArray⟩) ∧ Below B w w' := Any.Builder_String_any Tryz.lays169 Tryz.Builder_Extra_169 B b l w h hBw
def Tryz.laysM316_ren : Go.Shelf.Ren := ⟨fun | 316 => 146 | n => n, fun | 9 => 9 | 3 => 3 | 4 => 4 | 37 => 153 | 0 => 0 | 127 => 176 | 5 => 5 | n => n, fun | n => n⟩
theorem Tryz.laysM316 : Go.Proofs.LaysM.n316 Tryz.prog Tryz.laysM316_ren := {
  mixed := by kernel_rfl
  f316 := Tryz.func146.trans (congrArg some (by kernel_rfl))
  t0 := Tryz.underlying0
  a0 := Tryz.isAgg0
  z0 := Tryz.sizeOf0
  v0 := Tryz.zeroValue0
  t3 := Tryz.underlying3
  a3 := Tryz.isAgg3
  z3 := Tryz.sizeOf3
  v3 := Tryz.zeroValue3
  t4 := Tryz.underlying4
  a4 := Tryz.isAgg4
  z4 := Tryz.sizeOf4
  v4 := Tryz.zeroValue4
  t9 := Tryz.underlying9
  a9 := Tryz.isAgg9
  z9 := Tryz.sizeOf9
  v9 := Tryz.zeroValue9
  t37 := Tryz.underlying153
  a37 := Tryz.isAgg153
  z37 := Tryz.sizeOf153
  v37 := Tryz.zeroValue153
  t127 := Tryz.underlying176
  a127 := Tryz.isAgg176
  z127 := Tryz.sizeOf176
  v127 := Tryz.zeroValue176
  t5 := Tryz.underlying5
  a5 := Tryz.isAgg5
  z5 := Tryz.sizeOf5
  v5 := Tryz.zeroValue5
  i0 := by kernel_rfl
  i3 := by kernel_rfl
  i4 := by kernel_rfl
  i5 := by kernel_rfl
  i9 := by kernel_rfl
  i37 := by kernel_rfl
  i127 := by kernel_rfl }
open Go.RowKit in
theorem Tryz.stringslite_Clone (s : ByteArray) (w : World) (hlim : s.size ≤ 281474976710656) :
    Calls Tryz.prog 146 #[.string s] w fun e w' => e = .returned (.string s) ∧ Below w.heap.size w w' := Any.stringslite_Clone Tryz.laysM316 s w hlim
end Go.Proofs

namespace Go.Proofs.YtckokfhoelajcaaGreat
open Go.RowKit

theorem extract_to (l : List UInt8) (n : Nat) : (bstr l).extract 0 n = bstr (l.take n) := by
  apply ByteArray.ext
  simp [bstr]
theorem extract_from (l : List UInt8) (n : Nat) : (bstr l).extract n (bstr l).size = bstr (l.drop n) := by
  apply ByteArray.ext
  rw [size_bstr]
  simp [bstr, List.take_of_length_le]

/-- Behind a store into block g: that block alone has turned. -/
theorem grown_setCell (w : World) (g : Nat) (v : Value) : w.grownBy (w.setCell ⟨g, 0, none⟩ v) (some g) :=
  ⟨rfl, rfl, rfl, by simp [World.setCell], fun k _ hk => Below.heap_setCell _ _ _ _ (fun e => hk (by rw [e]))⟩
theorem grown_trans {a b c : World} {g : Nat} (h : a.grownBy b (some g)) (k : b.grownBy c (some g)) : a.grownBy c (some g) :=
  ⟨k.os.trans h.os, k.tape.trans h.tape, k.output.trans h.output, Nat.le_trans h.size k.size, fun i hi hne => (k.block i (Nat.lt_of_lt_of_le hi h.size) hne).trans (h.block i hi hne)⟩
theorem grown_of_below {a b : World} {g : Nat} (h : Below a.heap.size a b) : a.grownBy b (some g) := ⟨h.os, h.tape, h.output, h.size, fun i hi _ => h.block i hi⟩
theorem grown_refl (w : World) (g : Nat) : w.grownBy w (some g) := ⟨rfl, rfl, rfl, Nat.le_refl _, fun _ _ _ => rfl⟩

set_option maxHeartbeats 400000 in
theorem Left_any (g : Nat) (l : List UInt8) (w : World) (h : Rd w g (bstr l)) :
    Calls Tryz.prog 131 #[.pointer (some ⟨g, 0, none⟩)] w fun e w' => e = .returned (.int .i64 l.length) ∧ w' = w := by
  go_enter Tryz.func131, Tryz.ntmps131
  go_wp2_with fail
  refine (open_any g _ _ h).mono ?_
  rintro e w1 ⟨rfl, rfl⟩
  go_wp2
  go_ret
  exact ⟨by rw [← size_bstr]; rfl, rfl⟩

set_option maxHeartbeats 400000 in
theorem Left_nil (w : World) :
    Calls Tryz.prog 131 #[.pointer none] w fun e w' => e = .returned (.int .i64 0) ∧ w' = w := by
  go_enter Tryz.func131, Tryz.ntmps131
  go_wp2_with fail
  refine (open_nil _).mono ?_
  rintro e w1 ⟨rfl, rfl⟩
  go_wp2
  go_ret
  exact ⟨rfl, rfl⟩

set_option maxHeartbeats 400000 in
theorem Number_no (g : Nat) (l : List UInt8) (w : World) (h : Rd w g (bstr l)) (hl : l.length ≤ 10000000000) (hn : (numOf l).2 = 0) :
    Calls Tryz.prog 127 #[.pointer (some ⟨g, 0, none⟩)] w fun e w' => e = .returned (.tuple #[.int .u64 0, .bool false]) ∧ w' = w := by
  go_enter Tryz.func127, Tryz.ntmps127
  go_wp2_with fail
  refine (open_any g _ _ h).mono ?_
  rintro e w1 ⟨rfl, rfl⟩
  go_wp2_with fail
  refine (number_any (bstr l) _ (by rw [size_bstr]; unfold maxLen; omega)).mono ?_
  rintro e w1 ⟨rfl, rfl⟩
  rw [data_bstr, hn]
  go_wp2
  go_ret2
  exact ⟨rfl, rfl⟩

set_option maxHeartbeats 400000 in
theorem Number_yes (g : Nat) (l : List UInt8) (v n : Nat) (w : World) (h : Rd w g (bstr l)) (hl : l.length ≤ 10000000000) (hn : numOf l = (v, n)) (h0 : n ≠ 0) :
    Calls Tryz.prog 127 #[.pointer (some ⟨g, 0, none⟩)] w fun e w' => e = .returned (.tuple #[.int .u64 v, .bool true]) ∧ Rd w' g (bstr (l.drop n)) ∧ w.grownBy w' (some g) := by
  obtain ⟨h1, h10, hnl, hv, ht⟩ := numOf_back hn h0
  have HN : Hid (numOf l = (v, n)) := hn
  have hb : ((n : Int) == 0) = false := by simp; omega
  clear ht hn
  go_enter Tryz.func127, Tryz.ntmps127
  go_wp2_with fail
  refine (open_any g _ _ h).mono ?_
  rintro e w1 ⟨rfl, rfl⟩
  go_wp2_with fail
  refine (number_any (bstr l) _ (by rw [size_bstr]; unfold maxLen; omega)).mono ?_
  rintro e w1 ⟨rfl, rfl⟩
  rw [data_bstr, HN.out]
  go_wp2_with fail
  refine (cut_any g _ n _ h (by rw [size_bstr]; exact hnl)).mono ?_
  rintro e w2 ⟨rfl, rfl⟩
  go_wp2
  go_ret2
  exact ⟨rfl, by rw [← extract_from]; exact h.set _, grown_setCell _ _ _⟩

set_option maxHeartbeats 400000 in
theorem Number_nil (w : World) :
    Calls Tryz.prog 127 #[.pointer none] w fun e w' => e = .returned (.tuple #[.int .u64 0, .bool false]) ∧ w' = w := by
  go_enter Tryz.func127, Tryz.ntmps127
  go_wp2_with fail
  refine (open_nil _).mono ?_
  rintro e w1 ⟨rfl, rfl⟩
  go_wp2_with fail
  refine (number_any ⟨#[]⟩ _ (by decide)).mono ?_
  rintro e w1 ⟨rfl, rfl⟩
  go_wp2
  go_ret2
  exact ⟨rfl, rfl⟩

set_option maxHeartbeats 400000 in
/-- strings.Clone: the same bytes; of what was there nothing has turned. -/
theorem Clone_any (l : List UInt8) (w : World) (hl : l.length ≤ 10000000000) :
    Calls Tryz.prog 143 #[.string (bstr l)] w fun e w' => e = .returned (.string (bstr l)) ∧ Below w.heap.size w w' := by
  go_enter Tryz.func143, Tryz.ntmps143
  go_wp2_with fail
  refine (Tryz.stringslite_Clone (bstr l) _ (by rw [size_bstr]; omega)).mono ?_
  rintro e w1 ⟨rfl, hb⟩
  go_wp2
  go_ret
  exact ⟨rfl, hb⟩

theorem eql_func (g : Nat) (w : World) : (binOp .eql 119 (.func (.func 145) #[.pointer (some ⟨g, 0, none⟩)] #[]) .nilFunc).run Tryz.prog w = .ok (.bool false) w := by kernel_rfl
theorem eql_nilFunc (w : World) : (binOp .eql 119 .nilFunc .nilFunc).run Tryz.prog w = .ok (.bool true) w := by kernel_rfl

set_option maxHeartbeats 400000 in
theorem Text_none (g : Nat) (l : List UInt8) (m : Int) (w : World) (h : Rd w g (bstr l)) (hl : l.length ≤ 10000000000) (hn : (numOf l).2 = 0) :
    Calls Tryz.prog 129 #[.pointer (some ⟨g, 0, none⟩), .int .i64 m] w fun e w' => e = .returned (.tuple #[.string ⟨#[]⟩, .bool false]) ∧ w' = w := by
  go_enter Tryz.func129, Tryz.ntmps129
  go_wp2_with fail
  refine (open_any g _ _ h).mono ?_
  rintro e w1 ⟨rfl, rfl⟩
  go_wp2_with fail
  refine (number_any (bstr l) _ (by rw [size_bstr]; unfold maxLen; omega)).mono ?_
  rintro e w1 ⟨rfl, rfl⟩
  rw [data_bstr, hn]
  go_wp2
  go_ret2
  exact ⟨rfl, rfl⟩

set_option maxHeartbeats 1000000 in
theorem Text_no (g : Nat) (l : List UInt8) (v n : Nat) (m : Int) (w : World) (h : Rd w g (bstr l)) (hl : l.length ≤ 10000000000) (hn : numOf l = (v, n)) (h0 : n ≠ 0) (hm : m ≤ 9223372036854775807) (hno : m < 0 ∨ m < v ∨ l.length < n + v) :
    Calls Tryz.prog 129 #[.pointer (some ⟨g, 0, none⟩), .int .i64 m] w fun e w' => e = .returned (.tuple #[.string ⟨#[]⟩, .bool false]) ∧ w' = w := by
  obtain ⟨h1, h10, hnl, hv, ht⟩ := numOf_back hn h0
  have HN : Hid (numOf l = (v, n)) := hn
  have hb : ((n : Int) == 0) = false := by simp; omega
  have hsz : ((bstr l).size : Int) = l.length := by rw [size_bstr]
  have hno' : m < 0 ∨ m < v ∨ ((bstr l).size : Int) - n < v := by omega
  have hnl' : (n : Int) ≤ ((bstr l).size : Int) := by omega
  have hl' : ((bstr l).size : Int) ≤ 10000000000 := by omega
  clear ht hn hsz hno
  go_enter Tryz.func129, Tryz.ntmps129
  go_wp2_with fail
  refine (open_any g _ _ h).mono ?_
  rintro e w1 ⟨rfl, rfl⟩
  go_wp2_with fail
  refine (number_any (bstr l) _ (by rw [size_bstr]; unfold maxLen; omega)).mono ?_
  rintro e w1 ⟨rfl, rfl⟩
  rw [data_bstr, HN.out]
  by_cases c1 : m < 0
  · go_wp2
    go_ret2
    exact ⟨rfl, rfl⟩
  · by_cases c2 : m < v
    · go_wp2
      go_ret2
      exact ⟨rfl, rfl⟩
    · have c3 : ((bstr l).size : Int) - n < v := by omega
      go_wp2
      go_ret2
      exact ⟨rfl, rfl⟩

set_option maxHeartbeats 1000000 in
theorem Text_yes (g : Nat) (l : List UInt8) (v n : Nat) (m : Int) (w : World) (h : Rd w g (bstr l)) (hl : l.length ≤ 10000000000) (hn : numOf l = (v, n)) (h0 : n ≠ 0) (hm : m ≤ 9223372036854775807) (hvm : (v : Int) ≤ m) (hvl : n + v ≤ l.length) :
    Calls Tryz.prog 129 #[.pointer (some ⟨g, 0, none⟩), .int .i64 m] w fun e w' => e = .returned (.tuple #[.string (bstr ((l.drop n).take v)), .bool true]) ∧ Rd w' g (bstr (l.drop (n + v))) ∧ w.grownBy w' (some g) := by
  obtain ⟨h1, h10, hnl, hv, ht⟩ := numOf_back hn h0
  have HN : Hid (numOf l = (v, n)) := hn
  have hb : ((n : Int) == 0) = false := by simp; omega
  have hsz : ((bstr l).size : Int) = l.length := by rw [size_bstr]
  have hvl' : (v : Int) ≤ ((bstr l).size : Int) - n := by omega
  have hnl' : (n : Int) ≤ ((bstr l).size : Int) := by omega
  have hl' : ((bstr l).size : Int) ≤ 10000000000 := by omega
  have hg := h.lt
  have htk : ((l.drop n).take v).length ≤ 10000000000 := by have := List.length_take_le v (l.drop n); omega
  clear ht hn hsz
  go_enter Tryz.func129, Tryz.ntmps129
  go_wp2_with fail
  refine (open_any g _ _ h).mono ?_
  rintro e w1 ⟨rfl, rfl⟩
  go_wp2_with fail
  refine (number_any (bstr l) _ (by rw [size_bstr]; unfold maxLen; omega)).mono ?_
  rintro e w1 ⟨rfl, rfl⟩
  rw [data_bstr, HN.out]
  go_wp2_with fail
  refine (cut_any g _ n _ h (by rw [size_bstr]; exact hnl)).mono ?_
  rintro e w2 ⟨rfl, rfl⟩
  have h2 := h.set ((bstr l).extract n (bstr l).size)
  rw [extract_from] at h2
  rw [extract_from, extract_to]
  go_wp2_with fail
  refine (cut_any g _ v _ h2 (by rw [size_bstr, List.length_drop]; omega)).mono ?_
  rintro e w3 ⟨rfl, rfl⟩
  have h3 := h2.set ((bstr (l.drop n)).extract v (bstr (l.drop n)).size)
  rw [extract_from] at h3
  rw [extract_from, extract_to]
  go_wp2_with fail
  refine (Clone_any _ _ htk).mono ?_
  rintro e w4 ⟨rfl, hb4⟩
  go_wp2
  go_ret2
  refine ⟨rfl, ?_, grown_trans (grown_setCell _ _ _) (grown_trans (grown_setCell _ _ _) (grown_of_below hb4))⟩
  rw [List.drop_drop] at h3
  exact h3.below hb4 (by simpa using hg)

end Go.Proofs.YtckokfhoelajcaaGreat
