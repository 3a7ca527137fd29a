/-
  A list of cells read from bytes, as lists; the reader's methods in that form.
-/
import Derived.Test.YtbllbcbjjocphabCEnc
import Derived.Test.YtbllbcbjjocphabReader
namespace Go.Proofs.Ytbllbcbjjocphab
open Go.RowKit Go.BigFrame Go.Sort
attribute [local go_sem] size_bstr toList_bstr ls_def

def okT (m : Nat) (l : List UInt8) : Bool := decide ((numOf l).2 ≠ 0) && decide ((numOf l).1 ≤ m) && decide ((numOf l).2 + (numOf l).1 ≤ l.length)
/-- A text read: it, whether there was one, what is left. -/
def tV (m : Nat) (l : List UInt8) : List UInt8 := if okT m l then (l.drop (numOf l).2).take (numOf l).1 else []
def tR (m : Nat) (l : List UInt8) : List UInt8 := if okT m l then l.drop ((numOf l).2 + (numOf l).1) else l
/-- A number; a byte. -/
def okN (l : List UInt8) : Bool := decide ((numOf l).2 ≠ 0)
def nV (l : List UInt8) : Nat := if okN l then (numOf l).1 else 0
def nR (l : List UInt8) : List UInt8 := if okN l then l.drop (numOf l).2 else l
def okB : List UInt8 → Bool
  | [] => false
  | _ :: _ => true
def bV : List UInt8 → UInt8
  | [] => 0
  | x :: _ => x
def bR : List UInt8 → List UInt8
  | [] => []
  | _ :: l => l

theorem Text_r (g m : Nat) (l : List UInt8) (w : World) (h : Rd w g (bstr l)) (hl : l.length ≤ 10000000) (hm : m ≤ 10000000) :
    Calls Try.prog 36 #[.pointer (some ⟨g, 0, none⟩), .int .i64 m] w fun e w' => e = .returned (.tuple #[.string (bstr (tV m l)), .bool (okT m l)]) ∧ Rd w' g (bstr (tR m l)) ∧ w.grownBy w' (some g) := by
  unfold tV tR
  cases ho : okT m l with
  | true =>
    simp only [okT, Bool.and_eq_true, decide_eq_true_eq] at ho
    rw [if_pos rfl, if_pos rfl]
    exact Text_yes g l (numOf l).1 (numOf l).2 m w h (by omega) rfl ho.1.1 (by omega) (by omega) ho.2
  | false =>
    rw [if_neg (by simp), if_neg (by simp)]
    by_cases h0 : (numOf l).2 = 0
    · refine (Text_none g l m w h (by omega) h0).mono ?_
      rintro e w' ⟨rfl, rfl⟩
      exact ⟨rfl, h, grown_refl _ _⟩
    · refine (Text_no g l (numOf l).1 (numOf l).2 m w h (by omega) rfl h0 (by omega) ?_).mono ?_
      · simp only [okT, Bool.and_eq_false_iff, decide_eq_false_iff_not] at ho
        omega
      · rintro e w' ⟨rfl, rfl⟩
        exact ⟨rfl, h, grown_refl _ _⟩
theorem Number_r (g : Nat) (l : List UInt8) (w : World) (h : Rd w g (bstr l)) (hl : l.length ≤ 10000000) :
    Calls Try.prog 34 #[.pointer (some ⟨g, 0, none⟩)] w fun e w' => e = .returned (.tuple #[.int .u64 (nV l), .bool (okN l)]) ∧ Rd w' g (bstr (nR l)) ∧ w.grownBy w' (some g) := by
  unfold nV nR
  cases ho : okN l with
  | true =>
    simp only [okN, decide_eq_true_eq] at ho
    rw [if_pos rfl, if_pos rfl]
    exact Number_yes g l (numOf l).1 (numOf l).2 w h (by omega) rfl ho
  | false =>
    simp only [okN, decide_eq_false_iff_not, Decidable.not_not] at ho
    rw [if_neg (by simp), if_neg (by simp)]
    refine (Number_no g l w h (by omega) ho).mono ?_
    rintro e w' ⟨rfl, rfl⟩
    exact ⟨rfl, h, grown_refl _ _⟩

set_option maxHeartbeats 1000000 in
theorem Byte_some (g : Nat) (x : UInt8) (l : List UInt8) (w : World) (h : Rd w g (bstr (x :: l))) :
    Calls Try.prog 37 #[.pointer (some ⟨g, 0, none⟩)] w fun e w' => e = .returned (.tuple #[.int .u8 (x.toNat : Int), .bool true]) ∧ Rd w' g (bstr l) ∧ w.grownBy w' (some g) := by
  go_enter Try.func37, Try.ntmps37
  go_wp2_with fail
  refine (open_any g _ _ h).mono ?_
  rintro e w1 ⟨rfl, rfl⟩
  go_wp2_with fail
  refine (cut_any g _ 1 _ h (by rw [size_bstr]; simp)).mono ?_
  rintro e w2 ⟨rfl, rfl⟩
  have h2 := h.set ((bstr (x :: l)).extract 1 (bstr (x :: l)).size)
  rw [extract_from] at h2
  rw [extract_from, extract_to]
  have e1 : (x :: l).take 1 = [x] := rfl
  have e2 : (x :: l).drop 1 = l := rfl
  rw [e1, e2]
  rw [e2] at h2
  go_wp2
  go_ret2
  exact ⟨rfl, h2, grown_setCell _ _ _⟩
theorem Byte_r (g : Nat) (l : List UInt8) (w : World) (h : Rd w g (bstr l)) :
    Calls Try.prog 37 #[.pointer (some ⟨g, 0, none⟩)] w fun e w' => e = .returned (.tuple #[.int .u8 ((bV l).toNat : Int), .bool (okB l)]) ∧ Rd w' g (bstr (bR l)) ∧ w.grownBy w' (some g) := by
  cases l with
  | nil =>
    refine (Byte_none g w h).mono ?_
    rintro e w' ⟨rfl, rfl⟩
    exact ⟨rfl, h, grown_refl _ _⟩
  | cons x l => exact Byte_some g x l w h

end Go.Proofs.Ytbllbcbjjocphab
