/-
  The contracts of the document's find, Free, New, name.
-/
import Derived.Test.YtbnenpfphbdmpaaXFl
import Derived.Deep.QuietTactic
import Derived.BigQuiet
namespace Go.Proofs.Ytbnenpfphbdmpaa
open Go.RowKit
attribute [local go_sem] size_bstr toList_bstr append_bstr

abbrev rdV (R : Nat) (q : Option Addr) (n cap : Nat) : Value := .agg #[.int .i64 (R : Int), .slice q n cap]
theorem boxed (w : World) (a b : Value) (t : TypeId) : (w.alloc (.cells #[a, b] t)).heap[w.heap.size]? = some (.cells #[a, b] t (0, 0)) := heap_alloc_new w _

set_option maxHeartbeats 2000000 in
set_option maxRecDepth 100000 in
theorem Rfind_any (R cap : Nat) (q : Option Addr) (P : List F3) (s : List UInt8) (w : World) (hP : FArg w q cap P) (hs : SrtP P) (hn : P.length ≤ 1000000) :
    Calls Try.prog 32 #[rdV R q P.length cap, .string (bstr s)] w fun e w' => e = .returned (.tuple #[.int .i64 (posP s P : Int), .bool (isP s P)]) ∧ Below w.heap.size w w' := by
  have hb0 : Below w.heap.size w (w.alloc (.cells #[.int .i64 (R : Int), .slice q P.length cap] 27)) := (Below.refl _ _).alloc (Nat.le_refl _) _
  have hbx := boxed w (.int .i64 (R : Int)) (.slice q P.length cap) 27
  have hP1 := hP.below hb0
  go_enter Try.func32, Try.ntmps32
  go_wp2_with fail
  generalize w.alloc (.cells #[.int .i64 (R : Int), .slice q P.length cap] 27) = W at *
  have c1 : W.cell? ⟨w.heap.size, 1, none⟩ = some (.slice q P.length cap) := (cells_block hbx).1 1
  have hle := posP_le s P
  have his := posP_is (s := s) hs
  go_loopw [6] (fun s6 wr => ∃ i : Nat, s6 = .int .i64 (i : Int) ∧ i ≤ posP s P ∧ wr = W) (fun s6 _ => P.length - (intOf s6).toNat)
  case atStart => exact ⟨0, rfl, Nat.zero_le _, rfl⟩
  case round =>
    obtain ⟨i, rfl, hi, hwr⟩ := hrel
    subst hwr
    by_cases hl : i < P.length
    · obtain ⟨b, off, rfl, _, hR⟩ := hP1.at_ (by omega)
      have a0 := (hR i hl).c0
      by_cases hp : i < posP s P
      · have hlt := posP_lt hl hp
        have hb1 : Op.bytesLess P[i].1 s = true := by rw [bl_eq]; simpa using hlt
        generalize P[i].1 = nm at *
        go_wp2
        go_roundw
        case rel => exact ⟨i + 1, by simp, hp, by trivial⟩
        case measure => simp [intOf]; omega
      · have hie : i = posP s P := by omega
        have hat := posP_at (s := s) (P := P) (by omega)
        have hnm : P[posP s P]'(by omega) = P[i] := by simp only [hie]
        rw [hnm] at hat
        have hb1 : Op.bytesLess P[i].1 s = false := by rw [bl_eq]; simpa using hat
        rw [List.getElem?_eq_getElem (by omega), hnm] at his
        simp only at his
        generalize P[i].1 = nm at *
        have hc : (i : Int) < (P.length : Int) := by omega
        have HIE : Hid (i = posP s P) := hie
        have HIS : Hid (isP s P = (nm == s)) := his
        clear hie his hnm hat hp hi
        go_wp2_with fail
        go_quiet (fail)
        go_wp2
        go_ret2
        rw [HIS.out, ← HIE.out]
        exact ⟨rfl, ⟨hb0.os, hb0.tape, hb0.output, hb0.size, hb0.block⟩⟩
    · have hie : i = posP s P := by omega
      have hpn : posP s P = P.length := by omega
      rw [List.getElem?_eq_none (by omega)] at his
      simp only at his
      have hc : ¬ ((i : Int) < (P.length : Int)) := by omega
      have HIS : Hid (isP s P = false) := his
      have HPN : Hid (posP s P = P.length) := hpn
      clear hie his hpn
      go_wp2
      go_ret2
      rw [HIS.out, HPN.out]
      exact ⟨rfl, hb0⟩

/-- How many bytes all have. -/
def totP (P : List F3) : Nat := (P.map (fun f => f.2.1.length)).sum
theorem totP_Pu (L : List Fl) : totP (Pu L) = tot L := by simp [totP, Pu, pu, tot, Function.comp_def]
def totN (P : List F3) (i : Nat) : Nat := totP (P.take i)
theorem totN_succ {P : List F3} {i : Nat} (h : i < P.length) : totN P (i + 1) = totN P i + P[i].2.1.length := by
  unfold totN totP
  rw [List.take_succ_eq_append_getElem h, List.map_append, List.sum_append]
  rfl
theorem totN_le (P : List F3) (i : Nat) : totN P i ≤ totP P := by
  unfold totN totP
  conv => rhs; rw [← List.take_append_drop i P]
  rw [List.map_append, List.sum_append]
  omega

set_option maxHeartbeats 2000000 in
set_option maxRecDepth 100000 in
theorem RFree_any (R cap : Nat) (q : Option Addr) (P : List F3) (w : World) (hP : FArg w q cap P) (hn : P.length ≤ 1000000) (hR : R ≤ 9223372036854775807) (ht : totP P ≤ R) :
    Calls Try.prog 14 #[rdV R q P.length cap] w fun e w' => e = .returned (.int .i64 ((R - totP P : Nat) : Int)) ∧ Below w.heap.size w w' := by
  have hb0 : Below w.heap.size w (w.alloc (.cells #[.int .i64 (R : Int), .slice q P.length cap] 27)) := (Below.refl _ _).alloc (Nat.le_refl _) _
  have hbx := boxed w (.int .i64 (R : Int)) (.slice q P.length cap) 27
  have hP1 := hP.below hb0
  go_enter Try.func14, Try.ntmps14
  go_wp2_with fail
  generalize w.alloc (.cells #[.int .i64 (R : Int), .slice q P.length cap] 27) = W at *
  have c1 : W.cell? ⟨w.heap.size, 1, none⟩ = some (.slice q P.length cap) := (cells_block hbx).1 1
  go_loopw [3, 4] (fun s3 s4 wr => ∃ i : Nat, s4 = .int .i64 (i : Int) ∧ i ≤ P.length ∧ s3 = .int .i64 ((R - totN P i : Nat) : Int) ∧ wr = W) (fun _ s4 _ => P.length - (intOf s4).toNat)
  case atStart => exact ⟨0, rfl, Nat.zero_le _, by simp [totN, totP], rfl⟩
  case round =>
    obtain ⟨i, rfl, hi, rfl, hwr⟩ := hrel
    subst hwr
    by_cases hl : i < P.length
    · obtain ⟨b, off, rfl, _, hRw⟩ := hP1.at_ (by omega)
      have a1 := (hRw i hl).c1
      have h1 := totN_succ hl
      have h2 := totN_le P (i + 1)
      have hsub : ((R - totN P i : Nat) : Int) - (P[i].2.1.length : Int) = ((R - totN P (i + 1) : Nat) : Int) := by omega
      have hbn : R - totN P i ≤ 9223372036854775807 := by omega
      have hbl : P[i].2.1.length ≤ R - totN P i := by omega
      generalize P[i].2.1 = by0 at *
      generalize R - totN P i = r0 at *
      go_wp2
      go_roundw
      case rel => exact ⟨i + 1, by simp, hl, by simp only [Value.int.injEq, true_and]; omega, by trivial⟩
      case measure => simp [intOf]; omega
    · have hie : i = P.length := by omega
      have hc : ¬ ((i : Int) < (P.length : Int)) := by omega
      have HTE : Hid (totN P P.length = totP P) := by show totN P P.length = totP P; unfold totN; rw [List.take_length]
      subst hie
      go_wp2
      go_ret
      rw [← HTE.out]
      exact ⟨rfl, hb0⟩

end Go.Proofs.Ytbnenpfphbdmpaa
