/-
  The contracts of disk.none, find, isName, Free, Synced, Read, Sync, New.
-/
import Derived.Test.YtbnenpfphbdmpaaXDk
namespace Go.Proofs.Ytbnenpfphbdmpaa
open Go.RowKit

set_option maxHeartbeats 1000000 in
theorem none_any {d m fr N : Nat} {L : List Fl} (w : World) (h : Dk w d m L fr N) :
    Calls Try.prog 33 #[.pointer (some ⟨d, 0, none⟩)] w fun e w' => e = .returned (.bool false) ∧ w' = w := by
  have c1 : w.cell? ⟨d, 1, none⟩ = some (.map (some m)) := (cells_block h.blk).1 1
  clear h
  have qT : ∀ (w : World) (r : Option Nat), (binOp .eql 59 (.map r) (.map none)).run Try.prog w = .ok (.bool r.isNone) w := fun w r => run_eql_map_nil w _ _ _ r Try.underlying59
  go_enter Try.func33, Try.ntmps33
  go_wp2
  go_ret
  exact ⟨rfl, rfl⟩

set_option maxHeartbeats 1000000 in
theorem none_nil (w : World) :
    Calls Try.prog 33 #[.pointer none] w fun e w' => e = .returned (.bool true) ∧ w' = w := by
  go_enter Try.func33, Try.ntmps33
  go_wp2
  go_ret
  exact ⟨rfl, rfl⟩

set_option maxHeartbeats 1000000 in
theorem none_zero (d : Nat) (w : World) (c1 : w.cell? ⟨d, 1, none⟩ = some (.map none)) :
    Calls Try.prog 33 #[.pointer (some ⟨d, 0, none⟩)] w fun e w' => e = .returned (.bool true) ∧ w' = w := by
  have qT : ∀ (w : World) (r : Option Nat), (binOp .eql 59 (.map r) (.map none)).run Try.prog w = .ok (.bool r.isNone) w := fun w r => run_eql_map_nil w _ _ _ r Try.underlying59
  go_enter Try.func33, Try.ntmps33
  go_wp2
  go_ret
  exact ⟨rfl, rfl⟩

/-- Is it a name? -/
def okN (s : List UInt8) : Bool := decide (0 < s.length) && decide (s.length ≤ 64)
set_option maxHeartbeats 1000000 in
theorem isName_any (s : List UInt8) (w : World) :
    Calls Try.prog 38 #[.string (bstr s)] w fun e w' => e = .returned (.bool (okN s)) ∧ w' = w := by
  have e1 : (bstr s).size = s.length := size_bstr s
  unfold okN
  by_cases h1 : 0 < s.length
  · by_cases h2 : s.length ≤ 64
    · go_enter Try.func38, Try.ntmps38
      go_wp2
      go_ret
      exact ⟨by simp [h1, h2]; omega, rfl⟩
    · go_enter Try.func38, Try.ntmps38
      go_wp2
      go_ret
      exact ⟨by simp [h2]; omega, rfl⟩
  · go_enter Try.func38, Try.ntmps38
    go_wp2
    go_ret
    exact ⟨by simp [h1], rfl⟩

/-- What find answers. -/
def fc : Option Fl → Int
  | none => 5
  | some _ => 0
set_option maxHeartbeats 1000000 in
theorem find_any {d m fr N : Nat} {L : List Fl} (s : List UInt8) (w : World) (h : Dk w d m L fr N) (hl : s.length ≤ maxLen) :
    Calls Try.prog 37 #[.pointer (some ⟨d, 0, none⟩), .string (bstr s)] w fun e w' => e = .returned (.tuple #[pv (lk s L), .int .i64 (fc (lk s L))]) ∧ w' = w := by
  have hlk := h.look hl
  have hn := none_any w h
  have c1 : w.cell? ⟨d, 1, none⟩ = some (.map (some m)) := (cells_block h.blk).1 1
  clear h
  cases e : lk s L with
  | none =>
    rw [e] at hlk
    simp only [pv] at hlk ⊢
    go_enter Try.func37, Try.ntmps37
    go_wp2_with fail
    refine hn.mono ?_
    rintro e w1 ⟨rfl, rfl⟩
    go_wp2
    go_ret2
    exact ⟨rfl, rfl⟩
  | some f =>
    rw [e] at hlk
    simp only [pv] at hlk ⊢
    go_enter Try.func37, Try.ntmps37
    go_wp2_with fail
    refine hn.mono ?_
    rintro e w1 ⟨rfl, rfl⟩
    go_wp2
    go_ret2
    exact ⟨rfl, rfl⟩

set_option maxHeartbeats 1000000 in
theorem find_nil (s : List UInt8) (w : World) :
    Calls Try.prog 37 #[.pointer none, .string (bstr s)] w fun e w' => e = .returned (.tuple #[.pointer none, .int .i64 1]) ∧ w' = w := by
  go_enter Try.func37, Try.ntmps37
  go_wp2_with fail
  refine (none_nil _).mono ?_
  rintro e w1 ⟨rfl, rfl⟩
  go_wp2
  go_ret2
  exact ⟨rfl, rfl⟩

set_option maxHeartbeats 1000000 in
theorem find_zero (d : Nat) (s : List UInt8) (w : World) (c1 : w.cell? ⟨d, 1, none⟩ = some (.map none)) :
    Calls Try.prog 37 #[.pointer (some ⟨d, 0, none⟩), .string (bstr s)] w fun e w' => e = .returned (.tuple #[.pointer none, .int .i64 1]) ∧ w' = w := by
  go_enter Try.func37, Try.ntmps37
  go_wp2_with fail
  refine (none_zero d _ c1).mono ?_
  rintro e w1 ⟨rfl, rfl⟩
  go_wp2
  go_ret2
  exact ⟨rfl, rfl⟩

set_option maxHeartbeats 1000000 in
theorem Free_any {d m fr N : Nat} {L : List Fl} (w : World) (h : Dk w d m L fr N) :
    Calls Try.prog 13 #[.pointer (some ⟨d, 0, none⟩)] w fun e w' => e = .returned (.int .i64 (fr : Int)) ∧ w' = w := by
  have hn := none_any w h
  have c0 : w.cell? ⟨d, 0, none⟩ = some (.int .i64 (fr : Int)) := (cells_block h.blk).1 0
  clear h
  go_enter Try.func13, Try.ntmps13
  go_wp2_with fail
  refine hn.mono ?_
  rintro e w1 ⟨rfl, rfl⟩
  go_wp2
  go_ret
  exact ⟨rfl, rfl⟩

set_option maxHeartbeats 1000000 in
theorem Free_nil (w : World) :
    Calls Try.prog 13 #[.pointer none] w fun e w' => e = .returned (.int .i64 0) ∧ w' = w := by
  go_enter Try.func13, Try.ntmps13
  go_wp2_with fail
  refine (none_nil _).mono ?_
  rintro e w1 ⟨rfl, rfl⟩
  go_wp2
  go_ret
  exact ⟨rfl, rfl⟩

/-- How many bytes of it are synced. -/
def sy : Option Fl → Int
  | none => 0
  | some f => f.syn
set_option maxHeartbeats 1000000 in
theorem Synced_any {d m fr N : Nat} {L : List Fl} (s : List UInt8) (w : World) (h : Dk w d m L fr N) (hl : s.length ≤ maxLen) :
    Calls Try.prog 15 #[.pointer (some ⟨d, 0, none⟩), .string (bstr s)] w fun e w' => e = .returned (.int .i64 (sy (lk s L))) ∧ w' = w := by
  have hf := find_any s w h hl
  cases e : lk s L with
  | none =>
    rw [e] at hf
    simp only [pv, fc] at hf
    go_enter Try.func15, Try.ntmps15
    go_wp2_with fail
    refine hf.mono ?_
    rintro e w1 ⟨rfl, rfl⟩
    go_wp2
    go_ret
    exact ⟨rfl, rfl⟩
  | some f =>
    rw [e] at hf
    simp only [pv, fc, sy] at hf ⊢
    have c1 : w.cell? ⟨f.g, 1, none⟩ = some (.int .i64 f.syn) := (cells_block (h.fl f (lk_some e).1).blk).1 1
    clear h
    generalize f.syn = n at *
    generalize f.g = g at *
    go_enter Try.func15, Try.ntmps15
    go_wp2_with fail
    refine hf.mono ?_
    rintro e w1 ⟨rfl, rfl⟩
    go_wp2
    go_ret
    exact ⟨rfl, rfl⟩

set_option maxHeartbeats 1000000 in
theorem Synced_nil (s : List UInt8) (w : World) :
    Calls Try.prog 15 #[.pointer none, .string (bstr s)] w fun e w' => e = .returned (.int .i64 0) ∧ w' = w := by
  go_enter Try.func15, Try.ntmps15
  go_wp2_with fail
  refine (find_nil s _).mono ?_
  rintro e w1 ⟨rfl, rfl⟩
  go_wp2
  go_ret
  exact ⟨rfl, rfl⟩

/-- The bytes of it. -/
def by_ : Option Fl → List UInt8
  | none => []
  | some f => f.bytes
set_option maxHeartbeats 1000000 in
theorem Read_any {d m fr N : Nat} {L : List Fl} (s : List UInt8) (w : World) (h : Dk w d m L fr N) (hl : s.length ≤ maxLen) :
    Calls Try.prog 18 #[.pointer (some ⟨d, 0, none⟩), .string (bstr s)] w fun e w' => e = .returned (.tuple #[.string (bstr (by_ (lk s L))), .int .i64 (fc (lk s L))]) ∧ w' = w := by
  have hf := find_any s w h hl
  cases e : lk s L with
  | none =>
    rw [e] at hf
    simp only [pv, fc] at hf
    go_enter Try.func18, Try.ntmps18
    go_wp2_with fail
    refine hf.mono ?_
    rintro e w1 ⟨rfl, rfl⟩
    go_wp2
    go_ret2
    exact ⟨rfl, rfl⟩
  | some f =>
    rw [e] at hf
    simp only [pv, fc, by_] at hf ⊢
    have hF := h.fl f (lk_some e).1
    have c0 : w.cell? ⟨f.g, 0, none⟩ = some f.v := (cells_block hF.blk).1 0
    have hcv := run_convert_own (P := Try.prog) (src := 58) (dst := 9) hF.own Try.underlying58 Try.underlying5 Try.underlying9
    clear h hF
    generalize f.v = v at *
    generalize f.bytes = l at *
    generalize f.g = g at *
    go_enter Try.func18, Try.ntmps18
    go_wp2_with fail
    refine hf.mono ?_
    rintro e w1 ⟨rfl, rfl⟩
    go_wp2
    go_ret2
    exact ⟨rfl, rfl⟩

set_option maxHeartbeats 1000000 in
theorem Read_nil (s : List UInt8) (w : World) :
    Calls Try.prog 18 #[.pointer none, .string (bstr s)] w fun e w' => e = .returned (.tuple #[.string ⟨#[]⟩, .int .i64 1]) ∧ w' = w := by
  go_enter Try.func18, Try.ntmps18
  go_wp2_with fail
  refine (find_nil s _).mono ?_
  rintro e w1 ⟨rfl, rfl⟩
  go_wp2
  go_ret2
  exact ⟨rfl, rfl⟩

end Go.Proofs.Ytbnenpfphbdmpaa
