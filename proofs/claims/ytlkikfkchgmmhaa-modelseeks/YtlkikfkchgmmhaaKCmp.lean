/-
  The order of cells: what strings.Compare, cmp.Compare and cmp.Or answer, and keys.Cmp out of them.
-/
import Derived.Lib.Bytealg
import Derived.Test.YtlkikfkchgmmhaaKWorks
import Derived.BigQuiet
import Derived.Lib.Small
import Derived.Deep.RegionHeld3
namespace Go.Proofs.Ytlkikfkchgmmhaa
open Go.RowKit Go.BigFrame
attribute [local go_sem] size_bstr toList_bstr ls_def

/-- Which of two texts is ahead, as a number. -/
def ct (a b : List UInt8) : Int := if ls a b = true then -1 else if ls b a = true then 1 else 0
theorem ct_eq : ∀ a b : List UInt8, Lib.compareBytes a b = ct a b
  | [], [] => rfl
  | [], _ :: _ => rfl
  | _ :: _, [] => rfl
  | a :: x, b :: y => by
    have ih := ct_eq x y
    unfold ct ls at ih ⊢
    rw [Lib.compareBytes]
    by_cases h1 : a < b
    · simp [Op.bytesLess, h1]
    · by_cases h2 : b < a
      · have h3 : ¬ a = b := by rintro rfl; exact UInt8.lt_irrefl _ h2
        simp [Op.bytesLess, h1, h2, h3]
      · have h3 : a = b := by
          rcases Classical.em (a = b) with h | h
          · exact h
          · rcases UInt8.lt_or_lt_of_ne h with h | h
            · exact absurd h h1
            · exact absurd h h2
        subst h3
        rw [if_neg h1, if_neg h2, ih]
        simp [Op.bytesLess]
/-- The first one that is not 0. -/
def or3 (x y z : Int) : Int := if x = 0 then (if y = 0 then z else y) else x

theorem Compare_any (a b : List UInt8) (w : World) :
    Calls Try.prog 48 #[.string (bstr a), .string (bstr b)] w fun e w' => e = .returned (.int .i64 (ct a b)) ∧ w' = w := by
  have := Try.strings_Compare (bstr a) (bstr b) w
  rw [data_bstr, data_bstr, ct_eq] at this
  exact this

set_option maxHeartbeats 1000000 in
theorem isNaN_any (x : Int) (w : World) : Calls Try.prog 56 #[.int .u64 x] w fun e w' => e = .returned (.bool false) ∧ w' = w := by
  go_enter Try.func56, Try.ntmps56
  go_wp2
  go_ret
  exact ⟨by simp, rfl⟩

set_option maxHeartbeats 1000000 in
theorem CompareU_any (x y : Int) (w : World) : Calls Try.prog 49 #[.int .u64 x, .int .u64 y] w fun e w' => e = .returned (.int .i64 (Lib.compareInt x y)) ∧ w' = w := by
  go_enter Try.func49, Try.ntmps49
  go_wp2_with (go_at_call 56; refine (isNaN_any _ _).mono ?_; rintro e w' ⟨rfl, hw⟩; rw [hw])
  all_goals (go_ret; refine ⟨?_, rfl⟩; unfold Lib.compareInt; (repeat' split) <;> first | rfl | (exfalso; omega))

set_option maxHeartbeats 1000000 in
theorem Or_any (n : Nat) (x y z : Int) (w : World) (h0 : w.cell? ⟨n, 0, none⟩ = some (.int .i64 x)) (h1 : w.cell? ⟨n, 1, none⟩ = some (.int .i64 y)) (h2 : w.cell? ⟨n, 2, none⟩ = some (.int .i64 z)) :
    Calls Try.prog 47 #[.slice (some ⟨n, 0, none⟩) 3 3] w fun e w' => e = .returned (.int .i64 (or3 x y z)) ∧ w' = w := by
  go_enter Try.func47, Try.ntmps47
  go_wp2
  go_loop [8] (fun vi => ∃ i : Nat, vi = .int .i64 i ∧ i ≤ 3 ∧ (0 < i → x = 0) ∧ (1 < i → y = 0) ∧ (2 < i → z = 0)) (fun vi => 3 - (intOf vi).toNat)
  case atStart => exact ⟨0, rfl, by omega, by omega, by omega, by omega⟩
  case round =>
    obtain ⟨i, rfl, hi, e0, e1, e2⟩ := hrel
    obtain rfl | rfl | rfl | rfl : i = 0 ∨ i = 1 ∨ i = 2 ∨ i = 3 := by omega
    · clear e0 e1 e2
      by_cases hx : x = 0
      · subst hx
        go_wp2
        go_round
        case rel => exact ⟨1, by go_num, by omega, by simp, by omega, by omega⟩
        case measure => simp [intOf]
      · have g : (x == 0) = false := by simpa using hx
        go_wp2
        go_ret
        exact ⟨by unfold or3; rw [if_neg hx]; rfl, rfl⟩
    · have hx := e0 (by omega)
      clear e0 e1 e2
      subst hx
      by_cases hy : y = 0
      · subst hy
        go_wp2
        go_round
        case rel => exact ⟨2, by go_num, by omega, by simp, by simp, by omega⟩
        case measure => simp [intOf]
      · have g : (y == 0) = false := by simpa using hy
        go_wp2
        go_ret
        exact ⟨by unfold or3; rw [if_pos rfl, if_neg hy]; rfl, rfl⟩
    · have hx := e0 (by omega)
      have hy := e1 (by omega)
      clear e0 e1 e2
      subst hx hy
      by_cases hz : z = 0
      · subst hz
        go_wp2
        go_round
        case rel => exact ⟨3, by go_num, by omega, by simp, by simp, by simp⟩
        case measure => simp [intOf]
      · have g : (z == 0) = false := by simpa using hz
        go_wp2
        go_ret
        exact ⟨by unfold or3; rw [if_pos rfl, if_pos rfl]; rfl, rfl⟩
    · have hx := e0 (by omega)
      have hy := e1 (by omega)
      have hz := e2 (by omega)
      clear e0 e1 e2
      subst hx hy hz
      go_wp2
      go_ret
      exact ⟨rfl, rfl⟩

/-- A cell as a value. -/
abbrev cellV (r c : List UInt8) (v : Int) (g : Bool) (x : List UInt8) : Value := .agg #[.string (bstr r), .string (bstr c), .int .u64 v, .bool g, .string (bstr x)]
/-- The order of two cells. -/
def cc (r c : List UInt8) (v : Int) (r' c' : List UInt8) (v' : Int) : Int := or3 (ct r r') (ct c c') (Lib.compareInt v' v)

/-- A cell lies in a block. -/
structure CellAt (W : World) (n : Nat) (r c : List UInt8) (v : Int) (g : Bool) (x : List UInt8) : Prop where
  c0 : W.cell? ⟨n, 0, none⟩ = some (.string (bstr r))
  c1 : W.cell? ⟨n, 1, none⟩ = some (.string (bstr c))
  c2 : W.cell? ⟨n, 2, none⟩ = some (.int .u64 v)
  c3 : W.cell? ⟨n, 3, none⟩ = some (.bool g)
  c4 : W.cell? ⟨n, 4, none⟩ = some (.string (bstr x))
theorem CellAt.lt {W : World} {n : Nat} {r c : List UInt8} {v : Int} {g : Bool} {x : List UInt8} (h : CellAt W n r c v g x) : n < W.heap.size := block_lt_of_cell h.c0
theorem CellAt.step {W W' : World} {n : Nat} {r c : List UInt8} {v : Int} {g : Bool} {x : List UInt8} (h : CellAt W n r c v g x) (hb : Below W.heap.size W W') : CellAt W' n r c v g x := by
  obtain ⟨cb, _⟩ := bcell hb
  exact ⟨by rw [cb _ _ h.lt]; exact h.c0, by rw [cb _ _ h.lt]; exact h.c1, by rw [cb _ _ h.lt]; exact h.c2, by rw [cb _ _ h.lt]; exact h.c3, by rw [cb _ _ h.lt]; exact h.c4⟩
theorem CellAt.alloc {W : World} {n : Nat} {r c : List UInt8} {v : Int} {g : Bool} {x : List UInt8} (h : CellAt W n r c v g x) (o : Obj) : CellAt (W.alloc o) n r c v g x := h.step ((Below.refl _ _).alloc (Nat.le_refl _) o)
theorem CellAt.new (W : World) (t : TypeId) (r c : List UInt8) (v : Int) (g : Bool) (x : List UInt8) : CellAt (W.alloc (.cells #[.string (bstr r), .string (bstr c), .int .u64 v, .bool g, .string (bstr x)] t)) W.heap.size r c v g x :=
  ⟨by rw [World.cell?_alloc_at _ t W.heap.size 0 rfl]; rfl, by rw [World.cell?_alloc_at _ t W.heap.size 1 rfl]; rfl, by rw [World.cell?_alloc_at _ t W.heap.size 2 rfl]; rfl, by rw [World.cell?_alloc_at _ t W.heap.size 3 rfl]; rfl, by rw [World.cell?_alloc_at _ t W.heap.size 4 rfl]; rfl⟩
theorem CellAt.new2 (W : World) (o : Obj) (t : TypeId) (r c : List UInt8) (v : Int) (g : Bool) (x : List UInt8) : CellAt ((W.alloc o).alloc (.cells #[.string (bstr r), .string (bstr c), .int .u64 v, .bool g, .string (bstr x)] t)) (W.heap.size + 1) r c v g x := by
  have e : (W.alloc o).heap.size = W.heap.size + 1 := by simp
  rw [← e]
  exact CellAt.new _ t r c v g x

set_option maxHeartbeats 2000000 in
set_option maxRecDepth 100000 in
theorem Cmp_any (r c : List UInt8) (v : Int) (g : Bool) (x r' c' : List UInt8) (v' : Int) (g' : Bool) (x' : List UInt8) (w : World) :
    Calls Try.prog 29 #[cellV r c v g x, cellV r' c' v' g' x'] w fun e w' => e = .returned (.int .i64 (cc r c v r' c' v')) ∧ Below w.heap.size w w' := by
  have hB : Below w.heap.size w ((w.alloc (.cells #[.string (bstr r), .string (bstr c), .int .u64 v, .bool g, .string (bstr x)] 38)).alloc (.cells #[.string (bstr r'), .string (bstr c'), .int .u64 v', .bool g', .string (bstr x')] 38)) := ((Below.refl _ _).alloc (Nat.le_refl _) _).alloc (by simp) _
  go_enter Try.func29, Try.ntmps29
  go_wp2_with fail
  generalize hW : ((w.alloc (.cells #[.string (bstr r), .string (bstr c), .int .u64 v, .bool g, .string (bstr x)] 38)).alloc (.cells #[.string (bstr r'), .string (bstr c'), .int .u64 v', .bool g', .string (bstr x')] 38)) = W at *
  have ra : CellAt W w.heap.size r c v g x := by rw [← hW]; exact (CellAt.new w 38 r c v g x).alloc _
  have rb : CellAt W (w.heap.size + 1) r' c' v' g' x' := by rw [← hW]; exact CellAt.new2 w _ 38 r' c' v' g' x'
  have l0 := ra.lt
  have l1 := rb.lt
  obtain ⟨a0, a1, a2, _, _⟩ := id ra
  obtain ⟨b0, b1, b2, _, _⟩ := id rb
  clear hW
  go_region_held3 (fun w' => w'.cell? ⟨w.heap.size, 0, none⟩ = some (.string (bstr r)) ∧ w'.cell? ⟨w.heap.size, 1, none⟩ = some (.string (bstr c)) ∧ w'.cell? ⟨w.heap.size, 2, none⟩ = some (.int .u64 v) ∧ w'.cell? ⟨w.heap.size + 1, 0, none⟩ = some (.string (bstr r')) ∧ w'.cell? ⟨w.heap.size + 1, 1, none⟩ = some (.string (bstr c')) ∧ w'.cell? ⟨w.heap.size + 1, 2, none⟩ = some (.int .u64 v')) (go_keep)
    (first
      | (go_at_call 48; refine (Compare_any _ _ _).mono ?_; rintro e w' ⟨rfl, rfl⟩)
      | (go_at_call 49; refine (CompareU_any _ _ _).mono ?_; rintro e w' ⟨rfl, rfl⟩)
      | (go_at_call 47; refine (Or_any _ (ct r r') (ct c c') (Lib.compareInt v' v) _ (by go_simp) (by go_simp) (by go_simp)).mono ?_; rintro e w' ⟨rfl, rfl⟩))
  go_wp2
  go_ret
  exact ⟨rfl, (hB.alloc hB.size _).drew⟩

end Go.Proofs.Ytlkikfkchgmmhaa
