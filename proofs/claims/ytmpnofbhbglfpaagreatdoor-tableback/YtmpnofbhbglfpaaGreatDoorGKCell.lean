/-
  The contracts of User and Stored, and of the law's 'works'.
  The order of cells: what strings.Compare, cmp.Compare and cmp.Or answer, and keys.Cmp out of them.
  The contracts of the document's own order of cells, and of the two functions that say whether a cell may be.
-/
import Derived.Test.YtmpnofbhbglfpaaGreatDoorGKSplit2
import Derived.BigQuiet
import Derived.Lib.Small
import Derived.Deep.RegionHeld3
namespace Go.Proofs.YtmpnofbhbglfpaaGreatDoor
open Go.RowKit
attribute [local go_sem] size_bstr toList_bstr ls_def

def userB (k : List UInt8) : Bool := decide (1 ≤ k.length) && decide (k.length ≤ 24)
def storedB (k : List UInt8) : Bool := decide (k.length ≤ 32)

set_option maxHeartbeats 1000000 in
theorem Stored_any (k : List UInt8) (w : World) :
    Calls Tryz.prog 91 #[.string (bstr k)] w fun e w' => e = .returned (.bool (storedB k)) ∧ Below w.heap.size w w' := by
  have hB : Below w.heap.size w w := Below.refl _ _
  have hu : storedB k = decide ((k.length : Int) ≤ 32) := by simp [storedB]; omega
  rw [hu]
  go_enter Tryz.func91, Tryz.ntmps91
  go_wp2
  go_ret
  exact ⟨rfl, hB⟩

set_option maxHeartbeats 1000000 in
theorem RStored_any (k : List UInt8) (w : World) :
    Calls Tryz.prog 134 #[.string (bstr k)] w fun e w' => e = .returned (.bool (storedB k)) ∧ Below w.heap.size w w' := by
  have hB : Below w.heap.size w w := Below.refl _ _
  have hu : storedB k = decide ((k.length : Int) ≤ 32) := by simp [storedB]; omega
  rw [hu]
  go_enter Tryz.func134, Tryz.ntmps134
  go_wp2
  go_ret
  exact ⟨rfl, hB⟩

/-- Two blocks that were laid before a call: behind the call they are as they were. -/
theorem cell_old2 {w w2 : World} {cs ds : Array Value} {t u : TypeId} (h : Below ((w.alloc (.cells cs t)).alloc (.cells ds u)).heap.size ((w.alloc (.cells cs t)).alloc (.cells ds u)) w2) (j : Nat) {v : Value} (hj : cs[j]? = some v) :
    w2.cell? ⟨w.heap.size, j, none⟩ = some v := by
  obtain ⟨cb, _⟩ := bcell h
  have hs : w.heap.size < ((w.alloc (.cells cs t)).alloc (.cells ds u)).heap.size := by simp; omega
  rw [cb _ _ hs, World.cell?_alloc_past (.cells ds u) w.heap.size j (by simp), World.cell?_alloc_at cs t w.heap.size j rfl]
  exact hj
theorem cell_last2 {w w2 : World} {cs ds : Array Value} {t u : TypeId} (h : Below ((w.alloc (.cells cs t)).alloc (.cells ds u)).heap.size ((w.alloc (.cells cs t)).alloc (.cells ds u)) w2) (j : Nat) {v : Value} (hj : ds[j]? = some v) :
    w2.cell? ⟨w.heap.size + 1, j, none⟩ = some v := by
  have e : (w.alloc (.cells cs t)).heap.size = w.heap.size + 1 := by simp
  rw [← e]
  exact (cell_new h j hj).1

/-- A range lies in a block. -/
structure RngAt (W : World) (n : Nat) (x y : List UInt8) : Prop where
  c0 : W.cell? ⟨n, 0, none⟩ = some (.string (bstr x))
  c1 : W.cell? ⟨n, 1, none⟩ = some (.string (bstr y))
theorem RngAt.lt {W : World} {n : Nat} {x y : List UInt8} (h : RngAt W n x y) : n < W.heap.size := block_lt_of_cell h.c0
theorem RngAt.step {W W' : World} {n : Nat} {x y : List UInt8} (h : RngAt W n x y) (hb : Below W.heap.size W W') : RngAt W' n x y := by
  obtain ⟨cb, _⟩ := bcell hb
  exact ⟨by rw [cb _ _ h.lt]; exact h.c0, by rw [cb _ _ h.lt]; exact h.c1⟩
theorem RngAt.alloc {W : World} {n : Nat} {x y : List UInt8} (h : RngAt W n x y) (o : Obj) : RngAt (W.alloc o) n x y := h.step ((Below.refl _ _).alloc (Nat.le_refl _) o)
theorem RngAt.new (W : World) (t : TypeId) (x y : List UInt8) : RngAt (W.alloc (.cells #[.string (bstr x), .string (bstr y)] t)) W.heap.size x y :=
  ⟨by rw [World.cell?_alloc_at _ t W.heap.size 0 rfl]; rfl, by rw [World.cell?_alloc_at _ t W.heap.size 1 rfl]; rfl⟩
theorem RngAt.new2 (W : World) (o : Obj) (t : TypeId) (x y : List UInt8) : RngAt ((W.alloc o).alloc (.cells #[.string (bstr x), .string (bstr y)] t)) (W.heap.size + 1) x y := by
  have e : (W.alloc o).heap.size = W.heap.size + 1 := by simp
  rw [← e]
  exact RngAt.new _ t x y

end Go.Proofs.YtmpnofbhbglfpaaGreatDoor

namespace Go.Proofs.YtmpnofbhbglfpaaGreatDoor
open Go.RowKit Go.BigFrame
attribute [local go_sem] size_bstr toList_bstr ls_def

/-- Which of two texts is ahead, as a number. -/
def ct (a b : List UInt8) : Int := if ls a b = true then -1 else if ls b a = true then 1 else 0
theorem ct_eq : ∀ a b : List UInt8, Lib.compareBytes a b = ct a b
  | [], [] => rfl
  | [], _ :: _ => rfl
  | _ :: _, [] => rfl
  | a :: x, b :: y => by
    have ih := ct_eq x y
    unfold ct ls at ih ⊢
    rw [Lib.compareBytes]
    by_cases h1 : a < b
    · simp [Op.bytesLess, h1]
    · by_cases h2 : b < a
      · have h3 : ¬ a = b := by rintro rfl; exact UInt8.lt_irrefl _ h2
        simp [Op.bytesLess, h1, h2, h3]
      · have h3 : a = b := by
          rcases Classical.em (a = b) with h | h
          · exact h
          · rcases UInt8.lt_or_lt_of_ne h with h | h
            · exact absurd h h1
            · exact absurd h h2
        subst h3
        rw [if_neg h1, if_neg h2, ih]
        simp [Op.bytesLess]
/-- The first one that is not 0. -/
def or3 (x y z : Int) : Int := if x = 0 then (if y = 0 then z else y) else x

theorem Compare_any (a b : List UInt8) (w : World) :
    Calls Tryz.prog 93 #[.string (bstr a), .string (bstr b)] w fun e w' => e = .returned (.int .i64 (ct a b)) ∧ w' = w := by
  have := Tryz.strings_Compare (bstr a) (bstr b) w
  rw [data_bstr, data_bstr, ct_eq] at this
  exact this

set_option maxHeartbeats 1000000 in
theorem isNaN_any (x : Int) (w : World) : Calls Tryz.prog 130 #[.int .u64 x] w fun e w' => e = .returned (.bool false) ∧ w' = w := by
  go_enter Tryz.func130, Tryz.ntmps130
  go_wp2
  go_ret
  exact ⟨by simp, rfl⟩

set_option maxHeartbeats 1000000 in
theorem CompareU_any (x y : Int) (w : World) : Calls Tryz.prog 94 #[.int .u64 x, .int .u64 y] w fun e w' => e = .returned (.int .i64 (Lib.compareInt x y)) ∧ w' = w := by
  go_enter Tryz.func94, Tryz.ntmps94
  go_wp2_with (go_at_call 130; refine (isNaN_any _ _).mono ?_; rintro e w' ⟨rfl, hw⟩; rw [hw])
  all_goals (go_ret; refine ⟨?_, rfl⟩; unfold Lib.compareInt; (repeat' split) <;> first | rfl | (exfalso; omega))

set_option maxHeartbeats 1000000 in
theorem Or_any (n : Nat) (x y z : Int) (w : World) (h0 : w.cell? ⟨n, 0, none⟩ = some (.int .i64 x)) (h1 : w.cell? ⟨n, 1, none⟩ = some (.int .i64 y)) (h2 : w.cell? ⟨n, 2, none⟩ = some (.int .i64 z)) :
    Calls Tryz.prog 92 #[.slice (some ⟨n, 0, none⟩) 3 3] w fun e w' => e = .returned (.int .i64 (or3 x y z)) ∧ w' = w := by
  go_enter Tryz.func92, Tryz.ntmps92
  go_wp2
  go_loop [8] (fun vi => ∃ i : Nat, vi = .int .i64 i ∧ i ≤ 3 ∧ (0 < i → x = 0) ∧ (1 < i → y = 0) ∧ (2 < i → z = 0)) (fun vi => 3 - (intOf vi).toNat)
  case atStart => exact ⟨0, rfl, by omega, by omega, by omega, by omega⟩
  case round =>
    obtain ⟨i, rfl, hi, e0, e1, e2⟩ := hrel
    obtain rfl | rfl | rfl | rfl : i = 0 ∨ i = 1 ∨ i = 2 ∨ i = 3 := by omega
    · clear e0 e1 e2
      by_cases hx : x = 0
      · subst hx
        go_wp2
        go_round
        case rel => exact ⟨1, by go_num, by omega, by simp, by omega, by omega⟩
        case measure => simp [intOf]
      · have g : (x == 0) = false := by simpa using hx
        go_wp2
        go_ret
        exact ⟨by unfold or3; rw [if_neg hx]; rfl, rfl⟩
    · have hx := e0 (by omega)
      clear e0 e1 e2
      subst hx
      by_cases hy : y = 0
      · subst hy
        go_wp2
        go_round
        case rel => exact ⟨2, by go_num, by omega, by simp, by simp, by omega⟩
        case measure => simp [intOf]
      · have g : (y == 0) = false := by simpa using hy
        go_wp2
        go_ret
        exact ⟨by unfold or3; rw [if_pos rfl, if_neg hy]; rfl, rfl⟩
    · have hx := e0 (by omega)
      have hy := e1 (by omega)
      clear e0 e1 e2
      subst hx hy
      by_cases hz : z = 0
      · subst hz
        go_wp2
        go_round
        case rel => exact ⟨3, by go_num, by omega, by simp, by simp, by simp⟩
        case measure => simp [intOf]
      · have g : (z == 0) = false := by simpa using hz
        go_wp2
        go_ret
        exact ⟨by unfold or3; rw [if_pos rfl, if_pos rfl]; rfl, rfl⟩
    · have hx := e0 (by omega)
      have hy := e1 (by omega)
      have hz := e2 (by omega)
      clear e0 e1 e2
      subst hx hy hz
      go_wp2
      go_ret
      exact ⟨rfl, rfl⟩

/-- A cell as a value. -/
abbrev cellV (r c : List UInt8) (v : Int) (g : Bool) (x : List UInt8) : Value := .agg #[.string (bstr r), .string (bstr c), .int .u64 v, .bool g, .string (bstr x)]
/-- The order of two cells. -/
def cc (r c : List UInt8) (v : Int) (r' c' : List UInt8) (v' : Int) : Int := or3 (ct r r') (ct c c') (Lib.compareInt v' v)

/-- A cell lies in a block. -/
structure CellAt (W : World) (n : Nat) (r c : List UInt8) (v : Int) (g : Bool) (x : List UInt8) : Prop where
  c0 : W.cell? ⟨n, 0, none⟩ = some (.string (bstr r))
  c1 : W.cell? ⟨n, 1, none⟩ = some (.string (bstr c))
  c2 : W.cell? ⟨n, 2, none⟩ = some (.int .u64 v)
  c3 : W.cell? ⟨n, 3, none⟩ = some (.bool g)
  c4 : W.cell? ⟨n, 4, none⟩ = some (.string (bstr x))
theorem CellAt.lt {W : World} {n : Nat} {r c : List UInt8} {v : Int} {g : Bool} {x : List UInt8} (h : CellAt W n r c v g x) : n < W.heap.size := block_lt_of_cell h.c0
theorem CellAt.step {W W' : World} {n : Nat} {r c : List UInt8} {v : Int} {g : Bool} {x : List UInt8} (h : CellAt W n r c v g x) (hb : Below W.heap.size W W') : CellAt W' n r c v g x := by
  obtain ⟨cb, _⟩ := bcell hb
  exact ⟨by rw [cb _ _ h.lt]; exact h.c0, by rw [cb _ _ h.lt]; exact h.c1, by rw [cb _ _ h.lt]; exact h.c2, by rw [cb _ _ h.lt]; exact h.c3, by rw [cb _ _ h.lt]; exact h.c4⟩
theorem CellAt.alloc {W : World} {n : Nat} {r c : List UInt8} {v : Int} {g : Bool} {x : List UInt8} (h : CellAt W n r c v g x) (o : Obj) : CellAt (W.alloc o) n r c v g x := h.step ((Below.refl _ _).alloc (Nat.le_refl _) o)
theorem CellAt.new (W : World) (t : TypeId) (r c : List UInt8) (v : Int) (g : Bool) (x : List UInt8) : CellAt (W.alloc (.cells #[.string (bstr r), .string (bstr c), .int .u64 v, .bool g, .string (bstr x)] t)) W.heap.size r c v g x :=
  ⟨by rw [World.cell?_alloc_at _ t W.heap.size 0 rfl]; rfl, by rw [World.cell?_alloc_at _ t W.heap.size 1 rfl]; rfl, by rw [World.cell?_alloc_at _ t W.heap.size 2 rfl]; rfl, by rw [World.cell?_alloc_at _ t W.heap.size 3 rfl]; rfl, by rw [World.cell?_alloc_at _ t W.heap.size 4 rfl]; rfl⟩
theorem CellAt.new2 (W : World) (o : Obj) (t : TypeId) (r c : List UInt8) (v : Int) (g : Bool) (x : List UInt8) : CellAt ((W.alloc o).alloc (.cells #[.string (bstr r), .string (bstr c), .int .u64 v, .bool g, .string (bstr x)] t)) (W.heap.size + 1) r c v g x := by
  have e : (W.alloc o).heap.size = W.heap.size + 1 := by simp
  rw [← e]
  exact CellAt.new _ t r c v g x

set_option maxHeartbeats 2000000 in
set_option maxRecDepth 100000 in
theorem Cmp_any (r c : List UInt8) (v : Int) (g : Bool) (x r' c' : List UInt8) (v' : Int) (g' : Bool) (x' : List UInt8) (w : World) :
    Calls Tryz.prog 48 #[cellV r c v g x, cellV r' c' v' g' x'] w fun e w' => e = .returned (.int .i64 (cc r c v r' c' v')) ∧ Below w.heap.size w w' := by
  have hB : Below w.heap.size w ((w.alloc (.cells #[.string (bstr r), .string (bstr c), .int .u64 v, .bool g, .string (bstr x)] 39)).alloc (.cells #[.string (bstr r'), .string (bstr c'), .int .u64 v', .bool g', .string (bstr x')] 39)) := ((Below.refl _ _).alloc (Nat.le_refl _) _).alloc (by simp) _
  go_enter Tryz.func48, Tryz.ntmps48
  go_wp2_with fail
  generalize hW : ((w.alloc (.cells #[.string (bstr r), .string (bstr c), .int .u64 v, .bool g, .string (bstr x)] 39)).alloc (.cells #[.string (bstr r'), .string (bstr c'), .int .u64 v', .bool g', .string (bstr x')] 39)) = W at *
  have ra : CellAt W w.heap.size r c v g x := by rw [← hW]; exact (CellAt.new w 39 r c v g x).alloc _
  have rb : CellAt W (w.heap.size + 1) r' c' v' g' x' := by rw [← hW]; exact CellAt.new2 w _ 39 r' c' v' g' x'
  have l0 := ra.lt
  have l1 := rb.lt
  obtain ⟨a0, a1, a2, _, _⟩ := id ra
  obtain ⟨b0, b1, b2, _, _⟩ := id rb
  clear hW
  go_region_held3 (fun w' => w'.cell? ⟨w.heap.size, 0, none⟩ = some (.string (bstr r)) ∧ w'.cell? ⟨w.heap.size, 1, none⟩ = some (.string (bstr c)) ∧ w'.cell? ⟨w.heap.size, 2, none⟩ = some (.int .u64 v) ∧ w'.cell? ⟨w.heap.size + 1, 0, none⟩ = some (.string (bstr r')) ∧ w'.cell? ⟨w.heap.size + 1, 1, none⟩ = some (.string (bstr c')) ∧ w'.cell? ⟨w.heap.size + 1, 2, none⟩ = some (.int .u64 v')) (go_keep)
    (first
      | (go_at_call 93; refine (Compare_any _ _ _).mono ?_; rintro e w' ⟨rfl, rfl⟩)
      | (go_at_call 94; refine (CompareU_any _ _ _).mono ?_; rintro e w' ⟨rfl, rfl⟩)
      | (go_at_call 92; refine (Or_any _ (ct r r') (ct c c') (Lib.compareInt v' v) _ (by go_simp) (by go_simp) (by go_simp)).mono ?_; rintro e w' ⟨rfl, rfl⟩))
  go_wp2
  go_ret
  exact ⟨rfl, (hB.alloc hB.size _).drew⟩

end Go.Proofs.YtmpnofbhbglfpaaGreatDoor

namespace Go.Proofs.YtmpnofbhbglfpaaGreatDoor
open Go.RowKit
attribute [local go_sem] size_bstr toList_bstr ls_def

theorem ct_lt {a b : List UInt8} (h : ls a b = true) : ct a b = -1 := by unfold ct; rw [if_pos h]
theorem ct_gt {a b : List UInt8} (h : ls b a = true) : ct a b = 1 := by unfold ct; rw [if_neg (by rw [ls_asymm h]; simp), if_pos h]
theorem ct_self (a : List UInt8) : ct a a = 0 := by unfold ct; rw [ls_irrefl]; rfl
theorem ct_ne {a b : List UInt8} (h : a ≠ b) : ct a b = if ls a b = true then -1 else 1 := by
  rcases ls_tri a b with h1 | h1 | h1
  · rw [ct_lt h1, if_pos h1]
  · exact absurd h1 h
  · rw [ct_gt h1, if_neg (by rw [ls_asymm h1]; simp)]
theorem ct_ne0 {a b : List UInt8} (h : a ≠ b) : ct a b ≠ 0 := by
  rw [ct_ne h]; split <;> decide
theorem ct_zero {a b : List UInt8} : ct a b = 0 ↔ a = b := by
  constructor
  · intro h
    rcases Classical.em (a = b) with e | e
    · exact e
    · exact absurd h (ct_ne0 e)
  · rintro rfl; exact ct_self a

set_option maxHeartbeats 1000000 in
theorem order_any (b : Bool) (w : World) : Calls Tryz.prog 108 #[.bool b] w fun e w' => e = .returned (.int .i64 (if b = true then -1 else 1)) ∧ Below w.heap.size w w' := by
  have hB : Below w.heap.size w w := Below.refl _ _
  cases b with
  | true =>
    go_enter Tryz.func108, Tryz.ntmps108
    go_wp2
    go_ret
    exact ⟨rfl, hB⟩
  | false =>
    go_enter Tryz.func108, Tryz.ntmps108
    go_wp2
    go_ret
    exact ⟨rfl, hB⟩

set_option maxHeartbeats 2000000 in
set_option maxRecDepth 100000 in
theorem RCmp_any (r c : List UInt8) (v : Int) (g : Bool) (x r' c' : List UInt8) (v' : Int) (g' : Bool) (x' : List UInt8) (w : World) :
    Calls Tryz.prog 63 #[cellV r c v g x, cellV r' c' v' g' x'] w fun e w' => e = .returned (.int .i64 (cc r c v r' c' v')) ∧ Below w.heap.size w w' := by
  have hB : Below w.heap.size w ((w.alloc (.cells #[.string (bstr r), .string (bstr c), .int .u64 v, .bool g, .string (bstr x)] 39)).alloc (.cells #[.string (bstr r'), .string (bstr c'), .int .u64 v', .bool g', .string (bstr x')] 39)) := ((Below.refl _ _).alloc (Nat.le_refl _) _).alloc (by simp) _
  by_cases h1 : r = r'
  · subst h1
    by_cases h2 : c = c'
    · subst h2
      by_cases h3 : v = v'
      · subst h3
        have hc : cc r c v r c v = 0 := by unfold cc or3; rw [ct_self, ct_self, if_pos rfl, if_pos rfl]; unfold Lib.compareInt; rw [if_neg (by omega), if_neg (by omega)]
        rw [hc]
        go_enter Tryz.func63, Tryz.ntmps63
        go_wp2
        go_ret
        exact ⟨rfl, hB⟩
      · have g3 : (v == v') = false := by simpa using h3
        have hc : cc r c v r c v' = if decide (v' < v) = true then -1 else 1 := by
          unfold cc or3
          rw [ct_self, ct_self, if_pos rfl, if_pos rfl]
          unfold Lib.compareInt
          by_cases h : v' < v
          · simp [h]
          · rw [if_neg h, if_pos (by omega), if_neg (by simpa using h)]
        rw [hc]
        generalize hq : decide (v' < v) = q
        have ho := order_any q
        generalize (if q = true then (-1 : Int) else 1) = z at ho ⊢
        go_enter Tryz.func63, Tryz.ntmps63
        go_wp2_with fail
        refine (ho _).mono ?_
        rintro e w1 ⟨rfl, hb⟩
        replace hB := below2 hB hb
        clear hb
        go_wp2
        go_ret
        exact ⟨rfl, hB⟩
    · have g2 : (c == c') = false := by simpa using h2
      have hc : cc r c v r c' v' = if ls c c' = true then -1 else 1 := by
        unfold cc or3
        rw [ct_self, if_pos rfl, if_neg (ct_ne0 h2), ct_ne h2]
      rw [hc]
      generalize hq : ls c c' = q
      have ho := order_any q
      generalize (if q = true then (-1 : Int) else 1) = z at ho ⊢
      go_enter Tryz.func63, Tryz.ntmps63
      go_wp2_with fail
      refine (ho _).mono ?_
      rintro e w1 ⟨rfl, hb⟩
      replace hB := below2 hB hb
      clear hb
      go_wp2
      go_ret
      exact ⟨rfl, hB⟩
  · have g1 : (r == r') = false := by simpa using h1
    have hc : cc r c v r' c' v' = if ls r r' = true then -1 else 1 := by
      unfold cc or3
      rw [if_neg (ct_ne0 h1), ct_ne h1]
    rw [hc]
    generalize hq : ls r r' = q
    have ho := order_any q
    generalize (if q = true then (-1 : Int) else 1) = z at ho ⊢
    go_enter Tryz.func63, Tryz.ntmps63
    go_wp2_with fail
    refine (ho _).mono ?_
    rintro e w1 ⟨rfl, hb⟩
    replace hB := below2 hB hb
    clear hb
    go_wp2
    go_ret
    exact ⟨rfl, hB⟩

/-- A cell may be. -/
def mayC (r c : List UInt8) (v : Int) (g : Bool) (x : List UInt8) : Bool :=
  storedB r && decide (c.length ≤ 16) && !(r == [] && c == []) && decide (1 ≤ v) && decide (v ≤ 1099511627776) && decide (x.length ≤ 65536) && !(g && !(x == []))

set_option maxHeartbeats 4000000 in
set_option maxRecDepth 100000 in
theorem Cell_any (r c : List UInt8) (v : Int) (g : Bool) (x : List UInt8) (w : World) :
    Calls Tryz.prog 47 #[cellV r c v g x] w fun e w' => e = .returned (.int .i64 (if mayC r c v g x = true then 0 else 2)) ∧ Below w.heap.size w w' := by
  have hB : Below w.heap.size w (w.alloc (.cells #[.string (bstr r), .string (bstr c), .int .u64 v, .bool g, .string (bstr x)] 39)) := (Below.refl _ _).alloc (Nat.le_refl _) _
  have hA := CellAt.new w 39 r c v g x
  have hst := Stored_any r
  cases h1 : storedB r with
  | false =>
    rw [h1] at hst
    have hm : mayC r c v g x = false := by simp [mayC, h1]
    rw [hm]
    go_enter Tryz.func47, Tryz.ntmps47
    go_wp2_with fail
    refine (hst _).mono ?_
    rintro e w1 ⟨rfl, hb⟩
    obtain ⟨c0, c1, c2, c3, c4⟩ := hA.step hb
    replace hB := below2 hB hb
    clear hb hA
    go_wp2
    go_ret
    exact ⟨rfl, hB⟩
  | true =>
    rw [h1] at hst
    by_cases h2 : c.length ≤ 16
    · have k0 : decide ((16 : Int) < (c.length : Int)) = false := by rw [decide_eq_false_iff_not]; omega
      by_cases h3 : r = []
      · by_cases h3' : c = []
        · have hm : mayC r c v g x = false := by simp [mayC, h3, h3']
          rw [hm]
          subst h3 h3'
          go_enter Tryz.func47, Tryz.ntmps47
          go_wp2_with fail
          refine (hst _).mono ?_
          rintro e w1 ⟨rfl, hb⟩
          obtain ⟨c0, c1, c2, c3, c4⟩ := hA.step hb
          replace hB := below2 hB hb
          clear hb hA
          go_wp2
          go_ret
          exact ⟨rfl, hB⟩
        · have k5 : (c == ([] : List UInt8)) = false := by simpa using h3'
          have k6 : (r == ([] : List UInt8)) = true := by simpa using h3
          clear h3 h3'
          by_cases h4 : 1 ≤ v
          · have k1 : decide (v < 1) = false := by rw [decide_eq_false_iff_not]; omega
            by_cases h5 : v ≤ 1099511627776
            · have k2 : decide ((1099511627776 : Int) < v) = false := by rw [decide_eq_false_iff_not]; omega
              by_cases h6 : x.length ≤ 65536
              · have k3 : decide ((65536 : Int) < (x.length : Int)) = false := by rw [decide_eq_false_iff_not]; omega
                cases g with
                | false =>
                  have hm : mayC r c v false x = true := by simp [mayC, h1, h2, k5, h4, h5, h6]
                  rw [hm]
                  go_enter Tryz.func47, Tryz.ntmps47
                  go_wp2_with fail
                  refine (hst _).mono ?_
                  rintro e w1 ⟨rfl, hb⟩
                  obtain ⟨c0, c1, c2, c3, c4⟩ := hA.step hb
                  replace hB := below2 hB hb
                  clear hb hA
                  go_wp2
                  go_ret
                  exact ⟨rfl, hB⟩
                | true =>
                  by_cases h7 : x = []
                  · have hm : mayC r c v true x = true := by simp [mayC, h1, h2, k5, h4, h5, h7]
                    rw [hm]
                    subst h7
                    go_enter Tryz.func47, Tryz.ntmps47
                    go_wp2_with fail
                    refine (hst _).mono ?_
                    rintro e w1 ⟨rfl, hb⟩
                    obtain ⟨c0, c1, c2, c3, c4⟩ := hA.step hb
                    replace hB := below2 hB hb
                    clear hb hA
                    go_wp2
                    go_ret
                    exact ⟨rfl, hB⟩
                  · have k4 : (x == ([] : List UInt8)) = false := by simpa using h7
                    have hm : mayC r c v true x = false := by simp [mayC, h7]
                    rw [hm]
                    go_enter Tryz.func47, Tryz.ntmps47
                    go_wp2_with fail
                    refine (hst _).mono ?_
                    rintro e w1 ⟨rfl, hb⟩
                    obtain ⟨c0, c1, c2, c3, c4⟩ := hA.step hb
                    replace hB := below2 hB hb
                    clear hb hA
                    go_wp2
                    go_ret
                    exact ⟨rfl, hB⟩
              · have k3 : decide ((65536 : Int) < (x.length : Int)) = true := by rw [decide_eq_true_eq]; omega
                have hm : mayC r c v g x = false := by simp [mayC, h6]
                rw [hm]
                go_enter Tryz.func47, Tryz.ntmps47
                go_wp2_with fail
                refine (hst _).mono ?_
                rintro e w1 ⟨rfl, hb⟩
                obtain ⟨c0, c1, c2, c3, c4⟩ := hA.step hb
                replace hB := below2 hB hb
                clear hb hA
                go_wp2
                go_ret
                exact ⟨rfl, hB⟩
            · have k2 : decide ((1099511627776 : Int) < v) = true := by rw [decide_eq_true_eq]; omega
              have hm : mayC r c v g x = false := by simp [mayC, h5]
              rw [hm]
              go_enter Tryz.func47, Tryz.ntmps47
              go_wp2_with fail
              refine (hst _).mono ?_
              rintro e w1 ⟨rfl, hb⟩
              obtain ⟨c0, c1, c2, c3, c4⟩ := hA.step hb
              replace hB := below2 hB hb
              clear hb hA
              go_wp2
              go_ret
              exact ⟨rfl, hB⟩
          · have k1 : decide (v < 1) = true := by rw [decide_eq_true_eq]; omega
            have hm : mayC r c v g x = false := by simp [mayC, h4]
            rw [hm]
            go_enter Tryz.func47, Tryz.ntmps47
            go_wp2_with fail
            refine (hst _).mono ?_
            rintro e w1 ⟨rfl, hb⟩
            obtain ⟨c0, c1, c2, c3, c4⟩ := hA.step hb
            replace hB := below2 hB hb
            clear hb hA
            go_wp2
            go_ret
            exact ⟨rfl, hB⟩
      · have k6 : (r == ([] : List UInt8)) = false := by simpa using h3
        cases k5 : (c == ([] : List UInt8)) with
        | false =>
          by_cases h4 : 1 ≤ v
          · have k1 : decide (v < 1) = false := by rw [decide_eq_false_iff_not]; omega
            by_cases h5 : v ≤ 1099511627776
            · have k2 : decide ((1099511627776 : Int) < v) = false := by rw [decide_eq_false_iff_not]; omega
              by_cases h6 : x.length ≤ 65536
              · have k3 : decide ((65536 : Int) < (x.length : Int)) = false := by rw [decide_eq_false_iff_not]; omega
                cases g with
                | false =>
                  have hm : mayC r c v false x = true := by simp [mayC, h1, h2, k6, h4, h5, h6]
                  rw [hm]
                  go_enter Tryz.func47, Tryz.ntmps47
                  go_wp2_with fail
                  refine (hst _).mono ?_
                  rintro e w1 ⟨rfl, hb⟩
                  obtain ⟨c0, c1, c2, c3, c4⟩ := hA.step hb
                  replace hB := below2 hB hb
                  clear hb hA
                  go_wp2
                  go_ret
                  exact ⟨rfl, hB⟩
                | true =>
                  by_cases h7 : x = []
                  · have hm : mayC r c v true x = true := by simp [mayC, h1, h2, k6, h4, h5, h7]
                    rw [hm]
                    subst h7
                    go_enter Tryz.func47, Tryz.ntmps47
                    go_wp2_with fail
                    refine (hst _).mono ?_
                    rintro e w1 ⟨rfl, hb⟩
                    obtain ⟨c0, c1, c2, c3, c4⟩ := hA.step hb
                    replace hB := below2 hB hb
                    clear hb hA
                    go_wp2
                    go_ret
                    exact ⟨rfl, hB⟩
                  · have k4 : (x == ([] : List UInt8)) = false := by simpa using h7
                    have hm : mayC r c v true x = false := by simp [mayC, h7]
                    rw [hm]
                    go_enter Tryz.func47, Tryz.ntmps47
                    go_wp2_with fail
                    refine (hst _).mono ?_
                    rintro e w1 ⟨rfl, hb⟩
                    obtain ⟨c0, c1, c2, c3, c4⟩ := hA.step hb
                    replace hB := below2 hB hb
                    clear hb hA
                    go_wp2
                    go_ret
                    exact ⟨rfl, hB⟩
              · have k3 : decide ((65536 : Int) < (x.length : Int)) = true := by rw [decide_eq_true_eq]; omega
                have hm : mayC r c v g x = false := by simp [mayC, h6]
                rw [hm]
                go_enter Tryz.func47, Tryz.ntmps47
                go_wp2_with fail
                refine (hst _).mono ?_
                rintro e w1 ⟨rfl, hb⟩
                obtain ⟨c0, c1, c2, c3, c4⟩ := hA.step hb
                replace hB := below2 hB hb
                clear hb hA
                go_wp2
                go_ret
                exact ⟨rfl, hB⟩
            · have k2 : decide ((1099511627776 : Int) < v) = true := by rw [decide_eq_true_eq]; omega
              have hm : mayC r c v g x = false := by simp [mayC, h5]
              rw [hm]
              go_enter Tryz.func47, Tryz.ntmps47
              go_wp2_with fail
              refine (hst _).mono ?_
              rintro e w1 ⟨rfl, hb⟩
              obtain ⟨c0, c1, c2, c3, c4⟩ := hA.step hb
              replace hB := below2 hB hb
              clear hb hA
              go_wp2
              go_ret
              exact ⟨rfl, hB⟩
          · have k1 : decide (v < 1) = true := by rw [decide_eq_true_eq]; omega
            have hm : mayC r c v g x = false := by simp [mayC, h4]
            rw [hm]
            go_enter Tryz.func47, Tryz.ntmps47
            go_wp2_with fail
            refine (hst _).mono ?_
            rintro e w1 ⟨rfl, hb⟩
            obtain ⟨c0, c1, c2, c3, c4⟩ := hA.step hb
            replace hB := below2 hB hb
            clear hb hA
            go_wp2
            go_ret
            exact ⟨rfl, hB⟩
        | true =>
          by_cases h4 : 1 ≤ v
          · have k1 : decide (v < 1) = false := by rw [decide_eq_false_iff_not]; omega
            by_cases h5 : v ≤ 1099511627776
            · have k2 : decide ((1099511627776 : Int) < v) = false := by rw [decide_eq_false_iff_not]; omega
              by_cases h6 : x.length ≤ 65536
              · have k3 : decide ((65536 : Int) < (x.length : Int)) = false := by rw [decide_eq_false_iff_not]; omega
                cases g with
                | false =>
                  have hm : mayC r c v false x = true := by simp [mayC, h1, h2, k6, h4, h5, h6]
                  rw [hm]
                  go_enter Tryz.func47, Tryz.ntmps47
                  go_wp2_with fail
                  refine (hst _).mono ?_
                  rintro e w1 ⟨rfl, hb⟩
                  obtain ⟨c0, c1, c2, c3, c4⟩ := hA.step hb
                  replace hB := below2 hB hb
                  clear hb hA
                  go_wp2
                  go_ret
                  exact ⟨rfl, hB⟩
                | true =>
                  by_cases h7 : x = []
                  · have hm : mayC r c v true x = true := by simp [mayC, h1, h2, k6, h4, h5, h7]
                    rw [hm]
                    subst h7
                    go_enter Tryz.func47, Tryz.ntmps47
                    go_wp2_with fail
                    refine (hst _).mono ?_
                    rintro e w1 ⟨rfl, hb⟩
                    obtain ⟨c0, c1, c2, c3, c4⟩ := hA.step hb
                    replace hB := below2 hB hb
                    clear hb hA
                    go_wp2
                    go_ret
                    exact ⟨rfl, hB⟩
                  · have k4 : (x == ([] : List UInt8)) = false := by simpa using h7
                    have hm : mayC r c v true x = false := by simp [mayC, h7]
                    rw [hm]
                    go_enter Tryz.func47, Tryz.ntmps47
                    go_wp2_with fail
                    refine (hst _).mono ?_
                    rintro e w1 ⟨rfl, hb⟩
                    obtain ⟨c0, c1, c2, c3, c4⟩ := hA.step hb
                    replace hB := below2 hB hb
                    clear hb hA
                    go_wp2
                    go_ret
                    exact ⟨rfl, hB⟩
              · have k3 : decide ((65536 : Int) < (x.length : Int)) = true := by rw [decide_eq_true_eq]; omega
                have hm : mayC r c v g x = false := by simp [mayC, h6]
                rw [hm]
                go_enter Tryz.func47, Tryz.ntmps47
                go_wp2_with fail
                refine (hst _).mono ?_
                rintro e w1 ⟨rfl, hb⟩
                obtain ⟨c0, c1, c2, c3, c4⟩ := hA.step hb
                replace hB := below2 hB hb
                clear hb hA
                go_wp2
                go_ret
                exact ⟨rfl, hB⟩
            · have k2 : decide ((1099511627776 : Int) < v) = true := by rw [decide_eq_true_eq]; omega
              have hm : mayC r c v g x = false := by simp [mayC, h5]
              rw [hm]
              go_enter Tryz.func47, Tryz.ntmps47
              go_wp2_with fail
              refine (hst _).mono ?_
              rintro e w1 ⟨rfl, hb⟩
              obtain ⟨c0, c1, c2, c3, c4⟩ := hA.step hb
              replace hB := below2 hB hb
              clear hb hA
              go_wp2
              go_ret
              exact ⟨rfl, hB⟩
          · have k1 : decide (v < 1) = true := by rw [decide_eq_true_eq]; omega
            have hm : mayC r c v g x = false := by simp [mayC, h4]
            rw [hm]
            go_enter Tryz.func47, Tryz.ntmps47
            go_wp2_with fail
            refine (hst _).mono ?_
            rintro e w1 ⟨rfl, hb⟩
            obtain ⟨c0, c1, c2, c3, c4⟩ := hA.step hb
            replace hB := below2 hB hb
            clear hb hA
            go_wp2
            go_ret
            exact ⟨rfl, hB⟩
    · have k0 : decide ((16 : Int) < (c.length : Int)) = true := by rw [decide_eq_true_eq]; omega
      have hm : mayC r c v g x = false := by simp [mayC, h2]
      rw [hm]
      go_enter Tryz.func47, Tryz.ntmps47
      go_wp2_with fail
      refine (hst _).mono ?_
      rintro e w1 ⟨rfl, hb⟩
      obtain ⟨c0, c1, c2, c3, c4⟩ := hA.step hb
      replace hB := below2 hB hb
      clear hb hA
      go_wp2
      go_ret
      exact ⟨rfl, hB⟩

set_option maxHeartbeats 4000000 in
set_option maxRecDepth 100000 in
theorem RMayCell_any (r c : List UInt8) (v : Int) (g : Bool) (x : List UInt8) (w : World) :
    Calls Tryz.prog 107 #[cellV r c v g x] w fun e w' => e = .returned (.bool (mayC r c v g x)) ∧ Below w.heap.size w w' := by
  have hB : Below w.heap.size w (w.alloc (.cells #[.string (bstr r), .string (bstr c), .int .u64 v, .bool g, .string (bstr x)] 39)) := (Below.refl _ _).alloc (Nat.le_refl _) _
  have hA := CellAt.new w 39 r c v g x
  have hst := RStored_any r
  cases h1 : storedB r with
  | false =>
    rw [h1] at hst
    have hm : mayC r c v g x = false := by simp [mayC, h1]
    rw [hm]
    go_enter Tryz.func107, Tryz.ntmps107
    go_wp2_with fail
    refine (hst _).mono ?_
    rintro e w1 ⟨rfl, hb⟩
    obtain ⟨c0, c1, c2, c3, c4⟩ := hA.step hb
    replace hB := below2 hB hb
    clear hb hA
    go_wp2
    go_ret
    exact ⟨rfl, hB⟩
  | true =>
    rw [h1] at hst
    by_cases h2 : c.length ≤ 16
    · have k0 : decide ((c.length : Int) ≤ 16) = true := by rw [decide_eq_true_eq]; omega
      by_cases h3 : r = []
      · by_cases h3' : c = []
        · have hm : mayC r c v g x = false := by simp [mayC, h3, h3']
          rw [hm]
          subst h3 h3'
          go_enter Tryz.func107, Tryz.ntmps107
          go_wp2_with fail
          refine (hst _).mono ?_
          rintro e w1 ⟨rfl, hb⟩
          obtain ⟨c0, c1, c2, c3, c4⟩ := hA.step hb
          replace hB := below2 hB hb
          clear hb hA
          go_wp2
          go_ret
          exact ⟨rfl, hB⟩
        · have k5 : (c == ([] : List UInt8)) = false := by simpa using h3'
          have k6 : (r == ([] : List UInt8)) = true := by simpa using h3
          clear h3 h3'
          by_cases h4 : 1 ≤ v
          · have k1 : decide ((1 : Int) ≤ v) = true := by rw [decide_eq_true_eq]; omega
            by_cases h5 : v ≤ 1099511627776
            · have k2 : decide (v ≤ 1099511627776) = true := by rw [decide_eq_true_eq]; omega
              by_cases h6 : x.length ≤ 65536
              · have k3 : decide ((x.length : Int) ≤ 65536) = true := by rw [decide_eq_true_eq]; omega
                cases g with
                | false =>
                  have hm : mayC r c v false x = true := by simp [mayC, h1, h2, k5, h4, h5, h6]
                  rw [hm]
                  go_enter Tryz.func107, Tryz.ntmps107
                  go_wp2_with fail
                  refine (hst _).mono ?_
                  rintro e w1 ⟨rfl, hb⟩
                  obtain ⟨c0, c1, c2, c3, c4⟩ := hA.step hb
                  replace hB := below2 hB hb
                  clear hb hA
                  go_wp2
                  go_ret
                  exact ⟨rfl, hB⟩
                | true =>
                  by_cases h7 : x = []
                  · have hm : mayC r c v true x = true := by simp [mayC, h1, h2, k5, h4, h5, h7]
                    rw [hm]
                    subst h7
                    go_enter Tryz.func107, Tryz.ntmps107
                    go_wp2_with fail
                    refine (hst _).mono ?_
                    rintro e w1 ⟨rfl, hb⟩
                    obtain ⟨c0, c1, c2, c3, c4⟩ := hA.step hb
                    replace hB := below2 hB hb
                    clear hb hA
                    go_wp2
                    go_ret
                    exact ⟨rfl, hB⟩
                  · have k4 : (x == ([] : List UInt8)) = false := by simpa using h7
                    have hm : mayC r c v true x = false := by simp [mayC, h7]
                    rw [hm]
                    go_enter Tryz.func107, Tryz.ntmps107
                    go_wp2_with fail
                    refine (hst _).mono ?_
                    rintro e w1 ⟨rfl, hb⟩
                    obtain ⟨c0, c1, c2, c3, c4⟩ := hA.step hb
                    replace hB := below2 hB hb
                    clear hb hA
                    go_wp2
                    go_ret
                    exact ⟨rfl, hB⟩
              · have k3 : decide ((x.length : Int) ≤ 65536) = false := by rw [decide_eq_false_iff_not]; omega
                have hm : mayC r c v g x = false := by simp [mayC, h6]
                rw [hm]
                go_enter Tryz.func107, Tryz.ntmps107
                go_wp2_with fail
                refine (hst _).mono ?_
                rintro e w1 ⟨rfl, hb⟩
                obtain ⟨c0, c1, c2, c3, c4⟩ := hA.step hb
                replace hB := below2 hB hb
                clear hb hA
                go_wp2
                go_ret
                exact ⟨rfl, hB⟩
            · have k2 : decide (v ≤ 1099511627776) = false := by rw [decide_eq_false_iff_not]; omega
              have hm : mayC r c v g x = false := by simp [mayC, h5]
              rw [hm]
              go_enter Tryz.func107, Tryz.ntmps107
              go_wp2_with fail
              refine (hst _).mono ?_
              rintro e w1 ⟨rfl, hb⟩
              obtain ⟨c0, c1, c2, c3, c4⟩ := hA.step hb
              replace hB := below2 hB hb
              clear hb hA
              go_wp2
              go_ret
              exact ⟨rfl, hB⟩
          · have k1 : decide ((1 : Int) ≤ v) = false := by rw [decide_eq_false_iff_not]; omega
            have hm : mayC r c v g x = false := by simp [mayC, h4]
            rw [hm]
            go_enter Tryz.func107, Tryz.ntmps107
            go_wp2_with fail
            refine (hst _).mono ?_
            rintro e w1 ⟨rfl, hb⟩
            obtain ⟨c0, c1, c2, c3, c4⟩ := hA.step hb
            replace hB := below2 hB hb
            clear hb hA
            go_wp2
            go_ret
            exact ⟨rfl, hB⟩
      · have k6 : (r == ([] : List UInt8)) = false := by simpa using h3
        cases k5 : (c == ([] : List UInt8)) with
        | false =>
          by_cases h4 : 1 ≤ v
          · have k1 : decide ((1 : Int) ≤ v) = true := by rw [decide_eq_true_eq]; omega
            by_cases h5 : v ≤ 1099511627776
            · have k2 : decide (v ≤ 1099511627776) = true := by rw [decide_eq_true_eq]; omega
              by_cases h6 : x.length ≤ 65536
              · have k3 : decide ((x.length : Int) ≤ 65536) = true := by rw [decide_eq_true_eq]; omega
                cases g with
                | false =>
                  have hm : mayC r c v false x = true := by simp [mayC, h1, h2, k6, h4, h5, h6]
                  rw [hm]
                  go_enter Tryz.func107, Tryz.ntmps107
                  go_wp2_with fail
                  refine (hst _).mono ?_
                  rintro e w1 ⟨rfl, hb⟩
                  obtain ⟨c0, c1, c2, c3, c4⟩ := hA.step hb
                  replace hB := below2 hB hb
                  clear hb hA
                  go_wp2
                  go_ret
                  exact ⟨rfl, hB⟩
                | true =>
                  by_cases h7 : x = []
                  · have hm : mayC r c v true x = true := by simp [mayC, h1, h2, k6, h4, h5, h7]
                    rw [hm]
                    subst h7
                    go_enter Tryz.func107, Tryz.ntmps107
                    go_wp2_with fail
                    refine (hst _).mono ?_
                    rintro e w1 ⟨rfl, hb⟩
                    obtain ⟨c0, c1, c2, c3, c4⟩ := hA.step hb
                    replace hB := below2 hB hb
                    clear hb hA
                    go_wp2
                    go_ret
                    exact ⟨rfl, hB⟩
                  · have k4 : (x == ([] : List UInt8)) = false := by simpa using h7
                    have hm : mayC r c v true x = false := by simp [mayC, h7]
                    rw [hm]
                    go_enter Tryz.func107, Tryz.ntmps107
                    go_wp2_with fail
                    refine (hst _).mono ?_
                    rintro e w1 ⟨rfl, hb⟩
                    obtain ⟨c0, c1, c2, c3, c4⟩ := hA.step hb
                    replace hB := below2 hB hb
                    clear hb hA
                    go_wp2
                    go_ret
                    exact ⟨rfl, hB⟩
              · have k3 : decide ((x.length : Int) ≤ 65536) = false := by rw [decide_eq_false_iff_not]; omega
                have hm : mayC r c v g x = false := by simp [mayC, h6]
                rw [hm]
                go_enter Tryz.func107, Tryz.ntmps107
                go_wp2_with fail
                refine (hst _).mono ?_
                rintro e w1 ⟨rfl, hb⟩
                obtain ⟨c0, c1, c2, c3, c4⟩ := hA.step hb
                replace hB := below2 hB hb
                clear hb hA
                go_wp2
                go_ret
                exact ⟨rfl, hB⟩
            · have k2 : decide (v ≤ 1099511627776) = false := by rw [decide_eq_false_iff_not]; omega
              have hm : mayC r c v g x = false := by simp [mayC, h5]
              rw [hm]
              go_enter Tryz.func107, Tryz.ntmps107
              go_wp2_with fail
              refine (hst _).mono ?_
              rintro e w1 ⟨rfl, hb⟩
              obtain ⟨c0, c1, c2, c3, c4⟩ := hA.step hb
              replace hB := below2 hB hb
              clear hb hA
              go_wp2
              go_ret
              exact ⟨rfl, hB⟩
          · have k1 : decide ((1 : Int) ≤ v) = false := by rw [decide_eq_false_iff_not]; omega
            have hm : mayC r c v g x = false := by simp [mayC, h4]
            rw [hm]
            go_enter Tryz.func107, Tryz.ntmps107
            go_wp2_with fail
            refine (hst _).mono ?_
            rintro e w1 ⟨rfl, hb⟩
            obtain ⟨c0, c1, c2, c3, c4⟩ := hA.step hb
            replace hB := below2 hB hb
            clear hb hA
            go_wp2
            go_ret
            exact ⟨rfl, hB⟩
        | true =>
          by_cases h4 : 1 ≤ v
          · have k1 : decide ((1 : Int) ≤ v) = true := by rw [decide_eq_true_eq]; omega
            by_cases h5 : v ≤ 1099511627776
            · have k2 : decide (v ≤ 1099511627776) = true := by rw [decide_eq_true_eq]; omega
              by_cases h6 : x.length ≤ 65536
              · have k3 : decide ((x.length : Int) ≤ 65536) = true := by rw [decide_eq_true_eq]; omega
                cases g with
                | false =>
                  have hm : mayC r c v false x = true := by simp [mayC, h1, h2, k6, h4, h5, h6]
                  rw [hm]
                  go_enter Tryz.func107, Tryz.ntmps107
                  go_wp2_with fail
                  refine (hst _).mono ?_
                  rintro e w1 ⟨rfl, hb⟩
                  obtain ⟨c0, c1, c2, c3, c4⟩ := hA.step hb
                  replace hB := below2 hB hb
                  clear hb hA
                  go_wp2
                  go_ret
                  exact ⟨rfl, hB⟩
                | true =>
                  by_cases h7 : x = []
                  · have hm : mayC r c v true x = true := by simp [mayC, h1, h2, k6, h4, h5, h7]
                    rw [hm]
                    subst h7
                    go_enter Tryz.func107, Tryz.ntmps107
                    go_wp2_with fail
                    refine (hst _).mono ?_
                    rintro e w1 ⟨rfl, hb⟩
                    obtain ⟨c0, c1, c2, c3, c4⟩ := hA.step hb
                    replace hB := below2 hB hb
                    clear hb hA
                    go_wp2
                    go_ret
                    exact ⟨rfl, hB⟩
                  · have k4 : (x == ([] : List UInt8)) = false := by simpa using h7
                    have hm : mayC r c v true x = false := by simp [mayC, h7]
                    rw [hm]
                    go_enter Tryz.func107, Tryz.ntmps107
                    go_wp2_with fail
                    refine (hst _).mono ?_
                    rintro e w1 ⟨rfl, hb⟩
                    obtain ⟨c0, c1, c2, c3, c4⟩ := hA.step hb
                    replace hB := below2 hB hb
                    clear hb hA
                    go_wp2
                    go_ret
                    exact ⟨rfl, hB⟩
              · have k3 : decide ((x.length : Int) ≤ 65536) = false := by rw [decide_eq_false_iff_not]; omega
                have hm : mayC r c v g x = false := by simp [mayC, h6]
                rw [hm]
                go_enter Tryz.func107, Tryz.ntmps107
                go_wp2_with fail
                refine (hst _).mono ?_
                rintro e w1 ⟨rfl, hb⟩
                obtain ⟨c0, c1, c2, c3, c4⟩ := hA.step hb
                replace hB := below2 hB hb
                clear hb hA
                go_wp2
                go_ret
                exact ⟨rfl, hB⟩
            · have k2 : decide (v ≤ 1099511627776) = false := by rw [decide_eq_false_iff_not]; omega
              have hm : mayC r c v g x = false := by simp [mayC, h5]
              rw [hm]
              go_enter Tryz.func107, Tryz.ntmps107
              go_wp2_with fail
              refine (hst _).mono ?_
              rintro e w1 ⟨rfl, hb⟩
              obtain ⟨c0, c1, c2, c3, c4⟩ := hA.step hb
              replace hB := below2 hB hb
              clear hb hA
              go_wp2
              go_ret
              exact ⟨rfl, hB⟩
          · have k1 : decide ((1 : Int) ≤ v) = false := by rw [decide_eq_false_iff_not]; omega
            have hm : mayC r c v g x = false := by simp [mayC, h4]
            rw [hm]
            go_enter Tryz.func107, Tryz.ntmps107
            go_wp2_with fail
            refine (hst _).mono ?_
            rintro e w1 ⟨rfl, hb⟩
            obtain ⟨c0, c1, c2, c3, c4⟩ := hA.step hb
            replace hB := below2 hB hb
            clear hb hA
            go_wp2
            go_ret
            exact ⟨rfl, hB⟩
    · have k0 : decide ((c.length : Int) ≤ 16) = false := by rw [decide_eq_false_iff_not]; omega
      have hm : mayC r c v g x = false := by simp [mayC, h2]
      rw [hm]
      go_enter Tryz.func107, Tryz.ntmps107
      go_wp2_with fail
      refine (hst _).mono ?_
      rintro e w1 ⟨rfl, hb⟩
      obtain ⟨c0, c1, c2, c3, c4⟩ := hA.step hb
      replace hB := below2 hB hb
      clear hb hA
      go_wp2
      go_ret
      exact ⟨rfl, hB⟩

set_option maxHeartbeats 1000000 in
theorem RCell_any (r c : List UInt8) (v : Int) (g : Bool) (x : List UInt8) (w : World) :
    Calls Tryz.prog 62 #[cellV r c v g x] w fun e w' => e = .returned (.int .i64 (if mayC r c v g x = true then 0 else 2)) ∧ Below w.heap.size w w' := by
  have hB : Below w.heap.size w (w.alloc (.cells #[.string (bstr r), .string (bstr c), .int .u64 v, .bool g, .string (bstr x)] 39)) := (Below.refl _ _).alloc (Nat.le_refl _) _
  have hc := RMayCell_any r c v g x (w.alloc (.cells #[.string (bstr r), .string (bstr c), .int .u64 v, .bool g, .string (bstr x)] 39))
  cases hq : mayC r c v g x with
  | true =>
    rw [hq] at hc
    go_enter Tryz.func62, Tryz.ntmps62
    go_wp2_with fail
    refine hc.mono ?_
    rintro e w1 ⟨rfl, hb1⟩
    replace hB := below2 hB hb1
    go_wp2
    go_ret
    exact ⟨rfl, hB⟩
  | false =>
    rw [hq] at hc
    go_enter Tryz.func62, Tryz.ntmps62
    go_wp2_with fail
    refine hc.mono ?_
    rintro e w1 ⟨rfl, hb1⟩
    replace hB := below2 hB hb1
    go_wp2
    go_ret
    exact ⟨rfl, hB⟩

end Go.Proofs.YtmpnofbhbglfpaaGreatDoor
