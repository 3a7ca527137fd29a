/-
  The contracts of the document's own order of cells, and of the two functions that say whether a cell may be.
-/
import Derived.Test.YtnpjbdbhjbccbaaKCmp
namespace Go.Proofs.Ytnpjbdbhjbccbaa
open Go.RowKit
attribute [local go_sem] size_bstr toList_bstr ls_def

theorem ct_lt {a b : List UInt8} (h : ls a b = true) : ct a b = -1 := by unfold ct; rw [if_pos h]
theorem ct_gt {a b : List UInt8} (h : ls b a = true) : ct a b = 1 := by unfold ct; rw [if_neg (by rw [ls_asymm h]; simp), if_pos h]
theorem ct_self (a : List UInt8) : ct a a = 0 := by unfold ct; rw [ls_irrefl]; rfl
theorem ct_ne {a b : List UInt8} (h : a ≠ b) : ct a b = if ls a b = true then -1 else 1 := by
  rcases ls_tri a b with h1 | h1 | h1
  · rw [ct_lt h1, if_pos h1]
  · exact absurd h1 h
  · rw [ct_gt h1, if_neg (by rw [ls_asymm h1]; simp)]
theorem ct_ne0 {a b : List UInt8} (h : a ≠ b) : ct a b ≠ 0 := by
  rw [ct_ne h]; split <;> decide
theorem ct_zero {a b : List UInt8} : ct a b = 0 ↔ a = b := by
  constructor
  · intro h
    rcases Classical.em (a = b) with e | e
    · exact e
    · exact absurd h (ct_ne0 e)
  · rintro rfl; exact ct_self a

set_option maxHeartbeats 1000000 in
theorem order_any (b : Bool) (w : World) : Calls Try.prog 70 #[.bool b] w fun e w' => e = .returned (.int .i64 (if b = true then -1 else 1)) ∧ Below w.heap.size w w' := by
  have hB : Below w.heap.size w w := Below.refl _ _
  cases b with
  | true =>
    go_enter Try.func70, Try.ntmps70
    go_wp2
    go_ret
    exact ⟨rfl, hB⟩
  | false =>
    go_enter Try.func70, Try.ntmps70
    go_wp2
    go_ret
    exact ⟨rfl, hB⟩

set_option maxHeartbeats 2000000 in
set_option maxRecDepth 100000 in
theorem RCmp_any (r c : List UInt8) (v : Int) (g : Bool) (x r' c' : List UInt8) (v' : Int) (g' : Bool) (x' : List UInt8) (w : World) :
    Calls Try.prog 58 #[cellV r c v g x, cellV r' c' v' g' x'] w fun e w' => e = .returned (.int .i64 (cc r c v r' c' v')) ∧ Below w.heap.size w w' := by
  have hB : Below w.heap.size w ((w.alloc (.cells #[.string (bstr r), .string (bstr c), .int .u64 v, .bool g, .string (bstr x)] 39)).alloc (.cells #[.string (bstr r'), .string (bstr c'), .int .u64 v', .bool g', .string (bstr x')] 39)) := ((Below.refl _ _).alloc (Nat.le_refl _) _).alloc (by simp) _
  by_cases h1 : r = r'
  · subst h1
    by_cases h2 : c = c'
    · subst h2
      by_cases h3 : v = v'
      · subst h3
        have hc : cc r c v r c v = 0 := by unfold cc or3; rw [ct_self, ct_self, if_pos rfl, if_pos rfl]; unfold Lib.compareInt; rw [if_neg (by omega), if_neg (by omega)]
        rw [hc]
        go_enter Try.func58, Try.ntmps58
        go_wp2
        go_ret
        exact ⟨rfl, hB⟩
      · have g3 : (v == v') = false := by simpa using h3
        have hc : cc r c v r c v' = if decide (v' < v) = true then -1 else 1 := by
          unfold cc or3
          rw [ct_self, ct_self, if_pos rfl, if_pos rfl]
          unfold Lib.compareInt
          by_cases h : v' < v
          · simp [h]
          · rw [if_neg h, if_pos (by omega), if_neg (by simpa using h)]
        rw [hc]
        generalize hq : decide (v' < v) = q
        have ho := order_any q
        generalize (if q = true then (-1 : Int) else 1) = z at ho ⊢
        go_enter Try.func58, Try.ntmps58
        go_wp2_with fail
        refine (ho _).mono ?_
        rintro e w1 ⟨rfl, hb⟩
        replace hB := below2 hB hb
        clear hb
        go_wp2
        go_ret
        exact ⟨rfl, hB⟩
    · have g2 : (c == c') = false := by simpa using h2
      have hc : cc r c v r c' v' = if ls c c' = true then -1 else 1 := by
        unfold cc or3
        rw [ct_self, if_pos rfl, if_neg (ct_ne0 h2), ct_ne h2]
      rw [hc]
      generalize hq : ls c c' = q
      have ho := order_any q
      generalize (if q = true then (-1 : Int) else 1) = z at ho ⊢
      go_enter Try.func58, Try.ntmps58
      go_wp2_with fail
      refine (ho _).mono ?_
      rintro e w1 ⟨rfl, hb⟩
      replace hB := below2 hB hb
      clear hb
      go_wp2
      go_ret
      exact ⟨rfl, hB⟩
  · have g1 : (r == r') = false := by simpa using h1
    have hc : cc r c v r' c' v' = if ls r r' = true then -1 else 1 := by
      unfold cc or3
      rw [if_neg (ct_ne0 h1), ct_ne h1]
    rw [hc]
    generalize hq : ls r r' = q
    have ho := order_any q
    generalize (if q = true then (-1 : Int) else 1) = z at ho ⊢
    go_enter Try.func58, Try.ntmps58
    go_wp2_with fail
    refine (ho _).mono ?_
    rintro e w1 ⟨rfl, hb⟩
    replace hB := below2 hB hb
    clear hb
    go_wp2
    go_ret
    exact ⟨rfl, hB⟩

/-- A cell may be. -/
def mayC (r c : List UInt8) (v : Int) (g : Bool) (x : List UInt8) : Bool :=
  storedB r && decide (c.length ≤ 16) && !(r == [] && c == []) && decide (1 ≤ v) && decide (v ≤ 1099511627776) && decide (x.length ≤ 65536) && !(g && !(x == []))

end Go.Proofs.Ytnpjbdbhjbccbaa
