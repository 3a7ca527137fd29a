/-
  The contracts of the document's own order of cells, and of the two functions that say whether a cell may be.
-/
import Derived.Test.YtijfmgpipnhkkaaKCmp
namespace Go.Proofs.Ytijfmgpipnhkkaa
open Go.RowKit
attribute [local go_sem] size_bstr toList_bstr ls_def

theorem ct_lt {a b : List UInt8} (h : ls a b = true) : ct a b = -1 := by unfold ct; rw [if_pos h]
theorem ct_gt {a b : List UInt8} (h : ls b a = true) : ct a b = 1 := by unfold ct; rw [if_neg (by rw [ls_asymm h]; simp), if_pos h]
theorem ct_self (a : List UInt8) : ct a a = 0 := by unfold ct; rw [ls_irrefl]; rfl
theorem ct_ne {a b : List UInt8} (h : a ≠ b) : ct a b = if ls a b = true then -1 else 1 := by
  rcases ls_tri a b with h1 | h1 | h1
  · rw [ct_lt h1, if_pos h1]
  · exact absurd h1 h
  · rw [ct_gt h1, if_neg (by rw [ls_asymm h1]; simp)]
theorem ct_ne0 {a b : List UInt8} (h : a ≠ b) : ct a b ≠ 0 := by
  rw [ct_ne h]; split <;> decide
theorem ct_zero {a b : List UInt8} : ct a b = 0 ↔ a = b := by
  constructor
  · intro h
    rcases Classical.em (a = b) with e | e
    · exact e
    · exact absurd h (ct_ne0 e)
  · rintro rfl; exact ct_self a

set_option maxHeartbeats 1000000 in
theorem order_any (b : Bool) (w : World) : Calls Try.prog 31 #[.bool b] w fun e w' => e = .returned (.int .i64 (if b = true then -1 else 1)) ∧ Below w.heap.size w w' := by
  have hB : Below w.heap.size w w := Below.refl _ _
  cases b with
  | true =>
    go_enter Try.func31, Try.ntmps31
    go_wp2
    go_ret
    exact ⟨rfl, hB⟩
  | false =>
    go_enter Try.func31, Try.ntmps31
    go_wp2
    go_ret
    exact ⟨rfl, hB⟩

set_option maxHeartbeats 2000000 in
set_option maxRecDepth 100000 in
theorem RCmp_any (r c : List UInt8) (v : Int) (g : Bool) (x r' c' : List UInt8) (v' : Int) (g' : Bool) (x' : List UInt8) (w : World) :
    Calls Try.prog 17 #[cellV r c v g x, cellV r' c' v' g' x'] w fun e w' => e = .returned (.int .i64 (cc r c v r' c' v')) ∧ Below w.heap.size w w' := by
  have hB : Below w.heap.size w ((w.alloc (.cells #[.string (bstr r), .string (bstr c), .int .u64 v, .bool g, .string (bstr x)] 34)).alloc (.cells #[.string (bstr r'), .string (bstr c'), .int .u64 v', .bool g', .string (bstr x')] 34)) := ((Below.refl _ _).alloc (Nat.le_refl _) _).alloc (by simp) _
  by_cases h1 : r = r'
  · subst h1
    by_cases h2 : c = c'
    · subst h2
      by_cases h3 : v = v'
      · subst h3
        have hc : cc r c v r c v = 0 := by unfold cc or3; rw [ct_self, ct_self, if_pos rfl, if_pos rfl]; unfold Lib.compareInt; rw [if_neg (by omega), if_neg (by omega)]
        rw [hc]
        go_enter Try.func17, Try.ntmps17
        go_wp2
        go_ret
        exact ⟨rfl, hB⟩
      · have g3 : (v == v') = false := by simpa using h3
        have hc : cc r c v r c v' = if decide (v' < v) = true then -1 else 1 := by
          unfold cc or3
          rw [ct_self, ct_self, if_pos rfl, if_pos rfl]
          unfold Lib.compareInt
          by_cases h : v' < v
          · simp [h]
          · rw [if_neg h, if_pos (by omega), if_neg (by simpa using h)]
        rw [hc]
        generalize hq : decide (v' < v) = q
        have ho := order_any q
        generalize (if q = true then (-1 : Int) else 1) = z at ho ⊢
        go_enter Try.func17, Try.ntmps17
        go_wp2_with fail
        refine (ho _).mono ?_
        rintro e w1 ⟨rfl, hb⟩
        replace hB := below2 hB hb
        clear hb
        go_wp2
        go_ret
        exact ⟨rfl, hB⟩
    · have g2 : (c == c') = false := by simpa using h2
      have hc : cc r c v r c' v' = if ls c c' = true then -1 else 1 := by
        unfold cc or3
        rw [ct_self, if_pos rfl, if_neg (ct_ne0 h2), ct_ne h2]
      rw [hc]
      generalize hq : ls c c' = q
      have ho := order_any q
      generalize (if q = true then (-1 : Int) else 1) = z at ho ⊢
      go_enter Try.func17, Try.ntmps17
      go_wp2_with fail
      refine (ho _).mono ?_
      rintro e w1 ⟨rfl, hb⟩
      replace hB := below2 hB hb
      clear hb
      go_wp2
      go_ret
      exact ⟨rfl, hB⟩
  · have g1 : (r == r') = false := by simpa using h1
    have hc : cc r c v r' c' v' = if ls r r' = true then -1 else 1 := by
      unfold cc or3
      rw [if_neg (ct_ne0 h1), ct_ne h1]
    rw [hc]
    generalize hq : ls r r' = q
    have ho := order_any q
    generalize (if q = true then (-1 : Int) else 1) = z at ho ⊢
    go_enter Try.func17, Try.ntmps17
    go_wp2_with fail
    refine (ho _).mono ?_
    rintro e w1 ⟨rfl, hb⟩
    replace hB := below2 hB hb
    clear hb
    go_wp2
    go_ret
    exact ⟨rfl, hB⟩

/-- A cell may be. -/
def mayC (r c : List UInt8) (v : Int) (g : Bool) (x : List UInt8) : Bool :=
  storedB r && decide (c.length ≤ 16) && !(r == [] && c == []) && decide (1 ≤ v) && decide (v ≤ 1099511627776) && decide (x.length ≤ 65536) && !(g && !(x == []))

set_option maxHeartbeats 4000000 in
set_option maxRecDepth 100000 in
theorem Cell_any (r c : List UInt8) (v : Int) (g : Bool) (x : List UInt8) (w : World) :
    Calls Try.prog 19 #[cellV r c v g x] w fun e w' => e = .returned (.int .i64 (if mayC r c v g x = true then 0 else 2)) ∧ Below w.heap.size w w' := by
  have hB : Below w.heap.size w (w.alloc (.cells #[.string (bstr r), .string (bstr c), .int .u64 v, .bool g, .string (bstr x)] 34)) := (Below.refl _ _).alloc (Nat.le_refl _) _
  have hA := CellAt.new w 34 r c v g x
  have hst := Stored_any r
  cases h1 : storedB r with
  | false =>
    rw [h1] at hst
    have hm : mayC r c v g x = false := by simp [mayC, h1]
    rw [hm]
    go_enter Try.func19, Try.ntmps19
    go_wp2_with fail
    refine (hst _).mono ?_
    rintro e w1 ⟨rfl, hb⟩
    obtain ⟨c0, c1, c2, c3, c4⟩ := hA.step hb
    replace hB := below2 hB hb
    clear hb hA
    go_wp2
    go_ret
    exact ⟨rfl, hB⟩
  | true =>
    rw [h1] at hst
    by_cases h2 : c.length ≤ 16
    · have k0 : decide ((16 : Int) < (c.length : Int)) = false := by rw [decide_eq_false_iff_not]; omega
      by_cases h3 : r = []
      · by_cases h3' : c = []
        · have hm : mayC r c v g x = false := by simp [mayC, h3, h3']
          rw [hm]
          subst h3 h3'
          go_enter Try.func19, Try.ntmps19
          go_wp2_with fail
          refine (hst _).mono ?_
          rintro e w1 ⟨rfl, hb⟩
          obtain ⟨c0, c1, c2, c3, c4⟩ := hA.step hb
          replace hB := below2 hB hb
          clear hb hA
          go_wp2
          go_ret
          exact ⟨rfl, hB⟩
        · have k5 : (c == ([] : List UInt8)) = false := by simpa using h3'
          have k6 : (r == ([] : List UInt8)) = true := by simpa using h3
          clear h3 h3'
          by_cases h4 : 1 ≤ v
          · have k1 : decide (v < 1) = false := by rw [decide_eq_false_iff_not]; omega
            by_cases h5 : v ≤ 1099511627776
            · have k2 : decide ((1099511627776 : Int) < v) = false := by rw [decide_eq_false_iff_not]; omega
              by_cases h6 : x.length ≤ 65536
              · have k3 : decide ((65536 : Int) < (x.length : Int)) = false := by rw [decide_eq_false_iff_not]; omega
                cases g with
                | false =>
                  have hm : mayC r c v false x = true := by simp [mayC, h1, h2, k5, h4, h5, h6]
                  rw [hm]
                  go_enter Try.func19, Try.ntmps19
                  go_wp2_with fail
                  refine (hst _).mono ?_
                  rintro e w1 ⟨rfl, hb⟩
                  obtain ⟨c0, c1, c2, c3, c4⟩ := hA.step hb
                  replace hB := below2 hB hb
                  clear hb hA
                  go_wp2
                  go_ret
                  exact ⟨rfl, hB⟩
                | true =>
                  by_cases h7 : x = []
                  · have hm : mayC r c v true x = true := by simp [mayC, h1, h2, k5, h4, h5, h7]
                    rw [hm]
                    subst h7
                    go_enter Try.func19, Try.ntmps19
                    go_wp2_with fail
                    refine (hst _).mono ?_
                    rintro e w1 ⟨rfl, hb⟩
                    obtain ⟨c0, c1, c2, c3, c4⟩ := hA.step hb
                    replace hB := below2 hB hb
                    clear hb hA
                    go_wp2
                    go_ret
                    exact ⟨rfl, hB⟩
                  · have k4 : (x == ([] : List UInt8)) = false := by simpa using h7
                    have hm : mayC r c v true x = false := by simp [mayC, h7]
                    rw [hm]
                    go_enter Try.func19, Try.ntmps19
                    go_wp2_with fail
                    refine (hst _).mono ?_
                    rintro e w1 ⟨rfl, hb⟩
                    obtain ⟨c0, c1, c2, c3, c4⟩ := hA.step hb
                    replace hB := below2 hB hb
                    clear hb hA
                    go_wp2
                    go_ret
                    exact ⟨rfl, hB⟩
              · have k3 : decide ((65536 : Int) < (x.length : Int)) = true := by rw [decide_eq_true_eq]; omega
                have hm : mayC r c v g x = false := by simp [mayC, h6]
                rw [hm]
                go_enter Try.func19, Try.ntmps19
                go_wp2_with fail
                refine (hst _).mono ?_
                rintro e w1 ⟨rfl, hb⟩
                obtain ⟨c0, c1, c2, c3, c4⟩ := hA.step hb
                replace hB := below2 hB hb
                clear hb hA
                go_wp2
                go_ret
                exact ⟨rfl, hB⟩
            · have k2 : decide ((1099511627776 : Int) < v) = true := by rw [decide_eq_true_eq]; omega
              have hm : mayC r c v g x = false := by simp [mayC, h5]
              rw [hm]
              go_enter Try.func19, Try.ntmps19
              go_wp2_with fail
              refine (hst _).mono ?_
              rintro e w1 ⟨rfl, hb⟩
              obtain ⟨c0, c1, c2, c3, c4⟩ := hA.step hb
              replace hB := below2 hB hb
              clear hb hA
              go_wp2
              go_ret
              exact ⟨rfl, hB⟩
          · have k1 : decide (v < 1) = true := by rw [decide_eq_true_eq]; omega
            have hm : mayC r c v g x = false := by simp [mayC, h4]
            rw [hm]
            go_enter Try.func19, Try.ntmps19
            go_wp2_with fail
            refine (hst _).mono ?_
            rintro e w1 ⟨rfl, hb⟩
            obtain ⟨c0, c1, c2, c3, c4⟩ := hA.step hb
            replace hB := below2 hB hb
            clear hb hA
            go_wp2
            go_ret
            exact ⟨rfl, hB⟩
      · have k6 : (r == ([] : List UInt8)) = false := by simpa using h3
        cases k5 : (c == ([] : List UInt8)) with
        | false =>
          by_cases h4 : 1 ≤ v
          · have k1 : decide (v < 1) = false := by rw [decide_eq_false_iff_not]; omega
            by_cases h5 : v ≤ 1099511627776
            · have k2 : decide ((1099511627776 : Int) < v) = false := by rw [decide_eq_false_iff_not]; omega
              by_cases h6 : x.length ≤ 65536
              · have k3 : decide ((65536 : Int) < (x.length : Int)) = false := by rw [decide_eq_false_iff_not]; omega
                cases g with
                | false =>
                  have hm : mayC r c v false x = true := by simp [mayC, h1, h2, k6, h4, h5, h6]
                  rw [hm]
                  go_enter Try.func19, Try.ntmps19
                  go_wp2_with fail
                  refine (hst _).mono ?_
                  rintro e w1 ⟨rfl, hb⟩
                  obtain ⟨c0, c1, c2, c3, c4⟩ := hA.step hb
                  replace hB := below2 hB hb
                  clear hb hA
                  go_wp2
                  go_ret
                  exact ⟨rfl, hB⟩
                | true =>
                  by_cases h7 : x = []
                  · have hm : mayC r c v true x = true := by simp [mayC, h1, h2, k6, h4, h5, h7]
                    rw [hm]
                    subst h7
                    go_enter Try.func19, Try.ntmps19
                    go_wp2_with fail
                    refine (hst _).mono ?_
                    rintro e w1 ⟨rfl, hb⟩
                    obtain ⟨c0, c1, c2, c3, c4⟩ := hA.step hb
                    replace hB := below2 hB hb
                    clear hb hA
                    go_wp2
                    go_ret
                    exact ⟨rfl, hB⟩
                  · have k4 : (x == ([] : List UInt8)) = false := by simpa using h7
                    have hm : mayC r c v true x = false := by simp [mayC, h7]
                    rw [hm]
                    go_enter Try.func19, Try.ntmps19
                    go_wp2_with fail
                    refine (hst _).mono ?_
                    rintro e w1 ⟨rfl, hb⟩
                    obtain ⟨c0, c1, c2, c3, c4⟩ := hA.step hb
                    replace hB := below2 hB hb
                    clear hb hA
                    go_wp2
                    go_ret
                    exact ⟨rfl, hB⟩
              · have k3 : decide ((65536 : Int) < (x.length : Int)) = true := by rw [decide_eq_true_eq]; omega
                have hm : mayC r c v g x = false := by simp [mayC, h6]
                rw [hm]
                go_enter Try.func19, Try.ntmps19
                go_wp2_with fail
                refine (hst _).mono ?_
                rintro e w1 ⟨rfl, hb⟩
                obtain ⟨c0, c1, c2, c3, c4⟩ := hA.step hb
                replace hB := below2 hB hb
                clear hb hA
                go_wp2
                go_ret
                exact ⟨rfl, hB⟩
            · have k2 : decide ((1099511627776 : Int) < v) = true := by rw [decide_eq_true_eq]; omega
              have hm : mayC r c v g x = false := by simp [mayC, h5]
              rw [hm]
              go_enter Try.func19, Try.ntmps19
              go_wp2_with fail
              refine (hst _).mono ?_
              rintro e w1 ⟨rfl, hb⟩
              obtain ⟨c0, c1, c2, c3, c4⟩ := hA.step hb
              replace hB := below2 hB hb
              clear hb hA
              go_wp2
              go_ret
              exact ⟨rfl, hB⟩
          · have k1 : decide (v < 1) = true := by rw [decide_eq_true_eq]; omega
            have hm : mayC r c v g x = false := by simp [mayC, h4]
            rw [hm]
            go_enter Try.func19, Try.ntmps19
            go_wp2_with fail
            refine (hst _).mono ?_
            rintro e w1 ⟨rfl, hb⟩
            obtain ⟨c0, c1, c2, c3, c4⟩ := hA.step hb
            replace hB := below2 hB hb
            clear hb hA
            go_wp2
            go_ret
            exact ⟨rfl, hB⟩
        | true =>
          by_cases h4 : 1 ≤ v
          · have k1 : decide (v < 1) = false := by rw [decide_eq_false_iff_not]; omega
            by_cases h5 : v ≤ 1099511627776
            · have k2 : decide ((1099511627776 : Int) < v) = false := by rw [decide_eq_false_iff_not]; omega
              by_cases h6 : x.length ≤ 65536
              · have k3 : decide ((65536 : Int) < (x.length : Int)) = false := by rw [decide_eq_false_iff_not]; omega
                cases g with
                | false =>
                  have hm : mayC r c v false x = true := by simp [mayC, h1, h2, k6, h4, h5, h6]
                  rw [hm]
                  go_enter Try.func19, Try.ntmps19
                  go_wp2_with fail
                  refine (hst _).mono ?_
                  rintro e w1 ⟨rfl, hb⟩
                  obtain ⟨c0, c1, c2, c3, c4⟩ := hA.step hb
                  replace hB := below2 hB hb
                  clear hb hA
                  go_wp2
                  go_ret
                  exact ⟨rfl, hB⟩
                | true =>
                  by_cases h7 : x = []
                  · have hm : mayC r c v true x = true := by simp [mayC, h1, h2, k6, h4, h5, h7]
                    rw [hm]
                    subst h7
                    go_enter Try.func19, Try.ntmps19
                    go_wp2_with fail
                    refine (hst _).mono ?_
                    rintro e w1 ⟨rfl, hb⟩
                    obtain ⟨c0, c1, c2, c3, c4⟩ := hA.step hb
                    replace hB := below2 hB hb
                    clear hb hA
                    go_wp2
                    go_ret
                    exact ⟨rfl, hB⟩
                  · have k4 : (x == ([] : List UInt8)) = false := by simpa using h7
                    have hm : mayC r c v true x = false := by simp [mayC, h7]
                    rw [hm]
                    go_enter Try.func19, Try.ntmps19
                    go_wp2_with fail
                    refine (hst _).mono ?_
                    rintro e w1 ⟨rfl, hb⟩
                    obtain ⟨c0, c1, c2, c3, c4⟩ := hA.step hb
                    replace hB := below2 hB hb
                    clear hb hA
                    go_wp2
                    go_ret
                    exact ⟨rfl, hB⟩
              · have k3 : decide ((65536 : Int) < (x.length : Int)) = true := by rw [decide_eq_true_eq]; omega
                have hm : mayC r c v g x = false := by simp [mayC, h6]
                rw [hm]
                go_enter Try.func19, Try.ntmps19
                go_wp2_with fail
                refine (hst _).mono ?_
                rintro e w1 ⟨rfl, hb⟩
                obtain ⟨c0, c1, c2, c3, c4⟩ := hA.step hb
                replace hB := below2 hB hb
                clear hb hA
                go_wp2
                go_ret
                exact ⟨rfl, hB⟩
            · have k2 : decide ((1099511627776 : Int) < v) = true := by rw [decide_eq_true_eq]; omega
              have hm : mayC r c v g x = false := by simp [mayC, h5]
              rw [hm]
              go_enter Try.func19, Try.ntmps19
              go_wp2_with fail
              refine (hst _).mono ?_
              rintro e w1 ⟨rfl, hb⟩
              obtain ⟨c0, c1, c2, c3, c4⟩ := hA.step hb
              replace hB := below2 hB hb
              clear hb hA
              go_wp2
              go_ret
              exact ⟨rfl, hB⟩
          · have k1 : decide (v < 1) = true := by rw [decide_eq_true_eq]; omega
            have hm : mayC r c v g x = false := by simp [mayC, h4]
            rw [hm]
            go_enter Try.func19, Try.ntmps19
            go_wp2_with fail
            refine (hst _).mono ?_
            rintro e w1 ⟨rfl, hb⟩
            obtain ⟨c0, c1, c2, c3, c4⟩ := hA.step hb
            replace hB := below2 hB hb
            clear hb hA
            go_wp2
            go_ret
            exact ⟨rfl, hB⟩
    · have k0 : decide ((16 : Int) < (c.length : Int)) = true := by rw [decide_eq_true_eq]; omega
      have hm : mayC r c v g x = false := by simp [mayC, h2]
      rw [hm]
      go_enter Try.func19, Try.ntmps19
      go_wp2_with fail
      refine (hst _).mono ?_
      rintro e w1 ⟨rfl, hb⟩
      obtain ⟨c0, c1, c2, c3, c4⟩ := hA.step hb
      replace hB := below2 hB hb
      clear hb hA
      go_wp2
      go_ret
      exact ⟨rfl, hB⟩

set_option maxHeartbeats 4000000 in
set_option maxRecDepth 100000 in
theorem RMayCell_any (r c : List UInt8) (v : Int) (g : Bool) (x : List UInt8) (w : World) :
    Calls Try.prog 30 #[cellV r c v g x] w fun e w' => e = .returned (.bool (mayC r c v g x)) ∧ Below w.heap.size w w' := by
  have hB : Below w.heap.size w (w.alloc (.cells #[.string (bstr r), .string (bstr c), .int .u64 v, .bool g, .string (bstr x)] 34)) := (Below.refl _ _).alloc (Nat.le_refl _) _
  have hA := CellAt.new w 34 r c v g x
  have hst := RStored_any r
  cases h1 : storedB r with
  | false =>
    rw [h1] at hst
    have hm : mayC r c v g x = false := by simp [mayC, h1]
    rw [hm]
    go_enter Try.func30, Try.ntmps30
    go_wp2_with fail
    refine (hst _).mono ?_
    rintro e w1 ⟨rfl, hb⟩
    obtain ⟨c0, c1, c2, c3, c4⟩ := hA.step hb
    replace hB := below2 hB hb
    clear hb hA
    go_wp2
    go_ret
    exact ⟨rfl, hB⟩
  | true =>
    rw [h1] at hst
    by_cases h2 : c.length ≤ 16
    · have k0 : decide ((c.length : Int) ≤ 16) = true := by rw [decide_eq_true_eq]; omega
      by_cases h3 : r = []
      · by_cases h3' : c = []
        · have hm : mayC r c v g x = false := by simp [mayC, h3, h3']
          rw [hm]
          subst h3 h3'
          go_enter Try.func30, Try.ntmps30
          go_wp2_with fail
          refine (hst _).mono ?_
          rintro e w1 ⟨rfl, hb⟩
          obtain ⟨c0, c1, c2, c3, c4⟩ := hA.step hb
          replace hB := below2 hB hb
          clear hb hA
          go_wp2
          go_ret
          exact ⟨rfl, hB⟩
        · have k5 : (c == ([] : List UInt8)) = false := by simpa using h3'
          have k6 : (r == ([] : List UInt8)) = true := by simpa using h3
          clear h3 h3'
          by_cases h4 : 1 ≤ v
          · have k1 : decide ((1 : Int) ≤ v) = true := by rw [decide_eq_true_eq]; omega
            by_cases h5 : v ≤ 1099511627776
            · have k2 : decide (v ≤ 1099511627776) = true := by rw [decide_eq_true_eq]; omega
              by_cases h6 : x.length ≤ 65536
              · have k3 : decide ((x.length : Int) ≤ 65536) = true := by rw [decide_eq_true_eq]; omega
                cases g with
                | false =>
                  have hm : mayC r c v false x = true := by simp [mayC, h1, h2, k5, h4, h5, h6]
                  rw [hm]
                  go_enter Try.func30, Try.ntmps30
                  go_wp2_with fail
                  refine (hst _).mono ?_
                  rintro e w1 ⟨rfl, hb⟩
                  obtain ⟨c0, c1, c2, c3, c4⟩ := hA.step hb
                  replace hB := below2 hB hb
                  clear hb hA
                  go_wp2
                  go_ret
                  exact ⟨rfl, hB⟩
                | true =>
                  by_cases h7 : x = []
                  · have hm : mayC r c v true x = true := by simp [mayC, h1, h2, k5, h4, h5, h7]
                    rw [hm]
                    subst h7
                    go_enter Try.func30, Try.ntmps30
                    go_wp2_with fail
                    refine (hst _).mono ?_
                    rintro e w1 ⟨rfl, hb⟩
                    obtain ⟨c0, c1, c2, c3, c4⟩ := hA.step hb
                    replace hB := below2 hB hb
                    clear hb hA
                    go_wp2
                    go_ret
                    exact ⟨rfl, hB⟩
                  · have k4 : (x == ([] : List UInt8)) = false := by simpa using h7
                    have hm : mayC r c v true x = false := by simp [mayC, h7]
                    rw [hm]
                    go_enter Try.func30, Try.ntmps30
                    go_wp2_with fail
                    refine (hst _).mono ?_
                    rintro e w1 ⟨rfl, hb⟩
                    obtain ⟨c0, c1, c2, c3, c4⟩ := hA.step hb
                    replace hB := below2 hB hb
                    clear hb hA
                    go_wp2
                    go_ret
                    exact ⟨rfl, hB⟩
              · have k3 : decide ((x.length : Int) ≤ 65536) = false := by rw [decide_eq_false_iff_not]; omega
                have hm : mayC r c v g x = false := by simp [mayC, h6]
                rw [hm]
                go_enter Try.func30, Try.ntmps30
                go_wp2_with fail
                refine (hst _).mono ?_
                rintro e w1 ⟨rfl, hb⟩
                obtain ⟨c0, c1, c2, c3, c4⟩ := hA.step hb
                replace hB := below2 hB hb
                clear hb hA
                go_wp2
                go_ret
                exact ⟨rfl, hB⟩
            · have k2 : decide (v ≤ 1099511627776) = false := by rw [decide_eq_false_iff_not]; omega
              have hm : mayC r c v g x = false := by simp [mayC, h5]
              rw [hm]
              go_enter Try.func30, Try.ntmps30
              go_wp2_with fail
              refine (hst _).mono ?_
              rintro e w1 ⟨rfl, hb⟩
              obtain ⟨c0, c1, c2, c3, c4⟩ := hA.step hb
              replace hB := below2 hB hb
              clear hb hA
              go_wp2
              go_ret
              exact ⟨rfl, hB⟩
          · have k1 : decide ((1 : Int) ≤ v) = false := by rw [decide_eq_false_iff_not]; omega
            have hm : mayC r c v g x = false := by simp [mayC, h4]
            rw [hm]
            go_enter Try.func30, Try.ntmps30
            go_wp2_with fail
            refine (hst _).mono ?_
            rintro e w1 ⟨rfl, hb⟩
            obtain ⟨c0, c1, c2, c3, c4⟩ := hA.step hb
            replace hB := below2 hB hb
            clear hb hA
            go_wp2
            go_ret
            exact ⟨rfl, hB⟩
      · have k6 : (r == ([] : List UInt8)) = false := by simpa using h3
        cases k5 : (c == ([] : List UInt8)) with
        | false =>
          by_cases h4 : 1 ≤ v
          · have k1 : decide ((1 : Int) ≤ v) = true := by rw [decide_eq_true_eq]; omega
            by_cases h5 : v ≤ 1099511627776
            · have k2 : decide (v ≤ 1099511627776) = true := by rw [decide_eq_true_eq]; omega
              by_cases h6 : x.length ≤ 65536
              · have k3 : decide ((x.length : Int) ≤ 65536) = true := by rw [decide_eq_true_eq]; omega
                cases g with
                | false =>
                  have hm : mayC r c v false x = true := by simp [mayC, h1, h2, k6, h4, h5, h6]
                  rw [hm]
                  go_enter Try.func30, Try.ntmps30
                  go_wp2_with fail
                  refine (hst _).mono ?_
                  rintro e w1 ⟨rfl, hb⟩
                  obtain ⟨c0, c1, c2, c3, c4⟩ := hA.step hb
                  replace hB := below2 hB hb
                  clear hb hA
                  go_wp2
                  go_ret
                  exact ⟨rfl, hB⟩
                | true =>
                  by_cases h7 : x = []
                  · have hm : mayC r c v true x = true := by simp [mayC, h1, h2, k6, h4, h5, h7]
                    rw [hm]
                    subst h7
                    go_enter Try.func30, Try.ntmps30
                    go_wp2_with fail
                    refine (hst _).mono ?_
                    rintro e w1 ⟨rfl, hb⟩
                    obtain ⟨c0, c1, c2, c3, c4⟩ := hA.step hb
                    replace hB := below2 hB hb
                    clear hb hA
                    go_wp2
                    go_ret
                    exact ⟨rfl, hB⟩
                  · have k4 : (x == ([] : List UInt8)) = false := by simpa using h7
                    have hm : mayC r c v true x = false := by simp [mayC, h7]
                    rw [hm]
                    go_enter Try.func30, Try.ntmps30
                    go_wp2_with fail
                    refine (hst _).mono ?_
                    rintro e w1 ⟨rfl, hb⟩
                    obtain ⟨c0, c1, c2, c3, c4⟩ := hA.step hb
                    replace hB := below2 hB hb
                    clear hb hA
                    go_wp2
                    go_ret
                    exact ⟨rfl, hB⟩
              · have k3 : decide ((x.length : Int) ≤ 65536) = false := by rw [decide_eq_false_iff_not]; omega
                have hm : mayC r c v g x = false := by simp [mayC, h6]
                rw [hm]
                go_enter Try.func30, Try.ntmps30
                go_wp2_with fail
                refine (hst _).mono ?_
                rintro e w1 ⟨rfl, hb⟩
                obtain ⟨c0, c1, c2, c3, c4⟩ := hA.step hb
                replace hB := below2 hB hb
                clear hb hA
                go_wp2
                go_ret
                exact ⟨rfl, hB⟩
            · have k2 : decide (v ≤ 1099511627776) = false := by rw [decide_eq_false_iff_not]; omega
              have hm : mayC r c v g x = false := by simp [mayC, h5]
              rw [hm]
              go_enter Try.func30, Try.ntmps30
              go_wp2_with fail
              refine (hst _).mono ?_
              rintro e w1 ⟨rfl, hb⟩
              obtain ⟨c0, c1, c2, c3, c4⟩ := hA.step hb
              replace hB := below2 hB hb
              clear hb hA
              go_wp2
              go_ret
              exact ⟨rfl, hB⟩
          · have k1 : decide ((1 : Int) ≤ v) = false := by rw [decide_eq_false_iff_not]; omega
            have hm : mayC r c v g x = false := by simp [mayC, h4]
            rw [hm]
            go_enter Try.func30, Try.ntmps30
            go_wp2_with fail
            refine (hst _).mono ?_
            rintro e w1 ⟨rfl, hb⟩
            obtain ⟨c0, c1, c2, c3, c4⟩ := hA.step hb
            replace hB := below2 hB hb
            clear hb hA
            go_wp2
            go_ret
            exact ⟨rfl, hB⟩
        | true =>
          by_cases h4 : 1 ≤ v
          · have k1 : decide ((1 : Int) ≤ v) = true := by rw [decide_eq_true_eq]; omega
            by_cases h5 : v ≤ 1099511627776
            · have k2 : decide (v ≤ 1099511627776) = true := by rw [decide_eq_true_eq]; omega
              by_cases h6 : x.length ≤ 65536
              · have k3 : decide ((x.length : Int) ≤ 65536) = true := by rw [decide_eq_true_eq]; omega
                cases g with
                | false =>
                  have hm : mayC r c v false x = true := by simp [mayC, h1, h2, k6, h4, h5, h6]
                  rw [hm]
                  go_enter Try.func30, Try.ntmps30
                  go_wp2_with fail
                  refine (hst _).mono ?_
                  rintro e w1 ⟨rfl, hb⟩
                  obtain ⟨c0, c1, c2, c3, c4⟩ := hA.step hb
                  replace hB := below2 hB hb
                  clear hb hA
                  go_wp2
                  go_ret
                  exact ⟨rfl, hB⟩
                | true =>
                  by_cases h7 : x = []
                  · have hm : mayC r c v true x = true := by simp [mayC, h1, h2, k6, h4, h5, h7]
                    rw [hm]
                    subst h7
                    go_enter Try.func30, Try.ntmps30
                    go_wp2_with fail
                    refine (hst _).mono ?_
                    rintro e w1 ⟨rfl, hb⟩
                    obtain ⟨c0, c1, c2, c3, c4⟩ := hA.step hb
                    replace hB := below2 hB hb
                    clear hb hA
                    go_wp2
                    go_ret
                    exact ⟨rfl, hB⟩
                  · have k4 : (x == ([] : List UInt8)) = false := by simpa using h7
                    have hm : mayC r c v true x = false := by simp [mayC, h7]
                    rw [hm]
                    go_enter Try.func30, Try.ntmps30
                    go_wp2_with fail
                    refine (hst _).mono ?_
                    rintro e w1 ⟨rfl, hb⟩
                    obtain ⟨c0, c1, c2, c3, c4⟩ := hA.step hb
                    replace hB := below2 hB hb
                    clear hb hA
                    go_wp2
                    go_ret
                    exact ⟨rfl, hB⟩
              · have k3 : decide ((x.length : Int) ≤ 65536) = false := by rw [decide_eq_false_iff_not]; omega
                have hm : mayC r c v g x = false := by simp [mayC, h6]
                rw [hm]
                go_enter Try.func30, Try.ntmps30
                go_wp2_with fail
                refine (hst _).mono ?_
                rintro e w1 ⟨rfl, hb⟩
                obtain ⟨c0, c1, c2, c3, c4⟩ := hA.step hb
                replace hB := below2 hB hb
                clear hb hA
                go_wp2
                go_ret
                exact ⟨rfl, hB⟩
            · have k2 : decide (v ≤ 1099511627776) = false := by rw [decide_eq_false_iff_not]; omega
              have hm : mayC r c v g x = false := by simp [mayC, h5]
              rw [hm]
              go_enter Try.func30, Try.ntmps30
              go_wp2_with fail
              refine (hst _).mono ?_
              rintro e w1 ⟨rfl, hb⟩
              obtain ⟨c0, c1, c2, c3, c4⟩ := hA.step hb
              replace hB := below2 hB hb
              clear hb hA
              go_wp2
              go_ret
              exact ⟨rfl, hB⟩
          · have k1 : decide ((1 : Int) ≤ v) = false := by rw [decide_eq_false_iff_not]; omega
            have hm : mayC r c v g x = false := by simp [mayC, h4]
            rw [hm]
            go_enter Try.func30, Try.ntmps30
            go_wp2_with fail
            refine (hst _).mono ?_
            rintro e w1 ⟨rfl, hb⟩
            obtain ⟨c0, c1, c2, c3, c4⟩ := hA.step hb
            replace hB := below2 hB hb
            clear hb hA
            go_wp2
            go_ret
            exact ⟨rfl, hB⟩
    · have k0 : decide ((c.length : Int) ≤ 16) = false := by rw [decide_eq_false_iff_not]; omega
      have hm : mayC r c v g x = false := by simp [mayC, h2]
      rw [hm]
      go_enter Try.func30, Try.ntmps30
      go_wp2_with fail
      refine (hst _).mono ?_
      rintro e w1 ⟨rfl, hb⟩
      obtain ⟨c0, c1, c2, c3, c4⟩ := hA.step hb
      replace hB := below2 hB hb
      clear hb hA
      go_wp2
      go_ret
      exact ⟨rfl, hB⟩

set_option maxHeartbeats 1000000 in
theorem RCell_any (r c : List UInt8) (v : Int) (g : Bool) (x : List UInt8) (w : World) :
    Calls Try.prog 16 #[cellV r c v g x] w fun e w' => e = .returned (.int .i64 (if mayC r c v g x = true then 0 else 2)) ∧ Below w.heap.size w w' := by
  have hB : Below w.heap.size w (w.alloc (.cells #[.string (bstr r), .string (bstr c), .int .u64 v, .bool g, .string (bstr x)] 34)) := (Below.refl _ _).alloc (Nat.le_refl _) _
  have hc := RMayCell_any r c v g x (w.alloc (.cells #[.string (bstr r), .string (bstr c), .int .u64 v, .bool g, .string (bstr x)] 34))
  cases hq : mayC r c v g x with
  | true =>
    rw [hq] at hc
    go_enter Try.func16, Try.ntmps16
    go_wp2_with fail
    refine hc.mono ?_
    rintro e w1 ⟨rfl, hb1⟩
    replace hB := below2 hB hb1
    go_wp2
    go_ret
    exact ⟨rfl, hB⟩
  | false =>
    rw [hq] at hc
    go_enter Try.func16, Try.ntmps16
    go_wp2_with fail
    refine hc.mono ?_
    rintro e w1 ⟨rfl, hb1⟩
    replace hB := below2 hB hb1
    go_wp2
    go_ret
    exact ⟨rfl, hB⟩

end Go.Proofs.Ytijfmgpipnhkkaa
