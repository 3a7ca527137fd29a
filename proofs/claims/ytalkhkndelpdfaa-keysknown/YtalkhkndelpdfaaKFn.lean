/-
  The contracts of keys.Check, keys.Has, keys.Meet, keys.User, keys.Stored, and of the document's own answers beside them.
-/
import Derived.Test.YtalkhkndelpdfaaKOrd
namespace Go.Proofs.Ytalkhkndelpdfaa
open Go.RowKit
attribute [local go_sem] size_bstr toList_bstr ls_def

theorem below2 {w a b : World} (h : Below w.heap.size w a) (k : Below a.heap.size a b) : Below w.heap.size w b := h.trans (k.mono h.size)

set_option maxHeartbeats 1000000 in
theorem Check_any (lo hi : List UInt8) (w : World) :
    Calls Try.prog 4 #[rngV lo hi] w fun e w' => e = .returned (.int .i64 (if mayB lo hi = true then 0 else 2)) ∧ Below w.heap.size w w' := by
  have hb : Below w.heap.size w (w.alloc (.cells #[.string (bstr lo), .string (bstr hi)] 26)) := (Below.refl _ _).alloc (Nat.le_refl _) _
  by_cases h1 : lo.length ≤ 24
  · by_cases h2 : hi.length ≤ 24
    · have g1 : decide ((24 : Int) < (lo.length : Int)) = false := by rw [decide_eq_false_iff_not]; omega
      have g2 : decide ((24 : Int) < (hi.length : Int)) = false := by rw [decide_eq_false_iff_not]; omega
      by_cases h3 : hi = []
      · subst h3
        have hm : mayB lo [] = true := by rw [mayB_iff]; exact ⟨h1, h2, Or.inl rfl⟩
        rw [hm]
        go_enter Try.func4, Try.ntmps4
        go_wp2
        go_ret
        exact ⟨rfl, hb⟩
      · have g3 : (hi == ([] : List UInt8)) = false := by simpa using h3
        have hm : mayB lo hi = ls lo hi := by simp [mayB, h1, h2, h3]
        rw [hm]
        have hle := le_spelt hi lo
        cases h4 : ls lo hi with
        | true =>
          rw [h4] at hle
          go_enter Try.func4, Try.ntmps4
          go_wp2
          go_ret
          exact ⟨rfl, hb⟩
        | false =>
          rw [h4] at hle
          go_enter Try.func4, Try.ntmps4
          go_wp2
          go_ret
          exact ⟨rfl, hb⟩
    · have g1 : decide ((24 : Int) < (lo.length : Int)) = false := by rw [decide_eq_false_iff_not]; omega
      have g2 : decide ((24 : Int) < (hi.length : Int)) = true := by rw [decide_eq_true_eq]; omega
      have hm : mayB lo hi = false := by simp [mayB, h2]
      rw [hm]
      go_enter Try.func4, Try.ntmps4
      go_wp2
      go_ret
      exact ⟨rfl, hb⟩
  · have g1 : decide ((24 : Int) < (lo.length : Int)) = true := by rw [decide_eq_true_eq]; omega
    have hm : mayB lo hi = false := by simp [mayB, h1]
    rw [hm]
    go_enter Try.func4, Try.ntmps4
    go_wp2
    go_ret
    exact ⟨rfl, hb⟩

set_option maxHeartbeats 1000000 in
theorem Has_any (lo hi k : List UInt8) (w : World) :
    Calls Try.prog 5 #[rngV lo hi, .string (bstr k)] w fun e w' => e = .returned (.bool (hasB lo hi k)) ∧ Below w.heap.size w w' := by
  have hb : Below w.heap.size w (w.alloc (.cells #[.string (bstr lo), .string (bstr hi)] 26)) := (Below.refl _ _).alloc (Nat.le_refl _) _
  cases h1 : ls k lo with
  | true =>
    have hm : hasB lo hi k = false := by simp [hasB, h1]
    rw [hm]
    go_enter Try.func5, Try.ntmps5
    go_wp2
    go_ret
    exact ⟨rfl, hb⟩
  | false =>
    by_cases h3 : hi = []
    · subst h3
      have hm : hasB lo [] k = true := by simp [hasB, h1]
      rw [hm]
      go_enter Try.func5, Try.ntmps5
      go_wp2
      go_ret
      exact ⟨rfl, hb⟩
    · have g3 : (hi == ([] : List UInt8)) = false := by simpa using h3
      have hm : hasB lo hi k = ls k hi := by simp [hasB, h1, h3]
      rw [hm]
      generalize hq : ls k hi = q
      go_enter Try.func5, Try.ntmps5
      go_wp2
      go_ret
      exact ⟨rfl, hb⟩

/-- 'max' of two texts. -/
theorem run_max_text {P : Program} (ts : Array TypeId) (t : TypeId) (a b : List UInt8) (w : World) : (Builtin.max_ ts t #[.string (bstr a), .string (bstr b)]).run P w = .ok (.string (bstr (maxT a b))) w := by
  unfold maxT
  cases h : ls a b with
  | true => simp [Builtin.max_, Builtin.max2, Op.stringOp, toList_bstr, ls_def, h, asBool]
  | false => simp [Builtin.max_, Builtin.max2, Op.stringOp, toList_bstr, ls_def, h, asBool]

set_option maxHeartbeats 1000000 in
theorem Meet_any (a b c d : List UInt8) (w : World) :
    Calls Try.prog 6 #[rngV a b, rngV c d] w fun e w' => e = .returned (.bool (meetB a b c d)) ∧ Below w.heap.size w w' := by
  have hx : ∀ ts t (w : World), (Builtin.max_ ts t #[.string (bstr a), .string (bstr c)]).run Try.prog w = .ok (.string (bstr (maxT a c))) w := fun ts t w => run_max_text ts t a c w
  unfold meetB
  generalize maxT a c = m at *
  have hb : Below w.heap.size w ((w.alloc (.cells #[.string (bstr a), .string (bstr b)] 26)).alloc (.cells #[.string (bstr c), .string (bstr d)] 26)) := ((Below.refl _ _).alloc (Nat.le_refl _) _).alloc (by simp) _
  go_enter Try.func6, Try.ntmps6
  go_wp2_with fail
  refine (Has_any a b m _).mono ?_
  rintro e w1 ⟨rfl, hb1⟩
  obtain ⟨cb, fb⟩ := bcell hb1
  replace hb := below2 hb hb1
  cases hq : hasB a b m with
  | false =>
    have hz : (hasB a b m && hasB c d m) = false := by rw [hq]; rfl
    go_wp2
    go_ret
    exact ⟨by rw [hz]; rfl, hb⟩
  | true =>
    go_wp2_with fail
    refine (Has_any c d m _).mono ?_
    rintro e w2 ⟨rfl, hb2⟩
    replace hb := below2 hb hb2
    go_wp2
    go_ret
    exact ⟨by rw [hq, Bool.true_and]; rfl, hb⟩

end Go.Proofs.Ytalkhkndelpdfaa
