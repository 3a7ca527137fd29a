/-
  The contracts of keys.Check, keys.Has, keys.Meet, keys.User, keys.Stored, and of the document's own answers beside them.
-/
import Derived.Test.YtfjomggofncdmaaKOrd
namespace Go.Proofs.Ytfjomggofncdmaa
open Go.RowKit
attribute [local go_sem] size_bstr toList_bstr ls_def

theorem below2 {w a b : World} (h : Below w.heap.size w a) (k : Below a.heap.size a b) : Below w.heap.size w b := h.trans (k.mono h.size)

set_option maxHeartbeats 1000000 in
theorem Has_any (lo hi k : List UInt8) (w : World) :
    Calls Try.prog 25 #[rngV lo hi, .string (bstr k)] w fun e w' => e = .returned (.bool (hasB lo hi k)) ∧ Below w.heap.size w w' := by
  have hb : Below w.heap.size w (w.alloc (.cells #[.string (bstr lo), .string (bstr hi)] 38)) := (Below.refl _ _).alloc (Nat.le_refl _) _
  cases h1 : ls k lo with
  | true =>
    have hm : hasB lo hi k = false := by simp [hasB, h1]
    rw [hm]
    go_enter Try.func25, Try.ntmps25
    go_wp2
    go_ret
    exact ⟨rfl, hb⟩
  | false =>
    by_cases h3 : hi = []
    · subst h3
      have hm : hasB lo [] k = true := by simp [hasB, h1]
      rw [hm]
      go_enter Try.func25, Try.ntmps25
      go_wp2
      go_ret
      exact ⟨rfl, hb⟩
    · have g3 : (hi == ([] : List UInt8)) = false := by simpa using h3
      have hm : hasB lo hi k = ls k hi := by simp [hasB, h1, h3]
      rw [hm]
      generalize hq : ls k hi = q
      go_enter Try.func25, Try.ntmps25
      go_wp2
      go_ret
      exact ⟨rfl, hb⟩

/-- 'max' of two texts. -/
theorem run_max_text {P : Program} (ts : Array TypeId) (t : TypeId) (a b : List UInt8) (w : World) : (Builtin.max_ ts t #[.string (bstr a), .string (bstr b)]).run P w = .ok (.string (bstr (maxT a b))) w := by
  unfold maxT
  cases h : ls a b with
  | true => simp [Builtin.max_, Builtin.max2, Op.stringOp, toList_bstr, ls_def, h, asBool]
  | false => simp [Builtin.max_, Builtin.max2, Op.stringOp, toList_bstr, ls_def, h, asBool]

end Go.Proofs.Ytfjomggofncdmaa
