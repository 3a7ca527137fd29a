/-
  The contracts of keys.Check, keys.Has, keys.Meet, keys.User, keys.Stored, and of the document's own answers beside them.
-/
import Derived.Test.YtlkikfkchgmmhaaKOrd
namespace Go.Proofs.Ytlkikfkchgmmhaa
open Go.RowKit
attribute [local go_sem] size_bstr toList_bstr ls_def

theorem below2 {w a b : World} (h : Below w.heap.size w a) (k : Below a.heap.size a b) : Below w.heap.size w b := h.trans (k.mono h.size)

/-- 'max' of two texts. -/
theorem run_max_text {P : Program} (ts : Array TypeId) (t : TypeId) (a b : List UInt8) (w : World) : (Builtin.max_ ts t #[.string (bstr a), .string (bstr b)]).run P w = .ok (.string (bstr (maxT a b))) w := by
  unfold maxT
  cases h : ls a b with
  | true => simp [Builtin.max_, Builtin.max2, Op.stringOp, toList_bstr, ls_def, h, asBool]
  | false => simp [Builtin.max_, Builtin.max2, Op.stringOp, toList_bstr, ls_def, h, asBool]

end Go.Proofs.Ytlkikfkchgmmhaa
