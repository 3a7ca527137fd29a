/-
  The order of cells: what strings.Compare, cmp.Compare and cmp.Or answer, and keys.Cmp out of them.
-/
import Derived.Lib.Bytealg
import Derived.Test.YtpihdjemjfkidaaKWorks
import Derived.BigQuiet
import Derived.Lib.Small
import Derived.Deep.RegionHeld3
namespace Go.Proofs.Ytpihdjemjfkidaa
open Go.RowKit Go.BigFrame
attribute [local go_sem] size_bstr toList_bstr ls_def

/-- Which of two texts is ahead, as a number. -/
def ct (a b : List UInt8) : Int := if ls a b = true then -1 else if ls b a = true then 1 else 0
theorem ct_eq : ∀ a b : List UInt8, Lib.compareBytes a b = ct a b
  | [], [] => rfl
  | [], _ :: _ => rfl
  | _ :: _, [] => rfl
  | a :: x, b :: y => by
    have ih := ct_eq x y
    unfold ct ls at ih ⊢
    rw [Lib.compareBytes]
    by_cases h1 : a < b
    · simp [Op.bytesLess, h1]
    · by_cases h2 : b < a
      · have h3 : ¬ a = b := by rintro rfl; exact UInt8.lt_irrefl _ h2
        simp [Op.bytesLess, h1, h2, h3]
      · have h3 : a = b := by
          rcases Classical.em (a = b) with h | h
          · exact h
          · rcases UInt8.lt_or_lt_of_ne h with h | h
            · exact absurd h h1
            · exact absurd h h2
        subst h3
        rw [if_neg h1, if_neg h2, ih]
        simp [Op.bytesLess]
/-- The first one that is not 0. -/
def or3 (x y z : Int) : Int := if x = 0 then (if y = 0 then z else y) else x

/-- A cell as a value. -/
abbrev cellV (r c : List UInt8) (v : Int) (g : Bool) (x : List UInt8) : Value := .agg #[.string (bstr r), .string (bstr c), .int .u64 v, .bool g, .string (bstr x)]
/-- The order of two cells. -/
def cc (r c : List UInt8) (v : Int) (r' c' : List UInt8) (v' : Int) : Int := or3 (ct r r') (ct c c') (Lib.compareInt v' v)

/-- A cell lies in a block. -/
structure CellAt (W : World) (n : Nat) (r c : List UInt8) (v : Int) (g : Bool) (x : List UInt8) : Prop where
  c0 : W.cell? ⟨n, 0, none⟩ = some (.string (bstr r))
  c1 : W.cell? ⟨n, 1, none⟩ = some (.string (bstr c))
  c2 : W.cell? ⟨n, 2, none⟩ = some (.int .u64 v)
  c3 : W.cell? ⟨n, 3, none⟩ = some (.bool g)
  c4 : W.cell? ⟨n, 4, none⟩ = some (.string (bstr x))
theorem CellAt.lt {W : World} {n : Nat} {r c : List UInt8} {v : Int} {g : Bool} {x : List UInt8} (h : CellAt W n r c v g x) : n < W.heap.size := block_lt_of_cell h.c0
theorem CellAt.step {W W' : World} {n : Nat} {r c : List UInt8} {v : Int} {g : Bool} {x : List UInt8} (h : CellAt W n r c v g x) (hb : Below W.heap.size W W') : CellAt W' n r c v g x := by
  obtain ⟨cb, _⟩ := bcell hb
  exact ⟨by rw [cb _ _ h.lt]; exact h.c0, by rw [cb _ _ h.lt]; exact h.c1, by rw [cb _ _ h.lt]; exact h.c2, by rw [cb _ _ h.lt]; exact h.c3, by rw [cb _ _ h.lt]; exact h.c4⟩
theorem CellAt.alloc {W : World} {n : Nat} {r c : List UInt8} {v : Int} {g : Bool} {x : List UInt8} (h : CellAt W n r c v g x) (o : Obj) : CellAt (W.alloc o) n r c v g x := h.step ((Below.refl _ _).alloc (Nat.le_refl _) o)
theorem CellAt.new (W : World) (t : TypeId) (r c : List UInt8) (v : Int) (g : Bool) (x : List UInt8) : CellAt (W.alloc (.cells #[.string (bstr r), .string (bstr c), .int .u64 v, .bool g, .string (bstr x)] t)) W.heap.size r c v g x :=
  ⟨by rw [World.cell?_alloc_at _ t W.heap.size 0 rfl]; rfl, by rw [World.cell?_alloc_at _ t W.heap.size 1 rfl]; rfl, by rw [World.cell?_alloc_at _ t W.heap.size 2 rfl]; rfl, by rw [World.cell?_alloc_at _ t W.heap.size 3 rfl]; rfl, by rw [World.cell?_alloc_at _ t W.heap.size 4 rfl]; rfl⟩
theorem CellAt.new2 (W : World) (o : Obj) (t : TypeId) (r c : List UInt8) (v : Int) (g : Bool) (x : List UInt8) : CellAt ((W.alloc o).alloc (.cells #[.string (bstr r), .string (bstr c), .int .u64 v, .bool g, .string (bstr x)] t)) (W.heap.size + 1) r c v g x := by
  have e : (W.alloc o).heap.size = W.heap.size + 1 := by simp
  rw [← e]
  exact CellAt.new _ t r c v g x

end Go.Proofs.Ytpihdjemjfkidaa
