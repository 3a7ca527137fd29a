/-
  The contracts of wire's reader (New, open, cut, Left), over this seat's translation.
-/
import Derived.Test.YtbdbefgfejdbjaaGreatAid
import Derived.WalkMore
namespace Go.Proofs.YtbdbefgfejdbjaaGreat
open Go.RowKit

/-- The block of a reader that a call made, of which s is left. -/
def rdObj (s : ByteArray) : Obj := .cells #[.string s, .bool true] 180 (0, 0)
/-- Block g is a reader of which s is left. -/
def Rd (w : World) (g : Nat) (s : ByteArray) : Prop := w.heap[g]? = some (rdObj s)

theorem Rd.cell0 {w : World} {g : Nat} {s : ByteArray} (h : Rd w g s) : w.cell? ⟨g, 0, none⟩ = some (.string s) := by
  unfold Rd rdObj at h
  simp [World.cell?, h]
theorem Rd.cell1 {w : World} {g : Nat} {s : ByteArray} (h : Rd w g s) : w.cell? ⟨g, 1, none⟩ = some (.bool true) := by
  unfold Rd rdObj at h
  simp [World.cell?, h]
theorem Rd.free {w : World} {g : Nat} {s : ByteArray} (h : Rd w g s) (o : Nat) : w.frozen? ⟨g, o, none⟩ = false := by
  unfold Rd rdObj at h
  simp [World.frozen?, h]
theorem Rd.lt {w : World} {g : Nat} {s : ByteArray} (h : Rd w g s) : g < w.heap.size := lt_of_block h
theorem Rd.set {w : World} {g : Nat} {s : ByteArray} (h : Rd w g s) (t : ByteArray) : Rd (w.setCell ⟨g, 0, none⟩ (.string t)) g t := by
  have hlt := h.lt
  unfold Rd rdObj at *
  have h' : w.heap[g] = .cells #[.string s, .bool true] 180 (0, 0) := by simpa [Array.getElem?_eq_getElem hlt] using h
  show (w.heap.modify g _)[g]? = _
  rw [Array.getElem?_eq_getElem (by simpa using hlt), Array.getElem_modify_self, h']
  rfl
theorem Rd.below {w w' : World} {g : Nat} {s : ByteArray} {B : Nat} (h : Rd w g s) (hb : Below B w w') (hg : g < B) : Rd w' g s := (hb.block g hg).trans h
theorem Rd.new (w : World) (s : ByteArray) : Rd (w.alloc (.cells #[.string s, .bool true] 180)) w.heap.size s := heap_alloc_new w _

set_option maxHeartbeats 400000 in
theorem New_any (s : ByteArray) (w : World) :
    Calls Tryz.prog 125 #[.string s] w fun e w' => e = .returned (.pointer (some ⟨w.heap.size, 0, none⟩)) ∧ Rd w' w.heap.size s ∧ Below w.heap.size w w' := by
  go_enter Tryz.func125, Tryz.ntmps125
  go_wp2
  go_ret
  exact ⟨rfl, Rd.new w s, (Below.refl _ _).alloc (Nat.le_refl _) _⟩

set_option maxHeartbeats 400000 in
theorem open_any (g : Nat) (s : ByteArray) (w : World) (h : Rd w g s) :
    Calls Tryz.prog 141 #[.pointer (some ⟨g, 0, none⟩)] w fun e w' => e = .returned (.tuple #[.string s, .func (.func 145) #[.pointer (some ⟨g, 0, none⟩)] #[]]) ∧ w' = w := by
  have c0 := h.cell0
  have c1 := h.cell1
  go_enter Tryz.func141, Tryz.ntmps141
  go_wp2
  go_ret2
  exact ⟨rfl, rfl⟩

set_option maxHeartbeats 400000 in
theorem open_nil (w : World) :
    Calls Tryz.prog 141 #[.pointer none] w fun e w' => e = .returned (.tuple #[.string ⟨#[]⟩, .nilFunc]) ∧ w' = w := by
  go_enter Tryz.func141, Tryz.ntmps141
  go_wp2
  go_ret2
  exact ⟨rfl, rfl⟩

set_option maxHeartbeats 400000 in
theorem cut_any (g : Nat) (s : ByteArray) (n : Nat) (w : World) (h : Rd w g s) (hn : n ≤ s.size) :
    Calls Tryz.prog 145 #[.pointer (some ⟨g, 0, none⟩), .int .i64 n] w fun e w' => e = .returned (.string (s.extract 0 n)) ∧ w' = w.setCell ⟨g, 0, none⟩ (.string (s.extract n s.size)) := by
  have c0 := h.cell0
  have f0 := h.free 0
  go_enter Tryz.func145, Tryz.ntmps145
  go_wp2
  go_ret
  exact ⟨rfl, rfl⟩

end Go.Proofs.YtbdbefgfejdbjaaGreat
