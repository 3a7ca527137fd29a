/-
  The contracts of User and Stored, and of the law's 'works'.
-/
import Derived.Test.YtlkikfkchgmmhaaKSplit2
namespace Go.Proofs.Ytlkikfkchgmmhaa
open Go.RowKit
attribute [local go_sem] size_bstr toList_bstr ls_def

def userB (k : List UInt8) : Bool := decide (1 ≤ k.length) && decide (k.length ≤ 24)
def storedB (k : List UInt8) : Bool := decide (k.length ≤ 32)

set_option maxHeartbeats 1000000 in
theorem User_any (k : List UInt8) (w : World) :
    Calls Try.prog 35 #[.string (bstr k)] w fun e w' => e = .returned (.bool (userB k)) ∧ Below w.heap.size w w' := by
  have hB : Below w.heap.size w w := Below.refl _ _
  by_cases h : k = []
  · subst h
    go_enter Try.func35, Try.ntmps35
    go_wp2
    go_ret
    exact ⟨rfl, hB⟩
  · have g : (k == ([] : List UInt8)) = false := by simpa using h
    have hp : 1 ≤ k.length := by cases k <;> simp_all
    have hu : userB k = decide ((k.length : Int) ≤ 24) := by simp [userB, hp]; omega
    rw [hu]
    go_enter Try.func35, Try.ntmps35
    go_wp2
    go_ret
    exact ⟨rfl, hB⟩

set_option maxHeartbeats 1000000 in
theorem RUser_any (k : List UInt8) (w : World) :
    Calls Try.prog 41 #[.string (bstr k)] w fun e w' => e = .returned (.bool (userB k)) ∧ Below w.heap.size w w' := by
  have hB : Below w.heap.size w w := Below.refl _ _
  by_cases hp : 1 ≤ k.length
  · have g : decide ((1 : Int) ≤ (k.length : Int)) = true := by rw [decide_eq_true_eq]; omega
    have hu : userB k = decide ((k.length : Int) ≤ 24) := by simp [userB, hp]; omega
    rw [hu]
    go_enter Try.func41, Try.ntmps41
    go_wp2
    go_ret
    exact ⟨rfl, hB⟩
  · have g : decide ((1 : Int) ≤ (k.length : Int)) = false := by rw [decide_eq_false_iff_not]; omega
    have hu : userB k = false := by simp [userB, hp]
    rw [hu]
    go_enter Try.func41, Try.ntmps41
    go_wp2
    go_ret
    exact ⟨rfl, hB⟩

set_option maxHeartbeats 1000000 in
theorem Stored_any (k : List UInt8) (w : World) :
    Calls Try.prog 36 #[.string (bstr k)] w fun e w' => e = .returned (.bool (storedB k)) ∧ Below w.heap.size w w' := by
  have hB : Below w.heap.size w w := Below.refl _ _
  have hu : storedB k = decide ((k.length : Int) ≤ 32) := by simp [storedB]; omega
  rw [hu]
  go_enter Try.func36, Try.ntmps36
  go_wp2
  go_ret
  exact ⟨rfl, hB⟩

set_option maxHeartbeats 1000000 in
theorem RStored_any (k : List UInt8) (w : World) :
    Calls Try.prog 42 #[.string (bstr k)] w fun e w' => e = .returned (.bool (storedB k)) ∧ Below w.heap.size w w' := by
  have hB : Below w.heap.size w w := Below.refl _ _
  have hu : storedB k = decide ((k.length : Int) ≤ 32) := by simp [storedB]; omega
  rw [hu]
  go_enter Try.func42, Try.ntmps42
  go_wp2
  go_ret
  exact ⟨rfl, hB⟩

/-- Two blocks that were laid before a call: behind the call they are as they were. -/
theorem cell_old2 {w w2 : World} {cs ds : Array Value} {t u : TypeId} (h : Below ((w.alloc (.cells cs t)).alloc (.cells ds u)).heap.size ((w.alloc (.cells cs t)).alloc (.cells ds u)) w2) (j : Nat) {v : Value} (hj : cs[j]? = some v) :
    w2.cell? ⟨w.heap.size, j, none⟩ = some v := by
  obtain ⟨cb, _⟩ := bcell h
  have hs : w.heap.size < ((w.alloc (.cells cs t)).alloc (.cells ds u)).heap.size := by simp; omega
  rw [cb _ _ hs, World.cell?_alloc_past (.cells ds u) w.heap.size j (by simp), World.cell?_alloc_at cs t w.heap.size j rfl]
  exact hj
theorem cell_last2 {w w2 : World} {cs ds : Array Value} {t u : TypeId} (h : Below ((w.alloc (.cells cs t)).alloc (.cells ds u)).heap.size ((w.alloc (.cells cs t)).alloc (.cells ds u)) w2) (j : Nat) {v : Value} (hj : ds[j]? = some v) :
    w2.cell? ⟨w.heap.size + 1, j, none⟩ = some v := by
  have e : (w.alloc (.cells cs t)).heap.size = w.heap.size + 1 := by simp
  rw [← e]
  exact (cell_new h j hj).1

/-- A range lies in a block. -/
structure RngAt (W : World) (n : Nat) (x y : List UInt8) : Prop where
  c0 : W.cell? ⟨n, 0, none⟩ = some (.string (bstr x))
  c1 : W.cell? ⟨n, 1, none⟩ = some (.string (bstr y))
theorem RngAt.lt {W : World} {n : Nat} {x y : List UInt8} (h : RngAt W n x y) : n < W.heap.size := block_lt_of_cell h.c0
theorem RngAt.step {W W' : World} {n : Nat} {x y : List UInt8} (h : RngAt W n x y) (hb : Below W.heap.size W W') : RngAt W' n x y := by
  obtain ⟨cb, _⟩ := bcell hb
  exact ⟨by rw [cb _ _ h.lt]; exact h.c0, by rw [cb _ _ h.lt]; exact h.c1⟩
theorem RngAt.alloc {W : World} {n : Nat} {x y : List UInt8} (h : RngAt W n x y) (o : Obj) : RngAt (W.alloc o) n x y := h.step ((Below.refl _ _).alloc (Nat.le_refl _) o)
theorem RngAt.new (W : World) (t : TypeId) (x y : List UInt8) : RngAt (W.alloc (.cells #[.string (bstr x), .string (bstr y)] t)) W.heap.size x y :=
  ⟨by rw [World.cell?_alloc_at _ t W.heap.size 0 rfl]; rfl, by rw [World.cell?_alloc_at _ t W.heap.size 1 rfl]; rfl⟩
theorem RngAt.new2 (W : World) (o : Obj) (t : TypeId) (x y : List UInt8) : RngAt ((W.alloc o).alloc (.cells #[.string (bstr x), .string (bstr y)] t)) (W.heap.size + 1) x y := by
  have e : (W.alloc o).heap.size = W.heap.size + 1 := by simp
  rw [← e]
  exact RngAt.new _ t x y

end Go.Proofs.Ytlkikfkchgmmhaa
