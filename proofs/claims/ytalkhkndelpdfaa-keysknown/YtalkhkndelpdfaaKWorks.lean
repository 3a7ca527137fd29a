/-
  The contracts of User and Stored, and of the law's 'works'.
-/
import Derived.Test.YtalkhkndelpdfaaKSplit2
namespace Go.Proofs.Ytalkhkndelpdfaa
open Go.RowKit
attribute [local go_sem] size_bstr toList_bstr ls_def
attribute [local go_sem high] rng_eql rng_neq rng_guard

def userB (k : List UInt8) : Bool := decide (1 ≤ k.length) && decide (k.length ≤ 24)
def storedB (k : List UInt8) : Bool := decide (k.length ≤ 32)

set_option maxHeartbeats 1000000 in
theorem User_any (k : List UInt8) (w : World) :
    Calls Try.prog 11 #[.string (bstr k)] w fun e w' => e = .returned (.bool (userB k)) ∧ Below w.heap.size w w' := by
  have hB : Below w.heap.size w w := Below.refl _ _
  by_cases h : k = []
  · subst h
    go_enter Try.func11, Try.ntmps11
    go_wp2
    go_ret
    exact ⟨rfl, hB⟩
  · have g : (k == ([] : List UInt8)) = false := by simpa using h
    have hp : 1 ≤ k.length := by cases k <;> simp_all
    have hu : userB k = decide ((k.length : Int) ≤ 24) := by simp [userB, hp]; omega
    rw [hu]
    go_enter Try.func11, Try.ntmps11
    go_wp2
    go_ret
    exact ⟨rfl, hB⟩

set_option maxHeartbeats 1000000 in
theorem Stored_any (k : List UInt8) (w : World) :
    Calls Try.prog 12 #[.string (bstr k)] w fun e w' => e = .returned (.bool (storedB k)) ∧ Below w.heap.size w w' := by
  have hB : Below w.heap.size w w := Below.refl _ _
  have hu : storedB k = decide ((k.length : Int) ≤ 32) := by simp [storedB]; omega
  rw [hu]
  go_enter Try.func12, Try.ntmps12
  go_wp2
  go_ret
  exact ⟨rfl, hB⟩

/-- Two blocks that were laid before a call: behind the call they are as they were. -/
theorem cell_old2 {w w2 : World} {cs ds : Array Value} {t u : TypeId} (h : Below ((w.alloc (.cells cs t)).alloc (.cells ds u)).heap.size ((w.alloc (.cells cs t)).alloc (.cells ds u)) w2) (j : Nat) {v : Value} (hj : cs[j]? = some v) :
    w2.cell? ⟨w.heap.size, j, none⟩ = some v := by
  obtain ⟨cb, _⟩ := bcell h
  have hs : w.heap.size < ((w.alloc (.cells cs t)).alloc (.cells ds u)).heap.size := by simp; omega
  rw [cb _ _ hs, World.cell?_alloc_past (.cells ds u) w.heap.size j (by simp), World.cell?_alloc_at cs t w.heap.size j rfl]
  exact hj
theorem cell_last2 {w w2 : World} {cs ds : Array Value} {t u : TypeId} (h : Below ((w.alloc (.cells cs t)).alloc (.cells ds u)).heap.size ((w.alloc (.cells cs t)).alloc (.cells ds u)) w2) (j : Nat) {v : Value} (hj : ds[j]? = some v) :
    w2.cell? ⟨w.heap.size + 1, j, none⟩ = some v := by
  have e : (w.alloc (.cells cs t)).heap.size = w.heap.size + 1 := by simp
  rw [← e]
  exact (cell_new h j hj).1

set_option maxHeartbeats 2000000 in
theorem works_any (w : World) :
    Calls Try.prog 13 #[] w fun e w' => e = .returned (.bool true) ∧ Below w.heap.size w w' := by
  have hs := Split_ok [97] [99] [98] w (by decide)
  have h1 : ∀ W : World, (binOp .eql 26 (.agg #[.string (bstr [97]), .string (bstr [98])]) (.agg #[.string ⟨#[97]⟩, .string ⟨#[98]⟩])).run Try.prog W = .ok (.bool true) W := fun W => rng_eql [97] [98] [97] [98] W
  have h2 : ∀ W : World, (binOp .eql 26 (.agg #[.string (bstr [98]), .string (bstr [99])]) (.agg #[.string ⟨#[98]⟩, .string ⟨#[99]⟩])).run Try.prog W = .ok (.bool true) W := fun W => rng_eql [98] [99] [98] [99] W
  have ha : ∀ W, Calls Try.prog 5 #[rngV [97] [98], .string (bstr [97])] W fun e w' => e = .returned (.bool true) ∧ Below W.heap.size W w' := fun W => Has_any [97] [98] [97] W
  have hb : ∀ W, Calls Try.prog 5 #[rngV [97] [98], .string (bstr [98])] W fun e w' => e = .returned (.bool false) ∧ Below W.heap.size W w' := fun W => Has_any [97] [98] [98] W
  go_enter Try.func13, Try.ntmps13
  go_wp2_with fail
  refine hs.mono ?_
  rintro e w1 ⟨rfl, hB⟩
  clear hs
  go_wp2_with fail
  refine (ha _).mono ?_
  rintro e w2 ⟨rfl, hb2⟩
  have c0 := cell_old2 hb2 0 rfl
  have c1 := cell_old2 hb2 1 rfl
  replace hB := below2 ((hB.alloc hB.size _).alloc (Nat.le_trans hB.size (by simp)) _) hb2
  clear hb2
  go_wp2_with fail
  refine (hb _).mono ?_
  rintro e w3 ⟨rfl, hb3⟩
  replace hB := below2 hB hb3
  clear hb3
  go_wp2
  go_ret
  exact ⟨rfl, hB⟩

/-- A range lies in a block. -/
structure RngAt (W : World) (n : Nat) (x y : List UInt8) : Prop where
  c0 : W.cell? ⟨n, 0, none⟩ = some (.string (bstr x))
  c1 : W.cell? ⟨n, 1, none⟩ = some (.string (bstr y))
theorem RngAt.lt {W : World} {n : Nat} {x y : List UInt8} (h : RngAt W n x y) : n < W.heap.size := block_lt_of_cell h.c0
theorem RngAt.step {W W' : World} {n : Nat} {x y : List UInt8} (h : RngAt W n x y) (hb : Below W.heap.size W W') : RngAt W' n x y := by
  obtain ⟨cb, _⟩ := bcell hb
  exact ⟨by rw [cb _ _ h.lt]; exact h.c0, by rw [cb _ _ h.lt]; exact h.c1⟩
theorem RngAt.alloc {W : World} {n : Nat} {x y : List UInt8} (h : RngAt W n x y) (o : Obj) : RngAt (W.alloc o) n x y := h.step ((Below.refl _ _).alloc (Nat.le_refl _) o)
theorem RngAt.new (W : World) (t : TypeId) (x y : List UInt8) : RngAt (W.alloc (.cells #[.string (bstr x), .string (bstr y)] t)) W.heap.size x y :=
  ⟨by rw [World.cell?_alloc_at _ t W.heap.size 0 rfl]; rfl, by rw [World.cell?_alloc_at _ t W.heap.size 1 rfl]; rfl⟩
theorem RngAt.new2 (W : World) (o : Obj) (t : TypeId) (x y : List UInt8) : RngAt ((W.alloc o).alloc (.cells #[.string (bstr x), .string (bstr y)] t)) (W.heap.size + 1) x y := by
  have e : (W.alloc o).heap.size = W.heap.size + 1 := by simp
  rw [← e]
  exact RngAt.new _ t x y

end Go.Proofs.Ytalkhkndelpdfaa
