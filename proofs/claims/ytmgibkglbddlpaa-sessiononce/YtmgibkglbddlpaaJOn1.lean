/-
  The law SessionOnce: its arrays, its state.
-/
import Derived.Test.YtmgibkglbddlpaaJBk
import Derived.Test.YtmgibkglbddlpaaJBr
namespace Go.Proofs.Ytmgibkglbddlpaa
open Go.RowKit Go.BigFrame

def updN {α : Type} (f : Nat → α) (i : Nat) (x : α) : Nat → α := fun j => if j = i then x else f j
/-- An array that lies in a block of its own. -/
def ArB (w : World) (b : Nat) (t : TypeId) (n : Nat) (f : Nat → Value) : Prop := w.heap[b]? = some (.cells ((List.range n).map f).toArray t (0, 0))
theorem ArB.cell {w : World} {b n : Nat} {t : TypeId} {f : Nat → Value} (h : ArB w b t n f) {i : Nat} (hi : i < n) : w.cell? ⟨b, i, none⟩ = some (f i) := by
  rw [(mcells h).1 i]
  simp [hi]
theorem ArB.frz {w : World} {b n : Nat} {t : TypeId} {f : Nat → Value} (h : ArB w b t n f) : ∀ i, w.frozen? ⟨b, i, none⟩ = false := (mcells h).2
theorem ArB.set {w : World} {b n : Nat} {t : TypeId} {f : Nat → Value} (h : ArB w b t n f) (i : Nat) (v : Value) : ArB (w.setCell ⟨b, i, none⟩ v) b t n (updN f i v) := by
  have h1 := heap_set_same h (o := i) v
  unfold ArB
  rw [h1]
  congr 2
  apply Array.ext_getElem?
  intro j
  rw [Array.getElem?_setIfInBounds]
  by_cases e : i = j
  · subst e
    by_cases hi : i < n <;> simp [hi, updN]
  · rw [if_neg e]
    by_cases hj : j < n
    · have : j ≠ i := fun h => e h.symm
      simp [hj, updN, this]
    · simp [hj]
theorem ArB.keep {w w' : World} {b n : Nat} {t : TypeId} {f : Nat → Value} (h : ArB w b t n f) (e : w'.heap[b]? = w.heap[b]?) : ArB w' b t n f := e.trans h
theorem ArB.lt {w : World} {b n : Nat} {t : TypeId} {f : Nat → Value} (h : ArB w b t n f) : b < w.heap.size := blk_lt h

def dnV (f : Nat → Bool) (i : Nat) : Value := .bool (f i)
def ansV (f : Nat → Nat) (i : Nat) : Value := .int .u64 (f i : Int)
theorem dnV_upd (f : Nat → Bool) (i : Nat) (b : Bool) : updN (dnV f) i (.bool b) = dnV (updN f i b) := by
  funext j
  unfold updN dnV
  by_cases e : j = i <;> simp [e]
theorem ansV_upd (f : Nat → Nat) (i k : Nat) : updN (ansV f) i (.int .u64 (k : Int)) = ansV (updN f i k) := by
  funext j
  unfold updN ansV
  by_cases e : j = i <;> simp [e]
theorem updN_self {α : Type} (f : Nat → α) (i : Nat) (x : α) : updN f i x i = x := if_pos rfl
theorem updN_ne {α : Type} (f : Nat → α) {i j : Nat} (x : α) (h : j ≠ i) : updN f i x j = f j := if_neg h

/-- Answered with the number k. -/
abbrev rzA (k : Nat) : Rz := ⟨0, true, [], [], k⟩
theorem okR_rzA {k : Nat} (h : k ≤ 100) : okR (rzA k) = true := okR_iff.2 ⟨by simp, by simp, by simp, by simp, by show k ≤ _; omega⟩
/-- The law's state: what is done, with which answers, the greatest Seq, the cell. -/
structure OSt (d : Nat → Bool) (an : Nat → Nat) (top : Nat) (c : List UInt8) : Prop where
  t16 : top ≤ 16
  non : ∀ n, top ≤ n → d n = false
  nil : top = 0 → c = []
  yes : 0 < top → d (top - 1) = true ∧ an (top - 1) ≤ 60 ∧ c = ssL top (rzA (an (top - 1)))
theorem OSt.start : OSt (fun _ => false) (fun _ => 0) 0 [] := ⟨by omega, fun _ _ => rfl, fun _ => rfl, fun h => absurd h (by omega)⟩
theorem OSt.len {d : Nat → Bool} {an : Nat → Nat} {top : Nat} {c : List UInt8} (h : OSt d an top c) : c.length ≤ 65536 := by
  have h16 := h.t16
  by_cases h0 : top = 0
  · rw [h.nil h0]; simp
  · obtain ⟨_, h2, h3⟩ := h.yes (by omega)
    rw [h3]
    exact (pt_small (by omega) (by omega) (okR_rzA (by omega)) (by simp)).2.2
/-- A Seq above the greatest is new. -/
theorem OSt.new {d : Nat → Bool} {an : Nat → Nat} {top : Nat} {c : List UInt8} (h : OSt d an top c) {n : Nat} (hn : n < 16) (ht : top ≤ n) : lkR c (n + 1) = rz0 ∧ lkA c (n + 1) = false ∧ lkE c (n + 1) = 0 := by
  have h16 := h.t16
  have hk : lkK c (n + 1) = 4 := by
    unfold lkK
    rw [if_pos ⟨by omega, by omega⟩]
    by_cases h0 : top = 0
    · rw [h.nil h0, rdE_nil, rdN_nil, if_pos rfl, if_neg (by omega), if_neg (by omega)]
    · obtain ⟨_, h2, h3⟩ := h.yes (by omega)
      obtain ⟨r1, r2, r3, r4, r5⟩ := rd_ss (q := top) (r := rzA (an (top - 1))) (by omega) (by omega) (okR_rzA (by omega))
      rw [h3, if_pos r4, r2, if_neg (by omega), if_neg (by omega)]
  unfold lkR lkA lkE
  rw [hk]
  exact ⟨rfl, rfl, rfl⟩
/-- The greatest again. -/
theorem OSt.again {d : Nat → Bool} {an : Nat → Nat} {top : Nat} {c : List UInt8} (h : OSt d an top c) {n : Nat} (ht : n + 1 = top) : lkR c (n + 1) = rzA (an n) ∧ lkA c (n + 1) = true ∧ lkE c (n + 1) = 0 ∧ d n = true := by
  have h16 := h.t16
  obtain ⟨h1, h2, h3⟩ := h.yes (by omega)
  obtain ⟨r1, r2, r3, r4, r5⟩ := rd_ss (q := top) (r := rzA (an (top - 1))) (by omega) (by omega) (okR_rzA (by omega))
  have hk : lkK c (n + 1) = 2 := by
    unfold lkK
    rw [if_pos ⟨by omega, by omega⟩, h3, if_pos r4, r2, if_pos ht]
  have e : top - 1 = n := by omega
  rw [e] at h1 r3 h3
  refine ⟨?_, ?_, ?_, h1⟩
  · unfold lkR
    rw [hk, if_pos rfl, h3, r3]
  · unfold lkA
    rw [hk]
    rfl
  · unfold lkE
    rw [hk]
    rfl
/-- A lesser one is stale. -/
theorem OSt.stale {d : Nat → Bool} {an : Nat → Nat} {top : Nat} {c : List UInt8} (h : OSt d an top c) {n : Nat} (ht : n + 1 < top) : lkR c (n + 1) = rz0 ∧ lkA c (n + 1) = false ∧ lkE c (n + 1) = 12 := by
  have h16 := h.t16
  obtain ⟨h1, h2, h3⟩ := h.yes (by omega)
  obtain ⟨r1, r2, r3, r4, r5⟩ := rd_ss (q := top) (r := rzA (an (top - 1))) (by omega) (by omega) (okR_rzA (by omega))
  have hk : lkK c (n + 1) = 3 := by
    unfold lkK
    rw [if_pos ⟨by omega, by omega⟩, h3, if_pos r4, r2, if_neg (by omega), if_pos ht]
  unfold lkR lkA lkE
  rw [hk]
  exact ⟨rfl, rfl, rfl⟩
theorem OSt.step {d : Nat → Bool} {an : Nat → Nat} {top : Nat} {c : List UInt8} (h : OSt d an top c) {n k : Nat} (hn : n < 16) (ht : top ≤ n) (hk : k ≤ 60) : OSt (updN d n true) (updN an n k) (n + 1) (ssL (n + 1) (rzA k)) :=
  ⟨by omega, fun m hm => by rw [updN_ne _ _ (by omega)]; exact h.non m (by omega), fun h0 => by omega, fun _ => by
    rw [show n + 1 - 1 = n from by omega, updN_self, updN_self]
    exact ⟨rfl, hk, rfl⟩⟩

end Go.Proofs.Ytmgibkglbddlpaa
