/-
  The contracts of keys.fresh, keys.Split, of the document's own Split, and of the law's 'works'.
-/
import Derived.Test.YtlkikfkchgmmhaaKFn
import Derived.Test.YtlkikfkchgmmhaaShelf
import Derived.RegionTactic
import Derived.Deep.RegionHeld3
import Derived.Test.YtlkikfkchgmmhaaKEq
namespace Go.Proofs.Ytlkikfkchgmmhaa
open Go.RowKit
attribute [local go_sem] size_bstr toList_bstr ls_def

set_option maxHeartbeats 1000000 in
theorem KClone_any (l : List UInt8) (w : World) (hl : l.length ≤ 10000000000) :
    Calls Try.prog 39 #[.string (bstr l)] w fun e w' => e = .returned (.string (bstr l)) ∧ Below w.heap.size w w' := by
  go_enter Try.func39, Try.ntmps39
  go_wp2_with fail
  refine (Try.stringslite_Clone (bstr l) _ (by rw [size_bstr]; omega)).mono ?_
  rintro e w' ⟨rfl, hb⟩
  go_wp2
  go_ret
  exact ⟨rfl, hb⟩

/-- A block that was laid before a call: behind the call it is as it was. -/
theorem cell_new {w w2 : World} {cs : Array Value} {t : TypeId} (h : Below (w.alloc (.cells cs t)).heap.size (w.alloc (.cells cs t)) w2) (j : Nat) {v : Value} (hj : cs[j]? = some v) :
    w2.cell? ⟨w.heap.size, j, none⟩ = some v ∧ w2.frozen? ⟨w.heap.size, j, none⟩ = false := by
  obtain ⟨cb, fb⟩ := bcell h
  have hs : w.heap.size < (w.alloc (.cells cs t)).heap.size := by simp
  rw [cb _ _ hs, fb _ _ hs]
  exact ⟨by rw [World.cell?_alloc_at cs t w.heap.size j rfl]; exact hj, by simp⟩

theorem res3 {P : Program} {fn : Func} {p q r : Tmp} {ty : TypeId} (h : fn.results = #[.cell p ty, .cell q ty, .tmp r]) (tmps : Array Value) (w : World) :
    (results fn tmps).run P w =
      ((asAddr (tmps.getD p undef)).run P w).andThen fun a w₁ => ((loadVar ty a).run P w₁).andThen fun v w₂ => ((asAddr (tmps.getD q undef)).run P w₂).andThen fun b w₃ => ((loadVar ty b).run P w₃).andThen fun u w₄ => .ok (.tuple #[v, u, tmps.getD r undef]) w₄ := by
  simp only [results, h]
  simp [Sem.run_bind, Result.andThen]

/-- Three results, two of them ranges: what a split answers. -/
abbrev triV (a b c d : List UInt8) (e : Int) : Value := .tuple #[rngV a b, rngV c d, .int .i64 e]

theorem below_set4 {B : Nat} {w W : World} {n : Nat} (p q r s : Value) (hB : Below B w W) (h : B ≤ n + 1) :
    Below B w ((((W.setCell ⟨n + 1, 0, none⟩ p).setCell ⟨n + 1, 1, none⟩ q).setCell ⟨n + 1 + 1, 0, none⟩ r).setCell ⟨n + 1 + 1, 1, none⟩ s) := by
  have b1 := hB.setCell (p := ⟨n + 1, 0, none⟩) h p
  have b2 := b1.setCell (p := ⟨n + 1, 1, none⟩) h q
  have b3 := b2.setCell (p := ⟨n + 1 + 1, 0, none⟩) (Nat.le_succ_of_le h) r
  exact b3.setCell (p := ⟨n + 1 + 1, 1, none⟩) (Nat.le_succ_of_le h) s
theorem below_set2 {B : Nat} {w W : World} {n : Nat} (p q : Value) (hB : Below B w W) (h : B ≤ n + 1) :
    Below B w ((W.setCell ⟨n + 1, 0, none⟩ p).setCell ⟨n + 1, 1, none⟩ q) := by
  have b1 := hB.setCell (p := ⟨n + 1, 0, none⟩) h p
  exact b1.setCell (p := ⟨n + 1, 1, none⟩) h q
theorem set2_cell {W : World} {n o : Nat} {p q v : Value} (h : W.cell? ⟨n, o, none⟩ = some v) :
    ((W.setCell ⟨n + 1, 0, none⟩ p).setCell ⟨n + 1, 1, none⟩ q).cell? ⟨n, o, none⟩ = some v := by
  rw [(below_set2 p q (Below.refl (n + 1) W) (Nat.le_refl _)).cell (p := ⟨n, o, none⟩) (Nat.lt_succ_self n)]
  exact h
theorem set4_cell {W : World} {n o : Nat} {p q r s v : Value} (h : W.cell? ⟨n, o, none⟩ = some v) :
    ((((W.setCell ⟨n + 1, 0, none⟩ p).setCell ⟨n + 1, 1, none⟩ q).setCell ⟨n + 1 + 1, 0, none⟩ r).setCell ⟨n + 1 + 1, 1, none⟩ s).cell? ⟨n, o, none⟩ = some v := by
  rw [(below_set4 p q r s (Below.refl (n + 1) W) (Nat.le_refl _)).cell (p := ⟨n, o, none⟩) (Nat.lt_succ_self n)]
  exact h

theorem set4_reads {W : World} {n : Nat} {p q r s u0 u1 u2 u3 : Value} (d0 : W.cell? ⟨n + 1, 0, none⟩ = some u0) (d1 : W.cell? ⟨n + 1, 1, none⟩ = some u1) (e0 : W.cell? ⟨n + 1 + 1, 0, none⟩ = some u2) (e1 : W.cell? ⟨n + 1 + 1, 1, none⟩ = some u3)
    {W' : World} (hW : (((W.setCell ⟨n + 1, 0, none⟩ p).setCell ⟨n + 1, 1, none⟩ q).setCell ⟨n + 1 + 1, 0, none⟩ r).setCell ⟨n + 1 + 1, 1, none⟩ s = W') :
    W'.cell? ⟨n + 1, 0, none⟩ = some p ∧ W'.cell? ⟨n + 1, 1, none⟩ = some q ∧ W'.cell? ⟨n + 1 + 1, 0, none⟩ = some r ∧ W'.cell? ⟨n + 1 + 1, 1, none⟩ = some s := by
  subst hW
  refine ⟨?_, ?_, ?_, ?_⟩ <;> go_simp

end Go.Proofs.Ytlkikfkchgmmhaa
