/-
  The order of cells fits together: what is ahead of what is ahead is ahead; only cells of one row, column and version are alike.
-/
import Derived.Test.YtlkikfkchgmmhaaKCell
namespace Go.Proofs.Ytlkikfkchgmmhaa

/-- Three comparisons that fit together. -/
def Tri (x y z : Int) : Prop := (x ≤ 0 → y ≤ 0 → z ≤ 0) ∧ (x < 0 → y ≤ 0 → z < 0) ∧ (x ≤ 0 → y < 0 → z < 0) ∧ (x ≥ 0 → y ≥ 0 → z ≥ 0) ∧ (x > 0 → y ≥ 0 → z > 0) ∧ (x ≥ 0 → y > 0 → z > 0) ∧ (x = 0 → y = z) ∧ (y = 0 → x = z)
theorem ct_tri (a b c : List UInt8) : Tri (ct a b) (ct b c) (ct a c) := by
  unfold Tri
  rcases ls_tri a b with h1 | rfl | h1
  · rcases ls_tri b c with h2 | rfl | h2
    · rw [ct_lt h1, ct_lt h2, ct_lt (ls_trans h1 h2)]; omega
    · rw [ct_lt h1, ct_self]; omega
    · rw [ct_lt h1, ct_gt h2]; omega
  · rw [ct_self]; omega
  · rcases ls_tri b c with h2 | rfl | h2
    · rw [ct_gt h1, ct_lt h2]; omega
    · rw [ct_gt h1, ct_self]; omega
    · rw [ct_gt h1, ct_gt h2, ct_gt (ls_trans h2 h1)]; omega
theorem ci_tri (a b c : Int) : Tri (Lib.compareInt b a) (Lib.compareInt c b) (Lib.compareInt c a) := by
  unfold Tri Lib.compareInt
  (repeat' split) <;> omega
theorem lex_tri {x y z a b c : Int} (h : Tri x y z) (k : Tri a b c) : Tri (if x = 0 then a else x) (if y = 0 then b else y) (if z = 0 then c else z) := by
  by_cases hx : x = 0
  · by_cases hy : y = 0
    · have hz : z = 0 := by have := h.2.2.2.2.2.2.1 hx; omega
      rw [if_pos hx, if_pos hy, if_pos hz]
      exact k
    · have hz : z = y := by have := h.2.2.2.2.2.2.1 hx; omega
      rw [if_pos hx, if_neg hy, if_neg (by omega), hz]
      clear h k hx hz
      unfold Tri
      omega
  · by_cases hy : y = 0
    · have hz : z = x := by have := h.2.2.2.2.2.2.2 hy; omega
      rw [if_neg hx, if_pos hy, if_neg (by omega), hz]
      clear h k hy hz
      unfold Tri
      omega
    · rw [if_neg hx, if_neg hy]
      obtain ⟨h1, h2, h3, h4, h5, h6, h7, h8⟩ := h
      by_cases hz : z = 0
      · rw [if_pos hz]
        clear k
        have o : (x < 0 ∧ 0 < y) ∨ (0 < x ∧ y < 0) := by
          rcases Int.lt_or_gt_of_ne hx with a | a <;> rcases Int.lt_or_gt_of_ne hy with b | b
          · have := h2 a (by omega); omega
          · exact Or.inl ⟨a, b⟩
          · exact Or.inr ⟨a, b⟩
          · have := h5 a (by omega); omega
        clear h1 h2 h3 h4 h5 h6 h7 h8
        unfold Tri
        omega
      · rw [if_neg hz]
        exact ⟨h1, h2, h3, h4, h5, h6, h7, h8⟩
theorem or3_tri {x y z x1 y1 z1 x2 y2 z2 : Int} (h : Tri x y z) (h1 : Tri x1 y1 z1) (h2 : Tri x2 y2 z2) : Tri (or3 x x1 x2) (or3 y y1 y2) (or3 z z1 z2) :=
  lex_tri h (lex_tri h1 h2)
theorem cc_tri (r c : List UInt8) (v : Int) (r1 c1 : List UInt8) (v1 : Int) (r2 c2 : List UInt8) (v2 : Int) : Tri (cc r c v r1 c1 v1) (cc r1 c1 v1 r2 c2 v2) (cc r c v r2 c2 v2) :=
  or3_tri (ct_tri r r1 r2) (ct_tri c c1 c2) (ci_tri v v1 v2)
theorem ct_dom (a b : List UInt8) : ct a b = -1 ∨ ct a b = 0 ∨ ct a b = 1 := by unfold ct; (repeat' split) <;> omega
theorem cc_dom (r c : List UInt8) (v : Int) (r' c' : List UInt8) (v' : Int) : cc r c v r' c' v' = -1 ∨ cc r c v r' c' v' = 0 ∨ cc r c v r' c' v' = 1 := by
  have h1 := ct_dom r r'
  have h2 := ct_dom c c'
  unfold cc or3 Lib.compareInt
  (repeat' split) <;> omega
theorem ci_zero (a b : Int) : Lib.compareInt a b = 0 ↔ b = a := by
  unfold Lib.compareInt
  (repeat' split) <;> omega
theorem cc_zero (r c : List UInt8) (v : Int) (r' c' : List UInt8) (v' : Int) : cc r c v r' c' v' = 0 ↔ r = r' ∧ c = c' ∧ v = v' := by
  rw [← ct_zero (a := r), ← ct_zero (a := c), ← ci_zero v' v]
  unfold cc or3
  (repeat' split) <;> simp_all
theorem cc_same (r c : List UInt8) (v v' : Int) : cc r c v r c v' = Lib.compareInt v' v := by
  unfold cc or3
  rw [ct_self, ct_self, if_pos rfl, if_pos rfl]
theorem cc_falls (r c : List UInt8) (v v' : Int) : (decide (cc r c v r c v' < 0) == decide (v' < v)) = true := by
  rw [cc_same]
  unfold Lib.compareInt
  by_cases h : v' < v
  · simp [h]
  · rw [if_neg h]
    split <;> simp [h]

end Go.Proofs.Ytlkikfkchgmmhaa
