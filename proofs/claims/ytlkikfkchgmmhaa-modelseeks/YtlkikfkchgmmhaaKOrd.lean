/-
  Texts in order, byte by byte, as the model has it; ranges as pairs of lists of bytes: what one has, whether it may be, whether two meet, how one is split.
-/
import Derived.Test.YtlkikfkchgmmhaaAid
namespace Go.Proofs.Ytlkikfkchgmmhaa

/-- One text is ahead of another one. -/
def ls (a b : List UInt8) : Bool := Op.bytesLess a b
theorem ls_def (a b : List UInt8) : Op.bytesLess a b = ls a b := rfl
theorem ls_irrefl : ∀ a : List UInt8, ls a a = false
  | [] => rfl
  | x :: a => by
    have := ls_irrefl a
    unfold ls at this ⊢
    simp [Op.bytesLess, this]
theorem ls_trans : ∀ {a b c : List UInt8}, ls a b = true → ls b c = true → ls a c = true
  | a, [], c, h, _ => by unfold ls at h; cases a <;> simp [Op.bytesLess] at h
  | a, b :: y, [], _, h => by unfold ls at h; simp [Op.bytesLess] at h
  | [], b :: y, c :: z, _, _ => by unfold ls; simp [Op.bytesLess]
  | a :: x, b :: y, c :: z, h1, h2 => by
    have ih := @ls_trans x y z
    unfold ls at h1 h2 ih ⊢
    simp only [Op.bytesLess, Bool.or_eq_true, Bool.and_eq_true, decide_eq_true_eq, beq_iff_eq] at h1 h2 ⊢
    rcases h1 with h1 | ⟨rfl, h1⟩ <;> rcases h2 with h2 | ⟨rfl, h2⟩
    · exact Or.inl (UInt8.lt_trans h1 h2)
    · exact Or.inl h1
    · exact Or.inl h2
    · exact Or.inr ⟨rfl, ih h1 h2⟩
theorem ls_tri : ∀ a b : List UInt8, ls a b = true ∨ a = b ∨ ls b a = true
  | [], [] => Or.inr (Or.inl rfl)
  | [], _ :: _ => Or.inl (by unfold ls; simp [Op.bytesLess])
  | _ :: _, [] => Or.inr (Or.inr (by unfold ls; simp [Op.bytesLess]))
  | a :: x, b :: y => by
    have ih := ls_tri x y
    unfold ls at ih ⊢
    simp only [Op.bytesLess, Bool.or_eq_true, Bool.and_eq_true, decide_eq_true_eq, beq_iff_eq, List.cons.injEq]
    rcases UInt8.lt_or_lt_of_ne (a := a) (b := b) |> fun h => Classical.em (a = b) |>.elim (fun e => Or.inl e) (fun n => Or.inr (h n)) with rfl | h | h
    · rcases ih with ih | rfl | ih
      · exact Or.inl (Or.inr ⟨rfl, ih⟩)
      · exact Or.inr (Or.inl ⟨rfl, rfl⟩)
      · exact Or.inr (Or.inr (Or.inr ⟨rfl, ih⟩))
    · exact Or.inl (Or.inl h)
    · exact Or.inr (Or.inr (Or.inl h))
theorem ls_asymm {a b : List UInt8} (h : ls a b = true) : ls b a = false := by
  cases h2 : ls b a with
  | false => rfl
  | true => have := ls_trans h h2; rw [ls_irrefl] at this; cases this
theorem ls_nil (a : List UInt8) : ls a [] = false := by unfold ls; cases a <;> rfl
theorem ls_pos {a : List UInt8} (h : a ≠ []) : ls [] a = true := by unfold ls; cases a <;> simp_all [Op.bytesLess]
theorem ls_ne {a b : List UInt8} (h : ls a b = true) : a ≠ b := by rintro rfl; rw [ls_irrefl] at h; cases h
/-- Not ahead, and then ahead. -/
theorem ls_of_not {a b c : List UInt8} (h1 : ls b a = false) (h2 : ls b c = true) : ls a c = true := by
  rcases ls_tri a b with h | rfl | h
  · exact ls_trans h h2
  · exact h2
  · rw [h] at h1; cases h1
theorem ls_of_not' {a b c : List UInt8} (h1 : ls a b = true) (h2 : ls c b = false) : ls a c = true := by
  rcases ls_tri b c with h | rfl | h
  · exact ls_trans h1 h
  · exact h1
  · rw [h] at h2; cases h2
theorem not_ls_trans {a b c : List UInt8} (h1 : ls b a = false) (h2 : ls c b = false) : ls c a = false := by
  cases h : ls c a with
  | false => rfl
  | true => have := ls_of_not h2 h; rw [this] at h1; cases h1
theorem eq_of_not {a b : List UInt8} (h1 : ls a b = false) (h2 : ls b a = false) : a = b := by
  rcases ls_tri a b with h | h | h
  · rw [h] at h1; cases h1
  · exact h
  · rw [h] at h2; cases h2
/-- 'a <= b', as the model spells it. -/
theorem le_spelt (a b : List UInt8) : (ls a b || a == b) = !ls b a := by
  rcases ls_tri a b with h | rfl | h
  · rw [h, ls_asymm h]; rfl
  · rw [ls_irrefl]; simp
  · rw [h, ls_asymm h]
    have := ls_ne h
    simp only [Bool.false_or, Bool.not_true, beq_eq_false_iff_ne, ne_eq]
    exact fun e => this e.symm

/-- A range has a text. -/
def hasB (lo hi k : List UInt8) : Bool := !ls k lo && (hi == [] || ls k hi)
/-- A range may be. -/
def mayB (lo hi : List UInt8) : Bool := decide (lo.length ≤ 24) && decide (hi.length ≤ 24) && (hi == [] || ls lo hi)
def maxT (a b : List UInt8) : List UInt8 := if ls a b = true then b else a
def meetB (a b c d : List UInt8) : Bool := hasB a b (maxT a c) && hasB c d (maxT a c)
/-- It can be split there. -/
def splitB (lo hi k : List UInt8) : Bool := mayB lo hi && decide (k.length ≤ 24) && hasB lo hi k && !(k == lo)

theorem hasB_iff (lo hi k : List UInt8) : hasB lo hi k = true ↔ ls k lo = false ∧ (hi = [] ∨ ls k hi = true) := by
  simp [hasB]
theorem mayB_iff (lo hi : List UInt8) : mayB lo hi = true ↔ lo.length ≤ 24 ∧ hi.length ≤ 24 ∧ (hi = [] ∨ ls lo hi = true) := by
  simp [mayB, and_assoc]
theorem splitB_iff (lo hi k : List UInt8) : splitB lo hi k = true ↔ mayB lo hi = true ∧ k.length ≤ 24 ∧ hasB lo hi k = true ∧ k ≠ lo := by
  simp [splitB, and_assoc]

/-- A range as a value; and no range. -/
abbrev rngV (lo hi : List UInt8) : Value := .agg #[.string (bstr lo), .string (bstr hi)]

theorem beq_bstr_nil (l : List UInt8) : (l == ([] : List UInt8)) = decide (l = []) := by cases l <;> rfl

end Go.Proofs.Ytlkikfkchgmmhaa
