/-
  Towers in order: what is next at a level, which is the last one at a level, how many are above a level; a cell put into a list in order, and what comes of many.
-/
import Derived.Test.YtijfmgpipnhkkaaCMath
namespace Go.Proofs.Ytijfmgpipnhkkaa

/-- A tower: its block, its cell, its height. -/
structure Tw where
  b : Nat
  c : Cl
  h : Nat

/-- The first tower at a level. -/
def nxt (n : Nat) (L : List Tw) : Option Nat := (L.find? (fun t => decide (n < t.h))).map (fun t => t.b)
def lnk (t : Tw) (B : List Tw) : Nat → Option Nat := fun n => if n < t.h then nxt n B else none
def cnt (n : Nat) (L : List Tw) : Nat := L.countP (fun t => decide (n < t.h))

theorem nxt_nil (n : Nat) : nxt n [] = none := rfl
theorem nxt_cons_yes {n : Nat} {t : Tw} {L : List Tw} (h : n < t.h) : nxt n (t :: L) = some t.b := by simp [nxt, h]
theorem nxt_cons_no {n : Nat} {t : Tw} {L : List Tw} (h : t.h ≤ n) : nxt n (t :: L) = nxt n L := by
  have : ¬ n < t.h := by omega
  simp [nxt, this]
theorem nxt_append (n : Nat) (A B : List Tw) : nxt n (A ++ B) = (nxt n A).or (nxt n B) := by
  induction A with
  | nil => simp [nxt_nil]
  | cons t A ih =>
    rw [List.cons_append]
    by_cases h : n < t.h
    · rw [nxt_cons_yes h, nxt_cons_yes h]; rfl
    · rw [nxt_cons_no (by omega), nxt_cons_no (by omega), ih]
theorem nxt_none {n : Nat} {L : List Tw} (h : ∀ t ∈ L, t.h ≤ n) : nxt n L = none := by
  induction L with
  | nil => rfl
  | cons t L ih => rw [nxt_cons_no (h t (by simp)), ih fun x hx => h x (by simp [hx])]
theorem nxt_skip {n : Nat} {A B : List Tw} (h : ∀ t ∈ A, t.h ≤ n) : nxt n (A ++ B) = nxt n B := by rw [nxt_append, nxt_none h]; rfl
theorem nxt_some : ∀ {n : Nat} {L : List Tw} {b : Nat}, nxt n L = some b → ∃ Y t Z, L = Y ++ t :: Z ∧ t.b = b ∧ n < t.h ∧ ∀ y ∈ Y, y.h ≤ n
  | n, [], b, h => by simp [nxt] at h
  | n, t :: L, b, h => by
    by_cases k : n < t.h
    · rw [nxt_cons_yes k] at h
      cases h
      exact ⟨[], t, L, rfl, rfl, k, by simp⟩
    · rw [nxt_cons_no (by omega)] at h
      obtain ⟨Y, u, Z, e, e2, e3, e4⟩ := nxt_some h
      exact ⟨t :: Y, u, Z, by rw [e]; rfl, e2, e3, fun y hy => by
        rcases List.mem_cons.1 hy with rfl | hy
        · omega
        · exact e4 y hy⟩
theorem nxt_is {n : Nat} {L : List Tw} : (∃ b, nxt n L = some b) ∨ ∀ t ∈ L, t.h ≤ n := by
  induction L with
  | nil => exact Or.inr (by simp)
  | cons t L ih =>
    by_cases k : n < t.h
    · exact Or.inl ⟨_, nxt_cons_yes k⟩
    · rcases ih with ⟨b, e⟩ | e
      · exact Or.inl ⟨b, by rw [nxt_cons_no (by omega), e]⟩
      · refine Or.inr fun x hx => ?_
        rcases List.mem_cons.1 hx with rfl | hx
        · omega
        · exact e x hx
/-- Only blocks and heights count. -/
theorem nxt_congr {n : Nat} {A B : List Tw} {t u : Tw} (hb : t.b = u.b) (hh : t.h = u.h) : nxt n (A ++ t :: B) = nxt n (A ++ u :: B) := by
  rw [nxt_append, nxt_append]
  congr 1
  by_cases k : n < t.h
  · rw [nxt_cons_yes k, nxt_cons_yes (by omega), hb]
  · rw [nxt_cons_no (by omega), nxt_cons_no (by omega)]
theorem cnt_append (n : Nat) (A B : List Tw) : cnt n (A ++ B) = cnt n A + cnt n B := by simp [cnt]
theorem cnt_cons (n : Nat) (t : Tw) (B : List Tw) : cnt n (t :: B) = cnt n B + if n < t.h then 1 else 0 := by
  unfold cnt
  rw [List.countP_cons]
  simp
theorem cnt_le (n : Nat) (L : List Tw) : cnt n L ≤ L.length := List.countP_le_length

/-- The last tower of A at a level. -/
def Last (n : Nat) (A : List Tw) (t : Tw) : Prop := ∃ X Y, A = X ++ t :: Y ∧ n < t.h ∧ ∀ y ∈ Y, y.h ≤ n

/-- A tower that is one level higher: what is next to others. -/
theorem nxt_grow {n k : Nat} {Y B : List Tw} {b : Nat} {c : Cl} (h : n ≠ k ∨ ∃ y ∈ Y, k < y.h) : nxt n (Y ++ ⟨b, c, k + 1⟩ :: B) = nxt n (Y ++ ⟨b, c, k⟩ :: B) := by
  rw [nxt_append, nxt_append]
  by_cases e : n = k
  · subst e
    rcases h with h | ⟨y, hy, hk⟩
    · exact absurd rfl h
    · rcases nxt_is (n := n) (L := Y) with ⟨b', e⟩ | e
      · rw [e]; rfl
      · have := e y hy; omega
  · congr 1
    by_cases q : n < k
    · rw [nxt_cons_yes (t := ⟨b, c, k + 1⟩) (by simp; omega), nxt_cons_yes (t := ⟨b, c, k⟩) q]
    · rw [nxt_cons_no (t := ⟨b, c, k + 1⟩) (by simp; omega), nxt_cons_no (t := ⟨b, c, k⟩) (by simp; omega)]
theorem nxt_grown {k : Nat} {Y B : List Tw} {b : Nat} {c : Cl} (h : ∀ y ∈ Y, y.h ≤ k) : nxt k (Y ++ ⟨b, c, k + 1⟩ :: B) = some b := by
  rw [nxt_skip h, nxt_cons_yes (t := ⟨b, c, k + 1⟩) (by simp)]
theorem nxt_ungrown {k : Nat} {Y B : List Tw} {b : Nat} {c : Cl} (h : ∀ y ∈ Y, y.h ≤ k) : nxt k (Y ++ ⟨b, c, k⟩ :: B) = nxt k B := by
  rw [nxt_skip h, nxt_cons_no (t := ⟨b, c, k⟩) (by simp)]
/-- A tower without height is nowhere. -/
theorem nxt_flat (n : Nat) (Y B : List Tw) (b : Nat) (c : Cl) : nxt n (Y ++ ⟨b, c, 0⟩ :: B) = nxt n (Y ++ B) := by
  rw [nxt_append, nxt_append, nxt_cons_no (t := ⟨b, c, 0⟩) (by simp)]

/-- Two ways to part one list. -/
theorem parts {α : Type} : ∀ {A : List α} {t : α} {B X : List α} {u : α} {Y : List α}, A ++ t :: B = X ++ u :: Y →
    (∃ Z, A = X ++ u :: Z ∧ Y = Z ++ t :: B) ∨ (A = X ∧ t = u ∧ B = Y) ∨ ∃ Z, X = A ++ t :: Z ∧ B = Z ++ u :: Y
  | [], t, B, [], u, Y, h => by simp at h; exact Or.inr (Or.inl ⟨rfl, h.1, h.2⟩)
  | [], t, B, x :: X, u, Y, h => by
    simp at h
    exact Or.inr (Or.inr ⟨X, by rw [h.1]; rfl, h.2⟩)
  | a :: A, t, B, [], u, Y, h => by
    simp at h
    exact Or.inl ⟨A, by rw [h.1]; rfl, h.2.symm⟩
  | a :: A, t, B, x :: X, u, Y, h => by
    simp at h
    obtain ⟨rfl, h⟩ := h
    rcases parts h with ⟨Z, e1, e2⟩ | ⟨e1, e2, e3⟩ | ⟨Z, e1, e2⟩
    · exact Or.inl ⟨Z, by rw [e1]; rfl, e2⟩
    · exact Or.inr (Or.inl ⟨by rw [e1], e2, e3⟩)
    · exact Or.inr (Or.inr ⟨Z, by rw [e1]; rfl, e2⟩)

/-! ### A cell put into a list in order -/
def putC (c : Cl) (L : List Cl) : List Cl := L.filter (fun x => decide (ccl x c < 0)) ++ c :: L.filter (fun x => decide (0 < ccl x c))
theorem filter_all {α : Type} {p : α → Bool} : ∀ {l : List α}, (∀ x ∈ l, p x = true) → l.filter p = l
  | [], _ => rfl
  | a :: l, h => by rw [List.filter_cons_of_pos (h a (by simp)), filter_all fun x hx => h x (by simp [hx])]
theorem filter_none {α : Type} {p : α → Bool} : ∀ {l : List α}, (∀ x ∈ l, p x = false) → l.filter p = []
  | [], _ => rfl
  | a :: l, h => by rw [List.filter_cons_of_neg (by simp [h a (by simp)]), filter_none fun x hx => h x (by simp [hx])]
theorem putC_new {c : Cl} {A B : List Cl} (hA : ∀ x ∈ A, ccl x c < 0) (hB : ∀ x ∈ B, 0 < ccl x c) : putC c (A ++ B) = A ++ c :: B := by
  unfold putC
  rw [List.filter_append, List.filter_append, filter_all (l := A) (fun x hx => by simpa using hA x hx), filter_none (l := B) (fun x hx => by have := hB x hx; simp; omega), filter_none (l := A) (fun x hx => by have := hA x hx; simp; omega), filter_all (l := B) (fun x hx => by simpa using hB x hx)]
  simp
theorem putC_old {c x : Cl} {A B : List Cl} (hA : ∀ x ∈ A, ccl x c < 0) (hx : ccl x c = 0) (hB : ∀ x ∈ B, 0 < ccl x c) : putC c (A ++ x :: B) = A ++ c :: B := by
  have e : putC c (A ++ x :: B) = putC c (A ++ B) := by
    unfold putC
    rw [List.filter_append, List.filter_append, List.filter_append, List.filter_append, List.filter_cons_of_neg (by simp [hx]), List.filter_cons_of_neg (by simp [hx])]
  rw [e, putC_new hA hB]
/-- A list in order is parted by a cell. -/
theorem asc_parts {c : Cl} : ∀ {L : List Cl}, Asc L → ∃ A B, L = A ++ B ∧ (∀ x ∈ A, ccl x c < 0) ∧ (∀ x ∈ B, 0 ≤ ccl x c)
  | [], _ => ⟨[], [], rfl, by simp, by simp⟩
  | x :: L, h => by
    have hx := List.pairwise_cons.1 h
    by_cases k : ccl x c < 0
    · obtain ⟨A, B, e, hA, hB⟩ := asc_parts (c := c) (L := L) hx.2
      exact ⟨x :: A, B, by rw [e]; rfl, fun y hy => by
        rcases List.mem_cons.1 hy with rfl | hy
        · exact k
        · exact hA y hy, hB⟩
    · refine ⟨[], x :: L, rfl, by simp, fun y hy => ?_⟩
      rcases List.mem_cons.1 hy with rfl | hy
      · omega
      · have h1 := hx.1 y hy
        by_cases q : ccl y c < 0
        · have := ccl_lt_trans h1 q; omega
        · omega
theorem asc_tail {c x : Cl} {A B : List Cl} (h : Asc (A ++ x :: B)) (hx : 0 ≤ ccl x c) : ∀ y ∈ B, 0 < ccl y c := by
  intro y hy
  have h1 : ccl x y < 0 := (List.pairwise_cons.1 (List.pairwise_append.1 h).2.1).1 y hy
  by_cases q : ccl y c ≤ 0
  · have := ccl_lt_le h1 q; omega
  · omega
theorem asc_putC {c : Cl} {L : List Cl} (h : Asc L) : Asc (putC c L) := by
  unfold putC Asc
  refine List.pairwise_append.2 ⟨h.sublist List.filter_sublist, List.pairwise_cons.2 ⟨fun y hy => ?_, h.sublist List.filter_sublist⟩, fun a ha b hb => ?_⟩
  · have := (List.mem_filter.1 hy).2
    simp at this
    exact ccl_neg.2 this
  · have h1 := (List.mem_filter.1 ha).2
    simp at h1
    rcases List.mem_cons.1 hb with rfl | hb
    · exact h1
    · have h2 := (List.mem_filter.1 hb).2
      simp at h2
      exact ccl_lt_trans h1 (ccl_neg.2 h2)
theorem putC_mem {c : Cl} {L : List Cl} {x : Cl} (h : x ∈ putC c L) : x = c ∨ x ∈ L := by
  unfold putC at h
  rcases List.mem_append.1 h with h | h
  · exact Or.inr (List.mem_filter.1 h).1
  · rcases List.mem_cons.1 h with h | h
    · exact Or.inl h
    · exact Or.inr (List.mem_filter.1 h).1
theorem putC_spec {l L : List Cl} (h : SortSpec l L) (c : Cl) : SortSpec (c :: l) (putC c L) := by
  refine ⟨asc_putC h.asc, fun s hs => ?_, fun x hx => ?_⟩
  · unfold putC at hs
    have key : ∀ s ∈ L, ccl s c ≠ 0 → (c :: l).find? (fun x => decide (ccl x s = 0)) = some s := fun s hs hn => by
      rw [List.find?_cons_of_neg (by simp; exact fun e => hn (ccl_sym e))]
      exact h.fst s hs
    rcases List.mem_append.1 hs with hs | hs
    · have h1 := List.mem_filter.1 hs
      exact key s h1.1 (by have := h1.2; simp at this; omega)
    · rcases List.mem_cons.1 hs with rfl | hs
      · rw [List.find?_cons_of_pos (by simp [ccl_self])]
      · have h1 := List.mem_filter.1 hs
        exact key s h1.1 (by have := h1.2; simp at this; omega)
  · rcases List.mem_cons.1 hx with rfl | hx
    · exact ⟨x, by unfold putC; simp, ccl_self x⟩
    · obtain ⟨s, hs, e⟩ := h.all x hx
      by_cases h0 : ccl s c = 0
      · exact ⟨c, by unfold putC; simp, by rw [← ccl_eq_right h0]; exact e⟩
      · refine ⟨s, ?_, e⟩
        unfold putC
        by_cases h1 : ccl s c < 0
        · exact List.mem_append.2 (Or.inl (List.mem_filter.2 ⟨hs, by simpa using h1⟩))
        · exact List.mem_append.2 (Or.inr (List.mem_cons.2 (Or.inr (List.mem_filter.2 ⟨hs, by simp; omega⟩))))
/-- Cells put one behind the other. -/
def putL (l : List Cl) : List Cl := l.foldl (fun L c => putC c L) []
theorem putL_snoc (l : List Cl) (c : Cl) : putL (l ++ [c]) = putC c (putL l) := by simp [putL]
theorem putL_go : ∀ (l pre L : List Cl), SortSpec pre L → SortSpec (l.reverse ++ pre) (l.foldl (fun L c => putC c L) L)
  | [], pre, L, h => by simpa using h
  | c :: l, pre, L, h => by
    have := putL_go l (c :: pre) (putC c L) (putC_spec h c)
    simpa using this
theorem putL_spec (l : List Cl) : SortSpec l.reverse (putL l) := by
  have := putL_go l [] [] ⟨List.Pairwise.nil, by simp, by simp⟩
  simpa [putL] using this
theorem putL_asc (l : List Cl) : Asc (putL l) := (putL_spec l).asc
theorem putL_sort (l : List Cl) : putL l = sortL l.reverse := (putL_spec l).one (sortL_spec l.reverse)
theorem putL_mem {l : List Cl} {x : Cl} (h : x ∈ putL l) : x ∈ l := by
  have := (putL_spec l).sub x h
  simpa using this
theorem putC_length (c : Cl) (L : List Cl) : (putC c L).length ≤ L.length + 1 := by
  unfold putC
  have : ∀ L : List Cl, (L.filter (fun x => decide (ccl x c < 0))).length + (L.filter (fun x => decide (0 < ccl x c))).length ≤ L.length := by
    intro L
    induction L with
    | nil => simp
    | cons x L ih =>
      simp only [List.filter_cons, List.length_cons]
      by_cases h1 : ccl x c < 0
      · have h2 : ¬ 0 < ccl x c := by omega
        simp only [h1, h2, decide_true, decide_false, if_true, List.length_cons]
        simp
        omega
      · by_cases h2 : 0 < ccl x c
        · simp only [h1, h2, decide_true, decide_false, if_true, List.length_cons]
          simp
          omega
        · simp only [h1, h2, decide_false]
          simp
          omega
  have := this L
  simp only [List.length_append, List.length_cons]
  omega
theorem putL_length (l : List Cl) : (putL l).length ≤ l.length := by
  have : ∀ (l L : List Cl), (l.foldl (fun L c => putC c L) L).length ≤ L.length + l.length := by
    intro l
    induction l with
    | nil => simp
    | cons c l ih =>
      intro L
      have h1 := ih (putC c L)
      have h2 := putC_length c L
      simp only [List.foldl_cons, List.length_cons]
      omega
  simpa [putL] using this l []
/-- What stands in order is what comes of its cells, in whatever order. -/
theorem asc_spec {l s : List Cl} (hs : Asc s) (hm : ∀ x, x ∈ l ↔ x ∈ s) : SortSpec l s := by
  have one : ∀ x ∈ s, ∀ y ∈ s, ccl x y = 0 → x = y := by
    intro x hx y hy e
    obtain ⟨i, hi, rfl⟩ := List.getElem_of_mem hx
    obtain ⟨j, hj, rfl⟩ := List.getElem_of_mem hy
    rcases Nat.lt_trichotomy i j with k | k | k
    · have := List.pairwise_iff_getElem.1 hs i j hi hj k; omega
    · subst k; rfl
    · have := List.pairwise_iff_getElem.1 hs j i hj hi k
      rw [ccl_sym e] at this; omega
  refine ⟨hs, fun x hx => ?_, fun x hx => ⟨x, (hm x).1 hx, ccl_self x⟩⟩
  cases hf : l.find? (fun y => decide (ccl y x = 0)) with
  | none =>
    have := List.find?_eq_none.1 hf x ((hm x).2 hx)
    simp [ccl_self] at this
  | some y =>
    have h1 := List.mem_of_find?_eq_some hf
    have h2 := List.find?_some hf
    simp at h2
    rw [one y ((hm y).1 h1) x hx h2]
theorem putL_self {s : List Cl} (hs : Asc s) : putL s = s := (putL_spec s).one (asc_spec hs (by simp))
theorem putL_back {s : List Cl} (hs : Asc s) : putL s.reverse = s := by
  have := putL_spec s.reverse
  rw [List.reverse_reverse] at this
  exact this.one (asc_spec hs (by simp))

end Go.Proofs.Ytijfmgpipnhkkaa
