/-
  Gaps of ranges, as lists of pairs: what the document asks of one, that it asks one answer alone, and that going through the ranges by rising Low tells it; and that asking all again and again tells it too.
-/
import Derived.Test.YtalkhkndelpdfaaKOrd
namespace Go.Proofs.Ytalkhkndelpdfaa

abbrev Rg := List UInt8 × List UInt8
/-- A text is had by one of the ranges that may be. -/
def cov (rs : List Rg) (t : List UInt8) : Prop := ∃ r ∈ rs, mayB r.1 r.2 = true ∧ hasB r.1 r.2 t = true
/-- What a gap is. -/
def GapSpec (rs : List Rg) : Option Rg → Prop
  | none => ∀ t, cov rs t
  | some (a, b) => ¬ cov rs a ∧ (∀ t, ls t a = true → cov rs t) ∧ (∀ r ∈ rs, mayB r.1 r.2 = true → ls a r.1 = true → b ≠ [] ∧ ls r.1 b = false) ∧ (b ≠ [] → ls a b = true ∧ ∃ r ∈ rs, mayB r.1 r.2 = true ∧ r.1 = b)

theorem gapSpec_one {rs : List Rg} : ∀ {o p : Option Rg}, GapSpec rs o → GapSpec rs p → o = p
  | none, none, _, _ => rfl
  | none, some (a, b), h, k => absurd (h a) k.1
  | some (a, b), none, h, k => absurd (k a) h.1
  | some (a, b), some (c, d), h, k => by
    obtain ⟨h1, h2, h3, h4⟩ := h
    obtain ⟨k1, k2, k3, k4⟩ := k
    have e : a = c := by
      rcases ls_tri a c with x | x | x
      · exact absurd (k2 a x) h1
      · exact x
      · exact absurd (h2 c x) k1
    subst e
    have e2 : b = d := by
      by_cases hb : b = []
      · by_cases hd : d = []
        · rw [hb, hd]
        · obtain ⟨x, r, hr, hm, hl⟩ := k4 hd
          exact absurd hb (h3 r hr hm (by rw [hl]; exact x)).1
      · obtain ⟨x, r, hr, hm, hl⟩ := h4 hb
        obtain ⟨hd, y⟩ := k3 r hr hm (by rw [hl]; exact x)
        obtain ⟨x', r', hr', hm', hl'⟩ := k4 hd
        obtain ⟨_, y'⟩ := h3 r' hr' hm' (by rw [hl']; exact x')
        rw [hl] at y
        rw [hl'] at y'
        exact eq_of_not y y'
    rw [e2]

/-- The ranges that may be, by rising Low. -/
structure Sorted (rs ss : List Rg) : Prop where
  sub : ∀ r ∈ ss, r ∈ rs ∧ mayB r.1 r.2 = true
  all : ∀ r ∈ rs, mayB r.1 r.2 = true → r ∈ ss
  asc : ∀ i j (hj : j < ss.length) (hi : i < j), ls (ss[j]).1 (ss[i]'(by omega)).1 = false

/-- So far all ahead of e is covered. -/
structure Went3 (rs ss : List Rg) (k : Nat) (e : List UInt8) : Prop where
  le : k ≤ ss.length
  cov : ∀ t, ls t e = true → cov rs t
  past : ∀ i (hi : i < ss.length), i < k → (ss[i]).2 ≠ [] ∧ ls e (ss[i]).2 = false
  short : e.length ≤ 24

theorem Went3.start (rs ss : List Rg) : Went3 rs ss 0 [] := ⟨Nat.zero_le _, fun t h => (by rw [ls_nil] at h; cases h), fun i _ h => by omega, by simp⟩
theorem mem_idx {ss : List Rg} {r : Rg} (h : r ∈ ss) : ∃ i, ∃ hi : i < ss.length, ss[i] = r := List.getElem_of_mem h
/-- A range that ends no later does not have the text. -/
theorem not_has {lo hi t : List UInt8} (h1 : hi ≠ []) (h2 : ls t hi = false) : hasB lo hi t = false := by
  have e : (hi == ([] : List UInt8)) = false := by simpa using h1
  simp [hasB, e, h2]
theorem not_has' {lo hi t : List UInt8} (h : ls t lo = true) : hasB lo hi t = false := by simp [hasB, h]
theorem low_past {lo hi e : List UInt8} (hm : mayB lo hi = true) (h1 : hi ≠ []) (h2 : ls e hi = false) : ls e lo = false := by
  obtain ⟨_, _, h⟩ := (mayB_iff lo hi).1 hm
  rcases h with h | h
  · exact absurd h h1
  · cases hx : ls e lo with
    | false => rfl
    | true => rw [ls_trans hx h] at h2; cases h2

theorem Went3.end1 {rs ss : List Rg} {e : List UInt8} (hs : Sorted rs ss) (h : Went3 rs ss ss.length e) : GapSpec rs (some (e, [])) := by
  refine ⟨?_, h.cov, ?_, fun x => absurd rfl x⟩
  · rintro ⟨r, hr, hm, hh⟩
    obtain ⟨i, hi, rfl⟩ := mem_idx (hs.all r hr hm)
    obtain ⟨h1, h2⟩ := h.past i hi hi
    rw [not_has h1 h2] at hh
    cases hh
  · intro r hr hm hl
    obtain ⟨i, hi, rfl⟩ := mem_idx (hs.all r hr hm)
    obtain ⟨h1, h2⟩ := h.past i hi hi
    rw [low_past hm h1 h2] at hl
    cases hl
theorem Went3.end2 {rs ss : List Rg} {k : Nat} {e : List UInt8} (hs : Sorted rs ss) (h : Went3 rs ss k e) (hk : k < ss.length) (hl : ls e (ss[k]).1 = true) : GapSpec rs (some (e, (ss[k]).1)) := by
  have hlow : ∀ i (hi : i < ss.length), k ≤ i → ls e (ss[i]).1 = true ∧ ls (ss[i]).1 (ss[k]).1 = false := by
    intro i hi hki
    rcases Nat.eq_or_lt_of_le hki with rfl | hlt
    · exact ⟨hl, ls_irrefl _⟩
    · have := hs.asc k i hi hlt
      exact ⟨ls_of_not' hl this, this⟩
  refine ⟨?_, h.cov, ?_, fun _ => ⟨hl, ss[k], (hs.sub _ (List.getElem_mem hk)).1, (hs.sub _ (List.getElem_mem hk)).2, rfl⟩⟩
  · rintro ⟨r, hr, hm, hh⟩
    obtain ⟨i, hi, rfl⟩ := mem_idx (hs.all r hr hm)
    by_cases hik : i < k
    · obtain ⟨h1, h2⟩ := h.past i hi hik
      rw [not_has h1 h2] at hh
      cases hh
    · rw [not_has' (hlow i hi (by omega)).1] at hh
      cases hh
  · intro r hr hm hl2
    obtain ⟨i, hi, rfl⟩ := mem_idx (hs.all r hr hm)
    by_cases hik : i < k
    · obtain ⟨h1, h2⟩ := h.past i hi hik
      rw [low_past hm h1 h2] at hl2
      cases hl2
    · refine ⟨?_, (hlow i hi (by omega)).2⟩
      intro hn
      rw [hn, ls_nil] at hl
      cases hl
theorem Went3.end3 {rs ss : List Rg} {k : Nat} {e : List UInt8} (hs : Sorted rs ss) (h : Went3 rs ss k e) (hk : k < ss.length) (hl : ls e (ss[k]).1 = false) (hn : (ss[k]).2 = []) : GapSpec rs none := by
  intro t
  by_cases ht : ls t e = true
  · exact h.cov t ht
  · refine ⟨ss[k], (hs.sub _ (List.getElem_mem hk)).1, (hs.sub _ (List.getElem_mem hk)).2, ?_⟩
    have : ls t (ss[k]).1 = false := not_ls_trans hl (by simpa using ht)
    rw [hn]
    simp [hasB, this]
theorem maxT_ge (a b : List UInt8) : ls (maxT a b) a = false ∧ ls (maxT a b) b = false := by
  unfold maxT
  cases h : ls a b with
  | true => rw [if_pos rfl]; exact ⟨ls_asymm h, ls_irrefl _⟩
  | false => rw [if_neg (by simp)]; exact ⟨ls_irrefl _, h⟩
theorem maxT_or (a b : List UInt8) : maxT a b = a ∨ maxT a b = b := by unfold maxT; split <;> simp
theorem maxT_ne {a b : List UInt8} (h : b ≠ []) : maxT a b ≠ [] := by
  intro e
  have := (maxT_ge a b).2
  rw [e, ls_pos h] at this
  cases this
theorem Went3.next {rs ss : List Rg} {k : Nat} {e : List UInt8} (hs : Sorted rs ss) (h : Went3 rs ss k e) (hk : k < ss.length) (hl : ls e (ss[k]).1 = false) (hn : (ss[k]).2 ≠ []) : Went3 rs ss (k + 1) (maxT e (ss[k]).2) := by
  refine ⟨hk, ?_, ?_, ?_⟩
  · intro t ht
    by_cases hte : ls t e = true
    · exact h.cov t hte
    · refine ⟨ss[k], (hs.sub _ (List.getElem_mem hk)).1, (hs.sub _ (List.getElem_mem hk)).2, ?_⟩
      have h1 : ls t (ss[k]).1 = false := not_ls_trans hl (by simpa using hte)
      have h2 : ls t (ss[k]).2 = true := by
        rcases maxT_or e (ss[k]).2 with x | x
        · rw [x] at ht; exact absurd ht hte
        · rw [x] at ht; exact ht
      simp [hasB, h1, h2]
  · intro i hi hik
    rcases Nat.lt_succ_iff_lt_or_eq.1 hik with hlt | rfl
    · obtain ⟨h1, h2⟩ := h.past i hi hlt
      exact ⟨h1, not_ls_trans h2 (maxT_ge e (ss[k]).2).1⟩
    · exact ⟨hn, (maxT_ge e (ss[i]).2).2⟩
  · rcases maxT_or e (ss[k]).2 with x | x
    · rw [x]; exact h.short
    · rw [x]
      exact ((mayB_iff _ _).1 (hs.sub _ (List.getElem_mem hk)).2).2.1

/-! ### The document's way: ask all, again and again -/
/-- How many ranges that may be end behind the text. -/
def lft (rs : List Rg) (t : List UInt8) : Nat := rs.countP fun r => mayB r.1 r.2 && (r.2 == [] || ls t r.2)
theorem countP_lt {α : Type} {p q : α → Bool} : ∀ {l : List α} {r : α}, r ∈ l → (∀ x, p x = true → q x = true) → p r = false → q r = true → l.countP p < l.countP q
  | x :: l, r, hr, hpq, hp, hq => by
    rcases List.mem_cons.1 hr with rfl | hr
    · rw [List.countP_cons_of_neg (by simpa using hp), List.countP_cons_of_pos hq]
      exact Nat.lt_succ_of_le (List.countP_mono_left fun y _ => hpq y)
    · have ih := countP_lt hr hpq hp hq
      cases hx : p x with
      | true => rw [List.countP_cons_of_pos hx, List.countP_cons_of_pos (hpq x hx)]; omega
      | false =>
        rw [List.countP_cons_of_neg (by simpa using hx)]
        by_cases hy : q x = true
        · rw [List.countP_cons_of_pos hy]; omega
        · rw [List.countP_cons_of_neg hy]; exact ih
theorem lft_lt {rs : List Rg} {r : Rg} {t : List UInt8} (hr : r ∈ rs) (hm : mayB r.1 r.2 = true) (hh : hasB r.1 r.2 t = true) (hn : r.2 ≠ []) : lft rs r.2 < lft rs t := by
  obtain ⟨_, h2⟩ := (hasB_iff _ _ _).1 hh
  have hl : ls t r.2 = true := h2.resolve_left hn
  have e : (r.2 == ([] : List UInt8)) = false := by simpa using hn
  refine countP_lt hr ?_ ?_ ?_
  · intro x hx
    rw [Bool.and_eq_true, Bool.or_eq_true] at hx ⊢
    refine ⟨hx.1, ?_⟩
    rcases hx.2 with h | h
    · exact Or.inl h
    · exact Or.inr (ls_trans hl h)
  · simp [e, ls_irrefl]
  · simp [hm, hl]
/-- All ahead of it is covered, and it has 24 bytes at most. -/
structure Ahd (rs : List Rg) (t : List UInt8) : Prop where
  cov : ∀ u, ls u t = true → cov rs u
  short : t.length ≤ 24
theorem Ahd.start (rs : List Rg) : Ahd rs [] := ⟨fun t h => (by rw [ls_nil] at h; cases h), by simp⟩
theorem Ahd.next {rs : List Rg} {r : Rg} {t : List UInt8} (h : Ahd rs t) (hr : r ∈ rs) (hm : mayB r.1 r.2 = true) (hh : hasB r.1 r.2 t = true) : Ahd rs r.2 := by
  refine ⟨?_, ((mayB_iff _ _).1 hm).2.1⟩
  intro u hu
  by_cases hut : ls u t = true
  · exact h.cov u hut
  · obtain ⟨h1, _⟩ := (hasB_iff _ _ _).1 hh
    refine ⟨r, hr, hm, (hasB_iff _ _ _).2 ⟨not_ls_trans h1 (by simpa using hut), Or.inr hu⟩⟩
theorem Ahd.none {rs : List Rg} {r : Rg} {t : List UInt8} (h : Ahd rs t) (hr : r ∈ rs) (hm : mayB r.1 r.2 = true) (hh : hasB r.1 r.2 t = true) (hn : r.2 = []) : GapSpec rs none := by
  intro u
  by_cases hut : ls u t = true
  · exact h.cov u hut
  · obtain ⟨h1, _⟩ := (hasB_iff _ _ _).1 hh
    exact ⟨r, hr, hm, (hasB_iff _ _ _).2 ⟨not_ls_trans h1 (by simpa using hut), Or.inl hn⟩⟩
/-- Behind so many turns: none has it, or few are left. -/
def Turn (rs : List Rg) (k : Nat) (t : List UInt8) : Prop := ¬ cov rs t ∨ lft rs t + k ≤ rs.length
/-- Within a turn, i of them asked: none of these has it, or fewer are left than when the turn began. -/
def Part (rs : List Rg) (k i : Nat) (t : List UInt8) : Prop := (∀ j (hj : j < rs.length), j < i → mayB (rs[j]).1 (rs[j]).2 = true → hasB (rs[j]).1 (rs[j]).2 t = false) ∧ Turn rs k t ∨ lft rs t + (k + 1) ≤ rs.length
theorem Turn.start (rs : List Rg) : Turn rs 0 [] := Or.inr (List.countP_le_length)
theorem Part.start {rs : List Rg} {k : Nat} {t : List UInt8} (h : Turn rs k t) : Part rs k 0 t := Or.inl ⟨fun _ _ h => by omega, h⟩
theorem Part.stay {rs : List Rg} {k i : Nat} {t : List UInt8} (h : Part rs k i t) (hi : i < rs.length) (hn : (mayB (rs[i]).1 (rs[i]).2 && hasB (rs[i]).1 (rs[i]).2 t) = false) : Part rs k (i + 1) t := by
  rcases h with ⟨h1, h2⟩ | h
  · refine Or.inl ⟨fun j hj hji hm => ?_, h2⟩
    rcases Nat.lt_succ_iff_lt_or_eq.1 hji with hlt | rfl
    · exact h1 j hj hlt hm
    · rw [hm, Bool.true_and] at hn; exact hn
  · exact Or.inr h
theorem Part.go {rs : List Rg} {k i : Nat} {t : List UInt8} (h : Part rs k i t) (hi : i < rs.length) (hm : mayB (rs[i]).1 (rs[i]).2 = true) (hh : hasB (rs[i]).1 (rs[i]).2 t = true) (hn : (rs[i]).2 ≠ []) : Part rs k (i + 1) (rs[i]).2 := by
  have hlt := lft_lt (List.getElem_mem hi) hm hh hn
  rcases h with ⟨_, h2 | h2⟩ | h
  · exact absurd ⟨_, List.getElem_mem hi, hm, hh⟩ h2
  · exact Or.inr (by omega)
  · exact Or.inr (by omega)
theorem Part.last {rs : List Rg} {k : Nat} {t : List UInt8} (h : Part rs k rs.length t) : Turn rs (k + 1) t := by
  rcases h with ⟨h1, _⟩ | h
  · refine Or.inl ?_
    rintro ⟨r, hr, hm, hh⟩
    obtain ⟨i, hi, rfl⟩ := mem_idx hr
    rw [h1 i hi hi hm] at hh
    cases hh
  · exact Or.inr h
theorem Turn.last {rs : List Rg} {t : List UInt8} (h : Turn rs (rs.length + 1) t) : ¬ cov rs t := by
  rcases h with h | h
  · exact h
  · omega
/-- The least Low behind the text, of the first i. -/
structure Low (rs : List Rg) (i : Nat) (a b : List UInt8) : Prop where
  lo : ∀ j (hj : j < rs.length), j < i → mayB (rs[j]).1 (rs[j]).2 = true → ls a (rs[j]).1 = true → b ≠ [] ∧ ls (rs[j]).1 b = false
  one : b ≠ [] → ls a b = true ∧ ∃ r ∈ rs, mayB r.1 r.2 = true ∧ r.1 = b
theorem Low.start (rs : List Rg) (a : List UInt8) : Low rs 0 a [] := ⟨fun _ _ h => by omega, fun h => absurd rfl h⟩
theorem Low.stay {rs : List Rg} {i : Nat} {a b : List UInt8} (h : Low rs i a b) (hi : i < rs.length) (hn : (mayB (rs[i]).1 (rs[i]).2 && ls a (rs[i]).1 && (b == [] || ls (rs[i]).1 b)) = false) : Low rs (i + 1) a b := by
  refine ⟨fun j hj hji hm hl => ?_, h.one⟩
  rcases Nat.lt_succ_iff_lt_or_eq.1 hji with hlt | rfl
  · exact h.lo j hj hlt hm hl
  · rw [hm, hl] at hn
    simpa using hn
theorem Low.go {rs : List Rg} {i : Nat} {a b : List UInt8} (h : Low rs i a b) (hi : i < rs.length) (hm : mayB (rs[i]).1 (rs[i]).2 = true) (hl : ls a (rs[i]).1 = true) (hb : (b == [] || ls (rs[i]).1 b) = true) : Low rs (i + 1) a (rs[i]).1 := by
  have hne : (rs[i]).1 ≠ [] := by intro e; rw [e, ls_nil] at hl; cases hl
  refine ⟨fun j hj hji hm' hl' => ⟨hne, ?_⟩, fun _ => ⟨hl, _, List.getElem_mem hi, hm, rfl⟩⟩
  rcases Nat.lt_succ_iff_lt_or_eq.1 hji with hlt | rfl
  · obtain ⟨h1, h2⟩ := h.lo j hj hlt hm' hl'
    rw [Bool.or_eq_true] at hb
    rcases hb with hb | hb
    · exact absurd (by simpa using hb) h1
    · exact not_ls_trans (ls_asymm hb) h2
  · exact ls_irrefl _
theorem gap_of {rs : List Rg} {a b : List UInt8} (h1 : Ahd rs a) (h2 : ¬ cov rs a) (h3 : Low rs rs.length a b) : GapSpec rs (some (a, b)) := by
  refine ⟨h2, h1.cov, ?_, h3.one⟩
  intro r hr hm hl
  obtain ⟨i, hi, rfl⟩ := mem_idx hr
  exact h3.lo i hi hi hm hl

end Go.Proofs.Ytalkhkndelpdfaa
