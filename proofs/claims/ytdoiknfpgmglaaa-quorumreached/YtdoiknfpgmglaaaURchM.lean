/-
  The law QuorumReached: who has reached what is committed, as lists.
-/
import Derived.Test.YtdoiknfpgmglaaaUMem2
namespace Go.Proofs.Ytdoiknfpgmglaaa
open Go.RowKit Go.BigFrame

/-- The members whose match is told by p, the first i of them. -/
def sel (A : List Int) (L : List Nat) (p : Nat → Bool) : Nat → List Int
  | 0 => []
  | i + 1 => sel A L p i ++ (if p (L.getD i 0) = true then [A.getD i 0] else [])
theorem sel_yes {A : List Int} {L : List Nat} {p : Nat → Bool} {i : Nat} (hi : i < A.length) (hl : i < L.length) (h : p L[i] = true) : sel A L p (i + 1) = sel A L p i ++ [A[i]] := by
  have e1 : A.getD i 0 = A[i] := by simp [hi]
  have e2 : L.getD i 0 = L[i] := by simp [hl]
  rw [sel, e1, e2, if_pos h]
theorem sel_no {A : List Int} {L : List Nat} {p : Nat → Bool} {i : Nat} (hl : i < L.length) (h : p L[i] = false) : sel A L p (i + 1) = sel A L p i := by
  have e2 : L.getD i 0 = L[i] := by simp [hl]
  rw [sel, e2, h]
  simp
theorem sel_len (A : List Int) (L : List Nat) (p : Nat → Bool) (i : Nat) : (sel A L p i).length ≤ i := by
  induction i with
  | zero => simp [sel]
  | succ i ih =>
    unfold sel
    rw [List.length_append]
    split <;> simp <;> omega
theorem sel_mem {A : List Int} {L : List Nat} {p : Nat → Bool} (hA : A.length = L.length) (hnd : A.Pairwise (· < ·)) : ∀ i, i ≤ A.length → ∀ j (hj : j < A.length) (hl : j < L.length), A[j] ∈ sel A L p i ↔ j < i ∧ p L[j] = true := by
  have hne : ∀ j k (hj : j < A.length) (hk : k < A.length), A[j] = A[k] → j = k := by
    intro j k hj hk e
    have h1 := List.pairwise_iff_getElem.1 hnd
    rcases Nat.lt_trichotomy j k with h | h | h
    · have := h1 j k hj hk h
      omega
    · exact h
    · have := h1 k j hk hj h
      omega
  intro i
  induction i with
  | zero => intro _ j hj hl; simp [sel]
  | succ i ih =>
    intro hi j hj hl
    have ihj := ih (by omega) j hj hl
    have hiA : i < A.length := by omega
    have hiL : i < L.length := by omega
    cases hp : p L[i] with
    | true =>
      rw [sel_yes hiA hiL hp, List.mem_append, ihj, List.mem_singleton]
      constructor
      · rintro (h | h)
        · exact ⟨by omega, h.2⟩
        · have e := hne j i hj hiA h
          subst e
          exact ⟨by omega, hp⟩
      · rintro ⟨h1, h2⟩
        by_cases e : j = i
        · subst e; exact .inr rfl
        · exact .inl ⟨by omega, h2⟩
    | false =>
      rw [sel_no hiL hp, ihj]
      constructor
      · rintro ⟨h1, h2⟩
        exact ⟨by omega, h2⟩
      · rintro ⟨h1, h2⟩
        refine ⟨?_, h2⟩
        have : j ≠ i := by
          rintro rfl
          rw [hp] at h2
          simp at h2
        omega
/-- How many of the members are in it: as many as their matches are told. -/
theorem filter_zip (A : List Int) (L : List Nat) (q : Int → Bool) (p : Nat → Bool) (hA : A.length = L.length) (h : ∀ j (hj : j < A.length) (hl : j < L.length), q A[j] = p L[j]) : (A.filter q).length = L.countP p := by
  induction A generalizing L with
  | nil =>
    have : L = [] := List.eq_nil_of_length_eq_zero hA.symm
    subst this
    rfl
  | cons a A ih =>
    cases L with
    | nil => simp at hA
    | cons x L =>
      have h0 := h 0 (by simp) (by simp)
      simp only [List.getElem_cons_zero] at h0
      have ih2 := ih L (by simpa using hA) (fun j hj hl => by
        have := h (j + 1) (by simp; omega) (by simp; omega)
        simpa using this)
      rw [List.filter_cons, List.countP_cons, h0]
      cases p x <;> simp [ih2]
theorem sel_cnt {A : List Int} {L : List Nat} {p : Nat → Bool} (hA : A.length = L.length) (hnd : A.Pairwise (· < ·)) : cntY A (sel A L p A.length) = L.countP p := by
  unfold cntY
  refine filter_zip A L _ p hA fun j hj hl => ?_
  have h1 := sel_mem (p := p) hA hnd A.length (Nat.le_refl _) j hj hl
  cases hp : p L[j] with
  | true => exact decide_eq_true (h1.2 ⟨hj, hp⟩)
  | false =>
    refine decide_eq_false fun e => ?_
    have := (h1.1 e).2
    rw [hp] at this
    simp at this
theorem lst_rise : ∀ m < 32, (lst m).Pairwise (· < ·) := by decide +kernel
/-- What is committed: a list of those that reached it wins, one of those above it does not. -/
theorem reached_wins {m : Nat} {L : List Nat} {c : Nat} (hm : m < 32) (h0 : 0 < m) (hA : (lst m).length = L.length) (hc : IsCom (most (lst m)) L c) : win (lst m) (sel (lst m) L (fun x => decide (c ≤ x)) (lst m).length) = true ∧ win (lst m) (sel (lst m) L (fun x => decide (c < x)) (lst m).length) = false := by
  unfold win
  rw [chk_lst m hm h0, sel_cnt hA (lst_rise m hm), sel_cnt hA (lst_rise m hm)]
  have h1 := hc.1
  have h2 := hc.2
  constructor
  · rw [decide_eq_true h1]
    rfl
  · rw [decide_eq_false (by omega)]
    rfl
/-- A match that rises lets nothing fall. -/
theorem com_rise {n c d k v : Nat} {L : List Nat} (hk : k < L.length) (hv : L[k] ≤ v) (h : IsCom n L c) (h2 : IsCom n (L.set k v) d) : c ≤ d := by
  rcases Nat.lt_or_ge d c with e | e
  · exfalso
    have h3 : (L.set k v).countP (fun x => decide (d < x)) < n := h2.2
    have h4 := h.1
    have h5 : L.countP (fun x => decide (c ≤ x)) ≤ (L.set k v).countP (fun x => decide (d < x)) := by
      clear h h2 h3 h4
      induction L generalizing k with
      | nil => simp at hk
      | cons a L ih =>
        cases k with
        | zero =>
          simp only [List.set_cons_zero, List.countP_cons, List.getElem_cons_zero] at hv ⊢
          have h6 : L.countP (fun x => decide (c ≤ x)) ≤ L.countP (fun x => decide (d < x)) := List.countP_mono_left (fun x _ hx => by simp at hx ⊢; omega)
          by_cases ha : c ≤ a
          · have : d < v := by omega
            simp [ha, this, h6]
          · simp [ha]
            omega
        | succ k =>
          simp only [List.set_cons_succ, List.countP_cons, List.getElem_cons_succ] at hv ⊢
          have h6 := ih (by simpa using hk) hv
          by_cases ha : c ≤ a
          · have : d < a := by omega
            simp [ha, this, h6]
          · simp [ha]
            omega
    omega
  · exact e

end Go.Proofs.Ytdoiknfpgmglaaa
