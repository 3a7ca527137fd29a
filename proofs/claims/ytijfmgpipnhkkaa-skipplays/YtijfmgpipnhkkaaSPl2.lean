/-
  SkipPlays: what the document's Get, From and Counts say of a list's towers.
-/
import Derived.Test.YtijfmgpipnhkkaaSPl1
namespace Go.Proofs.Ytijfmgpipnhkkaa
open Go.RowKit Go.BigFrame Go.Sort
attribute [local go_sem] size_bstr toList_bstr ls_def

/-- Whether a cell is at a place or behind it. -/
theorem from_iff {c : Cl} (h : mayCl c = true) (row col : List UInt8) : fromB row col c = decide (0 ≤ ccl c (plC row col)) := by
  have hv : c.ver ≤ 1099511627776 := by
    unfold mayCl mayC storedB at h
    simp at h
    omega
  have hci : 0 ≤ Lib.compareInt 1099511627776 c.ver := by
    unfold Lib.compareInt
    rw [if_neg (by omega)]
    split <;> omega
  have e : ccl c (plC row col) = or3 (ct c.row row) (ct c.col col) (Lib.compareInt 1099511627776 c.ver) := rfl
  rw [e]
  unfold fromB or3
  generalize Lib.compareInt 1099511627776 c.ver = k at *
  rcases ls_tri row c.row with h1 | h1 | h1
  · have h2 := ls_asymm h1
    have : ct c.row row = 1 := by unfold ct; rw [h2, h1]; simp
    rw [this, h1]
    simp
  · rw [← h1]
    have : ct row row = 0 := by unfold ct; rw [ls_irrefl]; simp
    rw [this, ls_irrefl]
    cases h2 : ls c.col col with
    | true =>
      have : ct c.col col = -1 := by unfold ct; rw [h2]; simp
      rw [this]; simp
    | false =>
      cases h3 : ls col c.col with
      | true =>
        have : ct c.col col = 1 := by unfold ct; rw [h2, h3]; simp
        rw [this]; simp
      | false =>
        have : ct c.col col = 0 := by unfold ct; rw [h2, h3]; simp
        rw [this]; simp [hci]
  · have h2 := ls_asymm h1
    have h3 : (c.row == row) = false := by simpa using ls_ne h1
    have : ct c.row row = -1 := by unfold ct; rw [h1]; simp
    rw [this, h2, h3]
    simp
theorem drop_parts {α : Type} {p : α → Bool} : ∀ {A B : List α}, (∀ x ∈ A, p x = true) → (∀ x ∈ B, p x = false) → (A ++ B).dropWhile p = B
  | [], [], _, _ => rfl
  | [], b :: B, _, h => by rw [List.nil_append, List.dropWhile_cons_of_neg (by simp [h b (by simp)])]
  | a :: A, B, h, h2 => by rw [List.cons_append, List.dropWhile_cons_of_pos (h a (by simp)), drop_parts (fun x hx => h x (by simp [hx])) h2]
/-- What From tells of. -/
theorem fromR_tw {A B : List Tw} {row col : List UInt8} (hm : ∀ t ∈ A ++ B, mayCl t.c = true) (hA : ∀ t ∈ A, ccl t.c (plC row col) < 0) (hB : ∀ t ∈ B, 0 ≤ ccl t.c (plC row col)) :
    fromR ((A ++ B).map fun t => t.c) row col = B.map fun t => t.c := by
  unfold fromR
  rw [List.map_append]
  refine drop_parts ?_ ?_
  · intro x hx
    obtain ⟨t, ht, rfl⟩ := List.mem_map.1 hx
    have := hA t ht
    rw [from_iff (hm t (by simp [ht]))]
    simp; omega
  · intro x hx
    obtain ⟨t, ht, rfl⟩ := List.mem_map.1 hx
    have := hB t ht
    rw [from_iff (hm t (by simp [ht]))]
    simp; omega
theorem find_skip {α : Type} {p : α → Bool} : ∀ {A B : List α}, (∀ x ∈ A, p x = false) → (A ++ B).find? p = B.find? p
  | [], _, _ => rfl
  | a :: A, B, h => by rw [List.cons_append, List.find?_cons_of_neg (by simp [h a (by simp)]), find_skip fun x hx => h x (by simp [hx])]
theorem at_place {c : Cl} (h : mayCl c = true) {row col : List UInt8} (hr : c.row = row) (hc : c.col = col) : 0 ≤ ccl c (plC row col) := by
  have := from_iff h row col
  have e : fromB row col c = true := by unfold fromB; rw [hr, hc, ls_irrefl, ls_irrefl]; simp
  rw [e] at this
  simpa using this.symm
/-- The program's Get answers what the document's does. -/
theorem Get_both (l hd : Nat) (T : List Tw) (v : Value) (xs : List Value) (row col : List UInt8) (w : World) (h : Ls w l hd T v xs) :
    Calls Try.prog 7 #[.pointer (some ⟨l, 0, none⟩), .string (bstr row), .string (bstr col)] w fun e w' => e = .returned (getV (getR (T.map fun t => t.c) row col)) ∧ Below w.heap.size w w' := by
  obtain ⟨A, B, rfl, hA, hB⟩ := tparts (c := plC row col) h.asc
  have hsk : getR ((A ++ B).map fun t => t.c) row col = getR (B.map fun t => t.c) row col := by
    unfold getR
    rw [List.map_append]
    refine find_skip fun x hx => ?_
    obtain ⟨t, ht, rfl⟩ := List.mem_map.1 hx
    have h1 := hA t ht
    cases hk : (t.c.row == row) && (t.c.col == col) with
    | false => rfl
    | true =>
      simp only [Bool.and_eq_true, beq_iff_eq] at hk
      have := at_place (h.may t (by simp [ht])) hk.1 hk.2
      omega
  rw [hsk]
  cases B with
  | nil =>
    have h' := h
    exact (Get_no l hd A [] v xs row col w h' hA hB (fun u B' e => by cases e)).mono fun e w' h => h
  | cons u B =>
    by_cases hu : u.c.row = row ∧ u.c.col = col
    · refine (Get_yes l hd A B u v xs row col w h hA hB hu.1 hu.2).mono ?_
      rintro e w' ⟨rfl, hb⟩
      refine ⟨?_, hb⟩
      have : getR ((u :: B).map fun t => t.c) row col = some u.c := by
        unfold getR
        rw [List.map_cons, List.find?_cons_of_pos (by simp [hu.1, hu.2])]
      rw [this]
      rfl
    · have hnone : getR ((u :: B).map fun t => t.c) row col = none := by
        unfold getR
        rw [List.find?_eq_none]
        intro x hx
        obtain ⟨t, ht, rfl⟩ := List.mem_map.1 hx
        intro hk
        simp only [Bool.and_eq_true, beq_iff_eq] at hk
        rcases List.mem_cons.1 ht with rfl | ht'
        · exact hu hk
        · have hasc := h.asc
          rw [List.map_append, List.map_cons] at hasc
          have h2 := List.pairwise_append.1 hasc
          have h3 : ccl u.c t.c < 0 := (List.pairwise_cons.1 h2.2.1).1 _ (List.mem_map.2 ⟨t, ht', rfl⟩)
          have h4 : ccl (plC row col) u.c ≤ 0 := by
            have := hB u (by simp)
            have k := ccl_neg (a := u.c) (b := plC row col)
            omega
          have h5 := plc_between h4 (by omega : ccl u.c t.c ≤ 0) (plc_iff.2 ⟨hk.1.symm, hk.2.symm⟩)
          obtain ⟨h6, h7⟩ := plc_iff.1 h5
          exact hu ⟨h6.symm, h7.symm⟩
      rw [hnone]
      refine (Get_no l hd A (u :: B) v xs row col w h hA hB ?_).mono fun e w' h => h
      intro u' B' e
      cases e
      exact hu
theorem hcnt_tw (T : List Tw) (n : Nat) : hcnt (chT T) n = cnt n T := by
  unfold hcnt chT cnt
  rw [List.countP_map]
  rfl
theorem chT_cells (T : List Tw) : ((chT T).map fun x => x.1) = T.map fun t => t.c := by
  unfold chT
  rw [List.map_map]
  rfl
theorem chT_length (T : List Tw) : (chT T).length = T.length := by simp [chT]

end Go.Proofs.Ytijfmgpipnhkkaa
