/-
  A place found in a list of cells in order.
-/
import Derived.Test.YtbllbcbjjocphabELas
namespace Go.Proofs.Ytbllbcbjjocphab
open Go.RowKit

/-- The first cell of a place. -/
def fnd (row col : List UInt8) : List Cl → Option Cl
  | [] => none
  | c :: l => if c.row = row ∧ c.col = col then some c else fnd row col l
theorem fnd_none {row col : List UInt8} : ∀ {l : List Cl}, (∀ c ∈ l, ¬ (c.row = row ∧ c.col = col)) → fnd row col l = none
  | [], _ => rfl
  | c :: l, h => by
    rw [fnd, if_neg (h c (by simp))]
    exact fnd_none fun d hd => h d (by simp [hd])
theorem fnd_at {row col : List UInt8} : ∀ {a : List Cl} {c : Cl} {b : List Cl}, (∀ d ∈ a, ¬ (d.row = row ∧ d.col = col)) → c.row = row ∧ c.col = col → fnd row col (a ++ c :: b) = some c
  | [], c, b, _, h => by rw [List.nil_append, fnd, if_pos h]
  | d :: a, c, b, h1, h => by
    rw [List.cons_append, fnd, if_neg (h1 d (by simp))]
    exact fnd_at (fun e he => h1 e (by simp [he])) h
/-- What is sought: no cell has its version. -/
abbrev sgt (row col : List UInt8) : Cl := ⟨row, col, 18446744073709551615, false, []⟩
theorem sgt_pl {row col : List UInt8} {c : Cl} (h : okC c = true) (hp : c.row = row ∧ c.col = col) : 0 < ccl c (sgt row col) := by
  have hv := okC_len h
  rw [ccl_plc (plc_iff.2 hp)]
  show 0 < Lib.compareInt (18446744073709551615) c.ver
  unfold Lib.compareInt
  split
  · omega
  · split <;> omega
/-- Nothing ahead of a place is of it. -/
theorem fnd_ahead {L : List Cl} {row col : List UInt8} {a : Nat} (g : Good L) (ha : a = 0 ∨ ∃ h : 8 * a < L.length, ccl L[8 * a] (sgt row col) < 0) : ∀ j (hj : j < L.length), j < 8 * a → ¬ 0 < ccl L[j] (sgt row col) := by
  intro j hj hja
  rcases ha with rfl | ⟨h, hc⟩
  · omega
  · have := List.pairwise_iff_getElem.1 g.asc j (8 * a) hj h hja
    have := ccl_lt_trans this hc
    omega
theorem fnd_no {L : List Cl} {row col : List UInt8} (g : Good L) (h : ∀ j (hj : j < L.length), ¬ 0 < ccl L[j] (sgt row col)) : fnd row col L = none := by
  refine fnd_none fun c hc hp => ?_
  obtain ⟨j, hj, rfl⟩ := List.mem_iff_getElem.1 hc
  exact h j hj (sgt_pl (all_get g.ok hj) hp)
theorem fnd_yes {L : List Cl} {row col : List UInt8} {i : Nat} (g : Good L) (hi : i < L.length) (h : ∀ j (hj : j < L.length), j < i → ¬ 0 < ccl L[j] (sgt row col)) (hp : L[i].row = row ∧ L[i].col = col) : fnd row col L = some L[i] := by
  have e : L = L.take i ++ L[i] :: L.drop (i + 1) := by rw [List.getElem_cons_drop, List.take_append_drop]
  conv => lhs; rw [e]
  refine fnd_at (fun d hd hdp => ?_) hp
  obtain ⟨j, hj, rfl⟩ := List.mem_iff_getElem.1 hd
  rw [List.length_take] at hj
  rw [List.getElem_take] at hdp
  exact h j (by omega) (by omega) (sgt_pl (all_get g.ok (by omega)) hdp)
theorem fnd_past {L : List Cl} {row col : List UInt8} {i : Nat} (g : Good L) (hi : i < L.length) (h : ∀ j (hj : j < L.length), j < i → ¬ 0 < ccl L[j] (sgt row col)) (hc : 0 < ccl L[i] (sgt row col)) (hp : ¬ (L[i].row = row ∧ L[i].col = col)) : fnd row col L = none := by
  refine fnd_none fun c hcm hcp => ?_
  obtain ⟨j, hj, rfl⟩ := List.mem_iff_getElem.1 hcm
  have hj0 := sgt_pl (all_get g.ok hj) hcp
  by_cases h1 : j < i
  · exact h j hj h1 hj0
  · by_cases h2 : j = i
    · subst h2
      exact hp hcp
    · have hlt := List.pairwise_iff_getElem.1 g.asc i j hi hj (by omega)
      have h3 : ccl (sgt row col) L[i] ≤ 0 := by have := ccl_neg.2 hc; omega
      have h4 : plc (sgt row col) L[j] = true := plc_iff.2 ⟨hcp.1.symm, hcp.2.symm⟩
      have h5 := plc_iff.1 (plc_between h3 (Int.le_of_lt hlt) h4)
      exact hp ⟨h5.1.symm, h5.2.symm⟩

end Go.Proofs.Ytbllbcbjjocphab
