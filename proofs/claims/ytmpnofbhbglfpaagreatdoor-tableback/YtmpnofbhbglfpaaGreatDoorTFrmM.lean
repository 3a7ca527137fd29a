/-
  The cells from a place on, as lists.
-/
import Derived.Test.YtmpnofbhbglfpaaGreatDoorGTNil
import Derived.Test.YtmpnofbhbglfpaaGreatDoorGTGetM
namespace Go.Proofs.YtmpnofbhbglfpaaGreatDoor

/-- The cells that From tells. -/
def frmL (Bs : List (List Cl)) (p : List UInt8 × List UInt8) : List Cl := Bs.flatten.filter fun c => naP (plP c) p
theorem frmL_nil (p : List UInt8 × List UInt8) : frmL [] p = [] := rfl
theorem frmL_append (a b : List (List Cl)) (p : List UInt8 × List UInt8) : frmL (a ++ b) p = frmL a p ++ frmL b p := by
  unfold frmL; rw [List.flatten_append, List.filter_append]
theorem frmL_one (B : List Cl) (p : List UInt8 × List UInt8) : frmL [B] p = B.filter fun c => naP (plP c) p := by
  unfold frmL; simp
theorem frmL_all (Bs : List (List Cl)) : frmL Bs ([], []) = Bs.flatten := by
  unfold frmL
  rw [List.filter_eq_self]
  intro c _
  cases h : naP (plP c) ([], []) with
  | true => rfl
  | false =>
    exfalso
    have h1 := naP_iff.1 h
    revert h1
    show ¬ (cc c.row c.col 0 [] [] 0 < 0)
    unfold cc or3 ct
    cases c.row <;> cases c.col <;> simp [ls, Op.bytesLess, Lib.compareInt]
theorem from_math {Bs : List (List Cl)} {p : List UInt8 × List UInt8} {r : Nat} (hG : GB Bs) (hr : r ≤ Bs.length) (h1 : ∀ h : 0 < r ∧ r - 1 < Bs.length, naP (lsP ([], []) (Bs[r - 1]'h.2)) p = false) : frmL (Bs.drop r) p = frmL Bs p := by
  by_cases h0 : r = 0
  · subst h0; rfl
  have hasc := hG.asc
  have e : Bs = Bs.take r ++ Bs.drop r := (List.take_append_drop r Bs).symm
  have hfl : Bs.flatten = (Bs.take r).flatten ++ (Bs.drop r).flatten := by conv => lhs; rw [e, List.flatten_append]
  rw [hfl] at hasc
  have hhead : frmL (Bs.take r) p = [] := by
    unfold frmL
    rw [List.filter_eq_nil_iff]
    intro c hc
    have hrl : r - 1 < Bs.length := by omega
    have hlt := naP_iff.1 (h1 ⟨by omega, hrl⟩)
    have hne := (hG.good Bs[r - 1] (List.getElem_mem hrl)).2
    rw [lsP_last _ hne] at hlt
    have ht : Bs.take r = Bs.take (r - 1) ++ [Bs[r - 1]] := by
      have := List.take_succ_eq_append_getElem hrl
      rw [show r - 1 + 1 = r by omega] at this
      exact this
    have hA : Asc (Bs.take r).flatten := (List.pairwise_append.1 hasc).1
    rw [ht, List.flatten_append, List.flatten_singleton] at hc hA
    have hle : ccl c (Bs[r - 1].getLast hne) ≤ 0 := by
      have hn2 : (Bs.take (r - 1)).flatten ++ Bs[r - 1] ≠ [] := by simp [hne]
      have h5 := asc_le_last hA hn2 hc
      rw [List.getLast_append_of_ne_nil hn2 hne] at h5
      exact h5
    have h6 := ccl_le_lt (pz_le hle) hlt
    have h7 : naP (plP c) p = false := naP_iff.2 h6
    simp [h7]
  have : frmL Bs p = frmL (Bs.take r) p ++ frmL (Bs.drop r) p := by rw [← frmL_append, List.take_append_drop]
  rw [this, hhead, List.nil_append]

end Go.Proofs.YtmpnofbhbglfpaaGreatDoor
