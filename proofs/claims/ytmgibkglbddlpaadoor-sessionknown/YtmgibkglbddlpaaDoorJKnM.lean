/-
  SessionKnown: what its calls answer, as lists.
-/
import Derived.Test.YtmgibkglbddlpaaDoorJWks
import Derived.Test.YtmgibkglbddlpaaDoorMade
namespace Go.Proofs.YtmgibkglbddlpaaDoor
open Go.RowKit Go.BigFrame

theorem uv_len_big {y : Nat} (h : 128 ≤ y) : (Lib.uvarint y).length = (Lib.uvarint (y / 128)).length + 1 := by
  rw [Lib.uvarint_big h]
  simp
theorem uv_len_small {y : Nat} (h : y < 128) : (Lib.uvarint y).length = 1 := by
  rw [uvarint_small h]
  rfl
theorem uv40 : (Lib.uvarint 1099511627776).length = 6 := by
  rw [uv_len_big (by decide), uv_len_big (by decide), uv_len_big (by decide), uv_len_big (by decide), uv_len_big (by decide), uv_len_small (by decide)]
theorem uv16a : (Lib.uvarint 65523).length = 3 := by
  rw [uv_len_big (by decide), uv_len_big (by decide), uv_len_small (by decide)]
theorem uv16b : (Lib.uvarint 65524).length = 3 := by
  rw [uv_len_big (by decide), uv_len_big (by decide), uv_len_small (by decide)]
theorem uv16c : (Lib.uvarint 65536).length = 3 := by
  rw [uv_len_big (by decide), uv_len_big (by decide), uv_len_small (by decide)]
theorem uv41 : Lib.uvarint 1099511627777 = [129, 128, 128, 128, 128, 32] := by
  rw [Lib.uvarint_big (by decide), Lib.uvarint_big (by decide), Lib.uvarint_big (by decide), Lib.uvarint_big (by decide), Lib.uvarint_big (by decide), uvarint_small (by decide)]
  rfl
theorem okN_nil : okN [] = false := by
  unfold okN
  simp [numOf, numFrom]
theorem decO_nil : decO [] = false := by
  simp [decO, a5, a4, a3, a2, a1, nA, tA, okN_nil]

/-- A look at a cell that is none. -/
theorem lk_none {c : List UInt8} {q : Nat} (hq : 1 ≤ q ∧ q ≤ 1099511627776) (h : rdE c = 4) : lkR c q = rz0 ∧ lkA c q = false ∧ lkE c q = 4 := by
  have hk : lkK c q = 1 := by unfold lkK; rw [if_pos hq, if_neg (by rw [h]; decide)]
  unfold lkR lkA lkE
  rw [hk]
  exact ⟨rfl, rfl, rfl⟩
theorem lk_noseq {c : List UInt8} {q : Nat} (hq : ¬ (1 ≤ q ∧ q ≤ 1099511627776)) : lkR c q = rz0 ∧ lkA c q = false ∧ lkE c q = 2 := by
  have hk : lkK c q = 0 := by unfold lkK; rw [if_neg hq]
  unfold lkR lkA lkE
  rw [hk]
  exact ⟨rfl, rfl, rfl⟩
theorem lk_new {c : List UInt8} {q : Nat} (hq : 1 ≤ q ∧ q ≤ 1099511627776) (h : rdE c = 0) (hn : rdN c < q) : lkR c q = rz0 ∧ lkA c q = false ∧ lkE c q = 0 := by
  have hk : lkK c q = 4 := by unfold lkK; rw [if_pos hq, if_pos h, if_neg (by omega), if_neg (by omega)]
  unfold lkR lkA lkE
  rw [hk]
  exact ⟨rfl, rfl, rfl⟩
theorem lk_stale {c : List UInt8} {q : Nat} (hq : 1 ≤ q ∧ q ≤ 1099511627776) (h : rdE c = 0) (hn : q < rdN c) : lkR c q = rz0 ∧ lkA c q = false ∧ lkE c q = 12 := by
  have hk : lkK c q = 3 := by unfold lkK; rw [if_pos hq, if_pos h, if_neg (by omega), if_pos hn]
  unfold lkR lkA lkE
  rw [hk]
  exact ⟨rfl, rfl, rfl⟩
theorem rd5 : rdE [5, 0, 0, 0, 0, 0] = 0 ∧ rdN [5, 0, 0, 0, 0, 0] = 5 := by
  obtain ⟨r1, r2, r3, r4, r5⟩ := rd_ss (q := 5) (r := rz0) (by decide) (by decide) (by decide)
  rw [ss5] at r2 r4
  exact ⟨r4, r2⟩
theorem rd_bad {c : List UInt8} (h : c ≠ []) (h1 : rdOk c = false) : rdE c = 4 := by
  unfold rdE
  rw [if_neg h, h1]
  rfl
theorem rd0 : rdE [0, 0, 0, 0, 0, 0] = 4 := by
  obtain ⟨a1, a2, a3⟩ := okN_num (x := 0) (r := [0, 0, 0, 0, 0]) (by decide)
  rw [show Lib.uvarint 0 ++ [0, 0, 0, 0, 0] = [0, 0, 0, 0, 0, 0] from by rw [uvarint_small (by decide)]; rfl] at a2
  refine rd_bad (by simp) ?_
  unfold rdOk
  rw [a2]
  simp
theorem rd41 : rdE [129, 128, 128, 128, 128, 32, 0, 0, 0, 0, 0] = 4 := by
  obtain ⟨a1, a2, a3⟩ := okN_num (x := 1099511627777) (r := [0, 0, 0, 0, 0]) (by decide)
  rw [show Lib.uvarint 1099511627777 ++ [0, 0, 0, 0, 0] = [129, 128, 128, 128, 128, 32, 0, 0, 0, 0, 0] from by rw [uv41]; rfl] at a2
  refine rd_bad (by simp) ?_
  unfold rdOk
  rw [a2]
  simp
theorem rdx : rdE [120] = 4 := by
  obtain ⟨a1, a2, a3⟩ := okN_num (x := 120) (r := []) (by decide)
  rw [show Lib.uvarint 120 ++ [] = [120] from by rw [uvarint_small (by decide)]; rfl] at a3
  refine rd_bad (by simp) ?_
  unfold rdOk
  rw [a3, decO_nil, Bool.and_false]

/-- Put of a value of so many bytes 0. -/
abbrev rzZ (n : Nat) : Rz := ⟨0, false, [], zeros n, 0⟩
theorem ss_len (q n : Nat) : (ssL q (rzZ n)).length = (Lib.uvarint q).length + (Lib.uvarint n).length + n + 4 := by
  unfold ssL layR txt bol
  rw [uvarint_small (show (rzZ n).err.toNat < 128 by simp), uvarint_small (show (rzZ n).ver < 128 by simp), uvarint_small (show (rzZ n).row.length < 128 by simp)]
  simp [zeros_length]
  omega
theorem okR_rzZ {n : Nat} (h : n ≤ 65536) : okR (rzZ n) = true := okR_iff.2 ⟨by simp, by simp, by simp, by rw [zeros_length]; exact h, by simp⟩
theorem pt_long {q n : Nat} (hq : 1 ≤ q ∧ q ≤ 1099511627776) (h : n ≤ 65536) (hl : 65536 < (ssL q (rzZ n)).length) : ptL q (rzZ n) = [] ∧ ptE q (rzZ n) = 3 := by
  have hk : ptK q (rzZ n) = 1 := by unfold ptK; rw [if_pos hq, if_pos (okR_rzZ h), if_neg (by omega)]
  unfold ptL ptE
  rw [hk]
  exact ⟨rfl, rfl⟩
theorem pt_fits {q n : Nat} (hq : 1 ≤ q ∧ q ≤ 1099511627776) (h : n ≤ 65536) (hl : (ssL q (rzZ n)).length ≤ 65536) : ptE q (rzZ n) = 0 := by
  have hk : ptK q (rzZ n) = 2 := by unfold ptK; rw [if_pos hq, if_pos (okR_rzZ h), if_pos hl]
  unfold ptE
  rw [hk]
  rfl
theorem p65536 : ptL 1 (rzZ 65536) = [] ∧ ptE 1 (rzZ 65536) = 3 := pt_long (by decide) (Nat.le_refl _) (by rw [ss_len, uv16c]; omega)
theorem p65523 : ptE 1099511627776 (rzZ 65523) = 0 := pt_fits (by decide) (by decide) (by rw [ss_len, uv16a, uv40]; omega)
theorem p65524 : ptL 1099511627776 (rzZ 65524) = [] ∧ ptE 1099511627776 (rzZ 65524) = 3 := pt_long (by decide) (by decide) (by rw [ss_len, uv16b, uv40]; omega)
theorem p0 : ptL 0 rz0 = [] ∧ ptE 0 rz0 = 2 := by
  have hk : ptK 0 rz0 = 0 := by unfold ptK; rw [if_neg (by decide)]
  unfold ptL ptE
  rw [hk]
  exact ⟨rfl, rfl⟩
theorem p16 : ptL 1 ⟨16, false, [], [], 0⟩ = [] ∧ ptE 1 ⟨16, false, [], [], 0⟩ = 2 := by
  have hk : ptK 1 ⟨16, false, [], [], 0⟩ = 0 := by unfold ptK; rw [if_pos (by decide), if_neg (by decide)]
  unfold ptL ptE
  rw [hk]
  exact ⟨rfl, rfl⟩

end Go.Proofs.YtmgibkglbddlpaaDoor
