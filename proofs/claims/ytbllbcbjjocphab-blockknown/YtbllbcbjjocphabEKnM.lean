/-
  The chapter's examples of blocks, as lists.
-/
import Derived.Test.YtbllbcbjjocphabEWks
import Derived.Test.YtbllbcbjjocphabMade
namespace Go.Proofs.Ytbllbcbjjocphab
open Go.RowKit

abbrev ka : Cl := ⟨[97], [120], 1, false, []⟩
abbrev kb : Cl := ⟨[98], [120], 1, false, []⟩
abbrev kab : Cl := ⟨[97, 98], [120], 1, false, [118]⟩
abbrev kw (x : List UInt8) : Cl := ⟨[97], [120], 1, false, x⟩
abbrev km (i : Nat) : Cl := ⟨[114, 111, 119, i.toUInt8], [120], 1, false, []⟩
def manyL (n : Nat) : List Cl := (List.range n).map km
theorem manyL_snoc (n : Nat) : manyL (n + 1) = manyL n ++ [km n] := by unfold manyL; rw [List.range_succ, List.map_append]; rfl
theorem manyL_len (n : Nat) : (manyL n).length = n := by simp [manyL]
theorem kn0 : bldB [] = [0, 0] ∧ bldE [] = 0 := by decide +kernel
theorem good0 : Good [] ∧ blkB [] = [0, 0] := ⟨⟨rfl, List.Pairwise.nil, by decide +kernel⟩, by decide +kernel⟩
theorem kn1 : bldB [kb, ka] = [] ∧ bldE [kb, ka] = 2 := by decide +kernel
theorem kn2 : bldB [ka, ka] = [] ∧ bldE [ka, ka] = 2 := by decide +kernel
theorem kn3 : ∀ L, Good L → blkB L ≠ [] := fun L g h => by
  have := g.parts.2.2.2.2
  rw [h] at this
  simp at this
theorem kn4 : ∀ L, Good L → blkB L ≠ [0, 1] := fun L g h => by
  have := g.parts.2.2.2.1
  rw [h] at this
  exact absurd this (by decide)
theorem kn5 : bldB [kab] = [0, 2, 97, 98, 1, 120, 1, 0, 1, 118, 0, 0, 0, 1] ∧ bldE [kab] = 0 := by decide +kernel
theorem kw_ok {x : List UInt8} (h : x.length ≤ 65536) : okL [kw x] = true := by
  rw [okL_iff]
  refine ⟨?_, by simp [Asc]⟩
  simp [okC, mayC, storedB, h]
theorem kw_len {x : List UInt8} (h1 : 16384 ≤ x.length) (h2 : x.length < 2097152) : (blkB [kw x]).length = x.length + 14 := by
  have e1 : (Lib.uvarint x.length).length = 3 := by
    rw [Lib.uvarint_big (by omega), Lib.uvarint_big (by omega), Lib.uvarint_small (by omega)]
    rfl
  rw [blkB_len]
  unfold body bdy bdy layB txt
  simp only [List.length_append, List.length_cons, List.length_nil, ite_self, cmn_nil, List.drop_zero]
  have e3 : (Lib.uvarint 0).length = 1 := by decide +kernel
  have e4 : (Lib.uvarint (0 + 1)).length = 1 := by decide +kernel
  have e5 : (Lib.uvarint (Int.toNat 1)).length = 1 := by decide +kernel
  rw [e1, e3, e4, e5]
  simp
  omega
theorem kn6 : bldE [kw (zeros 32754)] = 0 ∧ (bldB [kw (zeros 32754)]).length = 32768 := by
  have hz := zeros_length 32754
  have hl := kw_len (x := zeros 32754) (by omega) (by omega)
  have := bld_ok (kw_ok (x := zeros 32754) (by omega)) (by omega)
  exact ⟨this.2, by rw [this.1]; omega⟩
theorem kn7 : bldE [kw (zeros 32754 ++ [120])] = 3 ∧ bldB [kw (zeros 32754 ++ [120])] = [] := by
  have hz : (zeros 32754 ++ [120]).length = 32755 := by rw [List.length_append, zeros_length]; rfl
  have hl := kw_len (x := zeros 32754 ++ [120]) (by omega) (by omega)
  have := bld_long (kw_ok (x := zeros 32754 ++ [120]) (by omega)) (by omega)
  exact ⟨this.2, this.1⟩
theorem kn8 : okL (manyL 20) = true := by decide +kernel
theorem kn9 : (blkB (manyL 20)).length = 177 ∧ (blkB (manyL 20))[176]? = some 3 := by decide +kernel
theorem goodM : Good (manyL 20) := ⟨(okL_iff.1 kn8).1, (okL_iff.1 kn8).2, by rw [kn9.1]; decide⟩
theorem kn10 : bldB (manyL 20) = blkB (manyL 20) ∧ bldE (manyL 20) = 0 := bld_ok kn8 goodM.len
theorem kn11 : fnd [114, 111, 119, 9] [120] (manyL 20) = some (km 9) := by
  have h : (manyL 20) = manyL 9 ++ km 9 :: (manyL 20).drop 10 := rfl
  rw [h]
  refine fnd_at (fun d hd hp => ?_) ⟨rfl, rfl⟩
  unfold manyL at hd
  obtain ⟨i, hi, rfl⟩ := List.mem_map.1 hd
  rw [List.mem_range] at hi
  have := hp.1
  simp only [List.cons.injEq, and_true, true_and] at this
  have h2 := congrArg UInt8.toNat this
  simp [Nat.toUInt8] at h2
  omega

end Go.Proofs.Ytbllbcbjjocphab
