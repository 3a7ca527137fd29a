/-
  The walk of the law KeysGap where there are no ranges.
-/
import Derived.Test.YtphoimimifepcaaGapWalk
import Derived.Laws.AppendOwnNone
namespace Go.Proofs.Ytphoimimifepcaa
open Go.RowKit Go.BigFrame
attribute [local go_sem] size_bstr toList_bstr ls_def
attribute [local go_sem high] rng_eql rng_neq rng_guard

set_option maxHeartbeats 4000000 in
set_option maxRecDepth 100000 in
theorem gap_none (w : World) :
    Calls Try.prog 4 #[.slice none 0 0] w fun e w' => e = .returned (.bool true) ∧ Below w.heap.size w w' := by
  obtain ⟨i0, hi, hz0, hz1, hz2⟩ := info_parts Try.infoRng
  have hown0 : w.ownsRow w.heap.size 23 2 (.slice none 0 0) 0 [] := ⟨rfl, .inl ⟨rfl, rfl⟩⟩
  have hb1 : Below w.heap.size w w := Below.refl _ _
  go_enter Try.func4, Try.ntmps4
  go_wp2_with (at_builtin; refine wpList_append_own_none rfl _ _ 33 rfl w.heap.size 23 i0 2 Try.underlying33 hi _ _ _ rfl hown0 rfl ?_)
  clear hown0
  go_wp2_with fail
  refine (Gap_any none 0 0 0 [] _ (fun h => absurd h (by simp)) (by simp)).mono ?_
  rintro e w2 ⟨o, rfl, ho, hb2⟩
  obtain ⟨x, y, is, hv⟩ := gapV_ex o
  rw [hv]
  have hB := below2 hb1 hb2
  have HO : Hid _ := ho
  have HV : Hid _ := hv
  clear ho hv hb2 hb1
  have hba : Below w2.heap.size w2 (w2.alloc (.cells #[.string (bstr x), .string (bstr y)] 23)) := (Below.refl _ _).alloc (Nat.le_refl _) _
  go_wp2_with fail
  refine (RGap_any none 0 0 0 [] _ (fun h => absurd h (by simp)) (by simp)).mono ?_
  rintro e w3 ⟨o2, rfl, ho2, hb3⟩
  have hoo := gapSpec_one ho2 HO.out
  rw [hoo, HV.out]
  have ra := (RngAt.new w2 23 x y).step hb3
  replace hB := below2 hB (below2 hba hb3)
  clear ho2 hoo HO HV hb3 hba
  have hba : Below w3.heap.size w3 (w3.alloc (.cells #[.string (bstr x), .string (bstr y)] 23)) := (Below.refl _ _).alloc (Nat.le_refl _) _
  replace ra := ra.step hba
  have rb := RngAt.new w3 23 x y
  replace hB := below2 hB hba
  clear hba
  go_wp2
  generalize w3.alloc (.cells #[.string (bstr x), .string (bstr y)] 23) = W at *
  refine wp_loop_rounds 1 ?_
  rw [rounds_succ]
  obtain ⟨a0, a1⟩ := ra
  obtain ⟨b0, b1⟩ := rb
  go_wp2_with fail
  refine (works_any _).mono ?_
  rintro e w5 ⟨rfl, hb5⟩
  replace hB := below2 hB hb5
  go_wp2
  go_ret
  exact ⟨rfl, hB⟩

set_option maxHeartbeats 4000000 in
set_option maxRecDepth 100000 in
theorem gap_some (a : Addr) (cap : Nat) (w : World) :
    Calls Try.prog 4 #[.slice (some a) 0 cap] w fun e w' => e = .returned (.bool true) ∧ Below w.heap.size w w' := by
  obtain ⟨i0, hi, hz0, hz1, hz2⟩ := info_parts Try.infoRng
  have hown0 : w.ownsRow w.heap.size 23 2 (.slice none 0 0) 0 [] := ⟨rfl, .inl ⟨rfl, rfl⟩⟩
  go_enter Try.func4, Try.ntmps4
  go_wp2_with (at_builtin; refine wpList_append_own _ rfl _ _ 33 rfl w.heap.size 23 i0 (.agg #[.string ⟨#[]⟩, .string ⟨#[]⟩]) 2 32 Try.underlying33 hi hz0 hz1 hz2 rfl (by decide) _ _ _ rfl hown0 a 0 cap [] rfl rfl (by intro j u hj; simp at hj) (by simp) (by unfold maxLen; omega) (by omega) (Nat.le_refl _) ?_)
  intro v' w1 hown1 hgrow hv'
  obtain rfl : v' = .slice none 0 0 := by simpa using hv'
  have hb1 : Below w.heap.size w w1 := (Below.refl _ _).grown hgrow (Nat.le_refl _) (fun k hk => by cases hk)
  clear hown0 hown1 hgrow hv'
  go_wp2_with fail
  refine (Gap_any none 0 0 0 [] _ (fun h => absurd h (by simp)) (by simp)).mono ?_
  rintro e w2 ⟨o, rfl, ho, hb2⟩
  obtain ⟨x, y, is, hv⟩ := gapV_ex o
  rw [hv]
  have hB := below2 hb1 hb2
  have HO : Hid _ := ho
  have HV : Hid _ := hv
  clear ho hv hb2 hb1
  have hba : Below w2.heap.size w2 (w2.alloc (.cells #[.string (bstr x), .string (bstr y)] 23)) := (Below.refl _ _).alloc (Nat.le_refl _) _
  go_wp2_with fail
  refine (RGap_any (some a) 0 0 cap [] _ (fun h => absurd h (by simp)) (by simp)).mono ?_
  rintro e w3 ⟨o2, rfl, ho2, hb3⟩
  have hoo := gapSpec_one ho2 HO.out
  rw [hoo, HV.out]
  have ra := (RngAt.new w2 23 x y).step hb3
  replace hB := below2 hB (below2 hba hb3)
  clear ho2 hoo HO HV hb3 hba
  have hba : Below w3.heap.size w3 (w3.alloc (.cells #[.string (bstr x), .string (bstr y)] 23)) := (Below.refl _ _).alloc (Nat.le_refl _) _
  replace ra := ra.step hba
  have rb := RngAt.new w3 23 x y
  replace hB := below2 hB hba
  clear hba
  go_wp2
  generalize w3.alloc (.cells #[.string (bstr x), .string (bstr y)] 23) = W at *
  refine wp_loop_rounds 1 ?_
  rw [rounds_succ]
  obtain ⟨a0, a1⟩ := ra
  obtain ⟨b0, b1⟩ := rb
  go_wp2_with fail
  refine (works_any _).mono ?_
  rintro e w5 ⟨rfl, hb5⟩
  replace hB := below2 hB hb5
  go_wp2
  go_ret
  exact ⟨rfl, hB⟩

end Go.Proofs.Ytphoimimifepcaa
