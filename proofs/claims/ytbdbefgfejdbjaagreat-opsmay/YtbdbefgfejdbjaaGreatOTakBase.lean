/-
  Base taken: written by mkotakg.py.
-/
import Derived.Test.YtbdbefgfejdbjaaGreatGOTakEnt
namespace Go.Proofs.YtbdbefgfejdbjaaGreat
open Go.RowKit Go.BigFrame
attribute [local go_sem] size_bstr toList_bstr

/-- What it answers. -/
def oTakBaseQ (g nr na : Nat) (s : Ps) (W0 W : World) (e : Ending) (W' : World) : Prop := ∃ q cap, e = .returned (.agg ((takVs baseK s).map Lit.toCell ++ [Value.slice q (memN (takSs baseK s)) cap]).toArray) ∧ INew W' W.heap.size q (memI (takSs baseK s)) ∧ Tk W0 g nr na (memE (takSs baseK s)).a (memE (takSs baseK s)).l W' ∧ Kt g na W W'
set_option maxHeartbeats 16000000 in
set_option maxRecDepth 100000 in
theorem oTakBase_any (g nr na : Nat) (s : Ps) (W0 W : World) (h : Tk W0 g nr na s.a s.l W) (hl : s.l.length ≤ 1048576) :
    Calls Tryz.prog 103 #[tkV nr na] W (oTakBaseQ g nr na s W0 W) := by
  obtain ⟨s0, hs0⟩ : ∃ s0, s0 = s := ⟨_, rfl⟩
  rw [← hs0] at h hl ⊢
  clear hs0
  obtain ⟨s1, s2, s3, MN, MI, y0, y1, q0, q1, q2, qn, qi, h100, h101, e0, e1⟩ : ∃ (s1 s2 s3 : Ps) (MN : Nat) (MI : List Int) (y0 : Nat) (y1 : Nat), takS .U s0 = s1 ∧ takS .U s1 = s2 ∧ memE s2 = s3 ∧ memN s2 = MN ∧ memI s2 = MI ∧ takSs baseK s0 = s2 ∧ takVs baseK s0 = [.int .u64 (y0 : Int), .int .u64 (y1 : Int)] ∧ takV .U s0 = .int .u64 (y0 : Int) ∧ takV .U s1 = .int .u64 (y1 : Int) :=
    ⟨_, _, _, _, _, _, _, rfl, rfl, rfl, rfl, rfl, rfl, rfl, rfl, rfl⟩
  have hfin : ∀ (x0 : Option Addr × Nat) (w : World), INew w (W.heap.size + 2) x0.1 MI → Tk W0 g nr na s3.a s3.l w → Kt g na W w → oTakBaseQ g nr na s0 W0 W (.returned (.agg #[.int .u64 (y0 : Int), .int .u64 (y1 : Int), .slice x0.1 MN x0.2])) w := by
    intro x0 w a1 a2 a3
    unfold oTakBaseQ
    rw [h100, h101, qn, qi, q2]
    exact ⟨x0.1, x0.2, rfl, a1.mono (by omega), a2, a3⟩
  have HFIN : Hid _ := hfin
  clear hfin
  have L0 : Hid (s0.l.length ≤ 1048576) := hl
  have L1 : Hid (s1.l.length ≤ 1048576) := by show _ ≤ _; rw [← q0]; exact Nat.le_trans (takS_len _ _) L0.out
  have L2 : Hid (s2.l.length ≤ 1048576) := by show _ ≤ _; rw [← q1]; exact Nat.le_trans (takS_len _ _) L1.out
  have Q0 : Hid _ := q0
  have Q1 : Hid _ := q1
  have Q2 : Hid _ := q2
  have E0 : Hid _ := e0
  have E1 : Hid _ := e1
  have QN : Hid _ := qn
  have QI : Hid _ := qi
  have hG1 := h.rd.lt
  have hG2 := h.rn
  have G1 : Hid (g < W.heap.size + 2) := by show _ < _; omega
  have G2 : Hid (na < W.heap.size + 2) := by show _ < _; omega
  clear hl hG1 hG2 q0 q1 q2 qn qi h100 h101 e0 e1
  have hTS := TS.start (t := 51) (zs := #[.int .u64 0, .int .u64 0, .slice none 0 0]) h
  go_enter Tryz.func103, Tryz.ntmps103
  go_upto_region 1 with fail
  generalize (W.alloc (.cells #[tk1 nr na, tk2 nr na, tk3 nr na] 108)).alloc (.cells #[.int .u64 0, .int .u64 0, .slice none 0 0] 51) = w1 at *
  have hbx : ∀ (γ : Option (Option Addr × Nat)) c w, SS [(fun w => γ = none ∧ TS W0 W g nr na 51 #[.int .u64 0, .int .u64 0, .slice none 0 0] s0 w),
      (fun w => γ = none ∧ TS W0 W g nr na 51 #[.int .u64 0, .int .u64 0, .slice none 0 0] s1 w),
      (fun w => γ = none ∧ TS W0 W g nr na 51 #[.int .u64 0, .int .u64 0, .slice none 0 0] s2 w),
      (fun w => ∃ x0, γ = some x0 ∧ TS W0 W g nr na 51 #[.int .u64 0, .int .u64 0, .slice none 0 0] s3 w ∧ INew w (W.heap.size + 2) x0.1 MI),
      (fun w => ∃ x0, γ = some x0 ∧ TS W0 W g nr na 51 #[.int .u64 (y0 : Int), .int .u64 (y1 : Int), .slice x0.1 MN x0.2] s3 w ∧ INew w (W.heap.size + 2) x0.1 MI)] c w → Blk w W.heap.size 108 #[tk1 nr na, tk2 nr na, tk3 nr na] := fun γ => SS.all (by
      intro p hp w hw
      simp only [List.mem_cons, List.not_mem_nil, or_false] at hp
      rcases hp with rfl | rfl | rfl | rfl | rfl
      · obtain ⟨_, hT⟩ := hw; exact hT.bx
      · obtain ⟨_, hT⟩ := hw; exact hT.bx
      · obtain ⟨_, hT⟩ := hw; exact hT.bx
      · obtain ⟨_, _, hT, _⟩ := hw; exact hT.bx
      · obtain ⟨_, _, hT, _⟩ := hw; exact hT.bx)
  have HBX : Hid _ := hbx
  clear hbx h
  have mono0 : ∀ (γ γ' : Option (Option Addr × Nat)), γ = none → ∀ j u, RG [(fun _ v => v = tkV nr na),
      (fun _ v => v = .int .u64 (y0 : Int)),
      (fun _ v => v = tkV nr na),
      (fun _ v => v = .int .u64 (y1 : Int)),
      (fun _ v => v = tkV nr na),
      (fun γ v => ∃ x0, γ = some x0 ∧ v = .slice x0.1 MN x0.2),
      (fun γ v => ∃ x0, γ = some x0 ∧ v = .agg #[.int .u64 (y0 : Int), .int .u64 (y1 : Int), .slice x0.1 MN x0.2]),
      (fun _ _ => True)] γ j u → RG [(fun _ v => v = tkV nr na),
      (fun _ v => v = .int .u64 (y0 : Int)),
      (fun _ v => v = tkV nr na),
      (fun _ v => v = .int .u64 (y1 : Int)),
      (fun _ v => v = tkV nr na),
      (fun γ v => ∃ x0, γ = some x0 ∧ v = .slice x0.1 MN x0.2),
      (fun γ v => ∃ x0, γ = some x0 ∧ v = .agg #[.int .u64 (y0 : Int), .int .u64 (y1 : Int), .slice x0.1 MN x0.2]),
      (fun _ _ => True)] γ' j u := by
    intro γ γ' hg
    refine RG.mono fun p hp u hu => ?_
    subst hg
    simp only [List.mem_cons, List.not_mem_nil, or_false] at hp
    rcases hp with rfl | rfl | rfl | rfl | rfl | rfl | rfl | rfl
    · exact hu
    · exact hu
    · exact hu
    · exact hu
    · exact hu
    · obtain ⟨_, h1, _⟩ := hu; cases h1
    · obtain ⟨_, h1, _⟩ := hu; cases h1
    · exact hu
  have MONO0 : Hid _ := mono0
  clear mono0
  refine wp_seqG (Γ := Option (Option Addr × Nat)) none (S := fun γ => SS [(fun w => γ = none ∧ TS W0 W g nr na 51 #[.int .u64 0, .int .u64 0, .slice none 0 0] s0 w),
      (fun w => γ = none ∧ TS W0 W g nr na 51 #[.int .u64 0, .int .u64 0, .slice none 0 0] s1 w),
      (fun w => γ = none ∧ TS W0 W g nr na 51 #[.int .u64 0, .int .u64 0, .slice none 0 0] s2 w),
      (fun w => ∃ x0, γ = some x0 ∧ TS W0 W g nr na 51 #[.int .u64 0, .int .u64 0, .slice none 0 0] s3 w ∧ INew w (W.heap.size + 2) x0.1 MI),
      (fun w => ∃ x0, γ = some x0 ∧ TS W0 W g nr na 51 #[.int .u64 (y0 : Int), .int .u64 (y1 : Int), .slice x0.1 MN x0.2] s3 w ∧ INew w (W.heap.size + 2) x0.1 MI)])
    (R := fun γ => RG [(fun _ v => v = tkV nr na),
      (fun _ v => v = .int .u64 (y0 : Int)),
      (fun _ v => v = tkV nr na),
      (fun _ v => v = .int .u64 (y1 : Int)),
      (fun _ v => v = tkV nr na),
      (fun γ v => ∃ x0, γ = some x0 ∧ v = .slice x0.1 MN x0.2),
      (fun γ v => ∃ x0, γ = some x0 ∧ v = .agg #[.int .u64 (y0 : Int), .int .u64 (y1 : Int), .slice x0.1 MN x0.2]),
      (fun _ _ => True)] γ)
    (tm := [none, some 0, none, some 1, none, some 2, none, some 3]) (N := 4) (by kernel_rfl) (by kernel_rfl) ⟨rfl, hTS.drew⟩ ?_ ?_
  · refine ⟨?_, ?_, ?_, ?_, ?_, ?_, ?_, ?_, trivial⟩
    · intro γ c a w K hS ht hK
      have t1 : a.tmps.getD 1 undef = .pointer (some ⟨W.heap.size, 0, none⟩) := ht.1 1 (by kernel_rfl)
      exact wp_load_mid 108 _ rfl W.heap.size 0 t1 [tk1 nr na, tk2 nr na, tk3 nr na] _ (range_of_block (HBX.out γ c w hS) [] [tk1 nr na, tk2 nr na, tk3 nr na] [] rfl) Tryz.underlying108 rfl (by kernel_rfl) (hK _ rfl)
    · intro γ a w K hS ht hK
      have t1 : a.tmps.getD 3 undef = tkV nr na := ht.2 ⟨0, .data⟩ (by simp) rfl _ _ rfl rfl
      obtain ⟨hγ, hS⟩ : (fun w => γ = none ∧ TS W0 W g nr na 51 #[.int .u64 0, .int .u64 0, .slice none 0 0] s0 w) w := hS
      go_simp
      refine (oUintT_any g nr na s0 W0 w hS.tk L0.out).mono ?_
      rintro e wf ⟨rfl, hT, hk⟩
      rw [Q0.out] at hT
      exact hK γ _ _ ⟨hγ, hS.call hT hk⟩ (fun _ _ h => h) (congrArg Lit.toCell E0.out)
    · intro γ c a w K hS ht hK
      have t1 : a.tmps.getD 1 undef = .pointer (some ⟨W.heap.size, 0, none⟩) := ht.1 1 (by kernel_rfl)
      exact wp_load_mid 108 _ rfl W.heap.size 0 t1 [tk1 nr na, tk2 nr na, tk3 nr na] _ (range_of_block (HBX.out γ c w hS) [] [tk1 nr na, tk2 nr na, tk3 nr na] [] rfl) Tryz.underlying108 rfl (by kernel_rfl) (hK _ rfl)
    · intro γ a w K hS ht hK
      have t1 : a.tmps.getD 5 undef = tkV nr na := ht.2 ⟨2, .data⟩ (by simp) rfl _ _ rfl rfl
      obtain ⟨hγ, hS⟩ : (fun w => γ = none ∧ TS W0 W g nr na 51 #[.int .u64 0, .int .u64 0, .slice none 0 0] s1 w) w := hS
      go_simp
      refine (oUintT_any g nr na s1 W0 w hS.tk L1.out).mono ?_
      rintro e wf ⟨rfl, hT, hk⟩
      rw [Q1.out] at hT
      exact hK γ _ _ ⟨hγ, hS.call hT hk⟩ (fun _ _ h => h) (congrArg Lit.toCell E1.out)
    · intro γ c a w K hS ht hK
      have t1 : a.tmps.getD 1 undef = .pointer (some ⟨W.heap.size, 0, none⟩) := ht.1 1 (by kernel_rfl)
      exact wp_load_mid 108 _ rfl W.heap.size 0 t1 [tk1 nr na, tk2 nr na, tk3 nr na] _ (range_of_block (HBX.out γ c w hS) [] [tk1 nr na, tk2 nr na, tk3 nr na] [] rfl) Tryz.underlying108 rfl (by kernel_rfl) (hK _ rfl)
    · intro γ a w K hS ht hK
      have t1 : a.tmps.getD 7 undef = tkV nr na := ht.2 ⟨4, .data⟩ (by simp) rfl _ _ rfl rfl
      obtain ⟨hγ, hS⟩ : (fun w => γ = none ∧ TS W0 W g nr na 51 #[.int .u64 0, .int .u64 0, .slice none 0 0] s2 w) w := hS
      go_simp
      refine (oTakMembers_any g nr na s2 W0 w hS.tk L2.out).mono ?_
      rintro e wf ⟨q, cap, rfl, hn, hT, hk⟩
      rw [Q2.out] at hT
      rw [QI.out] at hn
      exact hK (some (q, cap)) _ _ ⟨(q, cap), rfl, hS.call hT hk, hn.mono hS.two⟩ (MONO0.out γ (some (q, cap)) hγ) ⟨(q, cap), rfl, by show _ = Value.slice q MN cap; rw [← QN.out]⟩
    · intro γ c a w K hS ht hK
      have t4 : a.tmps.getD 4 undef = .int .u64 (y0 : Int) := ht.2 ⟨1, .data⟩ (by simp) rfl _ _ rfl rfl
      have t6 : a.tmps.getD 6 undef = .int .u64 (y1 : Int) := ht.2 ⟨3, .data⟩ (by simp) rfl _ _ rfl rfl
      obtain ⟨x0, hx0, t8⟩ : ∃ x0, γ = some x0 ∧ a.tmps.getD 8 undef = .slice x0.1 MN x0.2 := ht.2 ⟨5, .data⟩ (by simp) rfl _ _ rfl rfl
      rw [Array.getD_eq_getD_getElem?] at t4 t6 t8
      go_simp
      exact hK _ ⟨x0, hx0, rfl⟩
    · intro γ a w K hS ht hK
      have t1 : a.tmps.getD 2 undef = .pointer (some ⟨W.heap.size + 1, 0, none⟩) := ht.1 2 (by kernel_rfl)
      obtain ⟨z0, hz, t2⟩ : ∃ z0, γ = some z0 ∧ a.tmps.getD 9 undef = .agg #[.int .u64 (y0 : Int), .int .u64 (y1 : Int), .slice z0.1 MN z0.2] := ht.2 ⟨6, .data⟩ (by simp) rfl _ _ rfl rfl
      obtain ⟨x0, hγ, hS, f0⟩ : (fun w => ∃ x0, γ = some x0 ∧ TS W0 W g nr na 51 #[.int .u64 0, .int .u64 0, .slice none 0 0] s3 w ∧ INew w (W.heap.size + 2) x0.1 MI) w := hS
      obtain rfl : z0 = x0 := by rw [hγ] at hz; exact (Option.some.inj hz).symm
      exact wp_store_mid 51 _ _ rfl (W.heap.size + 1) 0 #[.int .u64 (y0 : Int), .int .u64 (y1 : Int), .slice z0.1 MN z0.2] t1 t2 (blk_there hS.rs rfl) (by kernel_rfl) (by kernel_rfl) (hK γ undef _ ⟨z0, hz, hS.set [.int .u64 (y0 : Int), .int .u64 (y1 : Int), .slice z0.1 MN z0.2] rfl, INew.cells (Nat.lt_succ_self _) _ _ f0⟩ (fun _ _ h => h) trivial)
  · intro γ a' w hS hdf hts hold hnew
    obtain ⟨x0, hγ, hS, f0⟩ : (fun w => ∃ x0, γ = some x0 ∧ TS W0 W g nr na 51 #[.int .u64 (y0 : Int), .int .u64 (y1 : Int), .slice x0.1 MN x0.2] s3 w ∧ INew w (W.heap.size + 2) x0.1 MI) w := hS
    have t2 : a'.tmps.getD 2 undef = .pointer (some ⟨W.heap.size + 1, 0, none⟩) := hold 2 (by kernel_rfl)
    obtain ⟨t, d⟩ := a'
    obtain rfl : d = [] := hdf
    simp only at t2
    clear hold hnew hts
    go_wp2
    exact ret_cells (cs := [.int .u64 (y0 : Int), .int .u64 (y1 : Int), .slice x0.1 MN x0.2]) rfl Tryz.underlying51 rfl (by kernel_rfl) t2 hS.rs rfl (HFIN.out x0 w f0 hS.tk hS.kt)

end Go.Proofs.YtbdbefgfejdbjaaGreat
