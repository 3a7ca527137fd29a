/-
  Want taken: written by mkotak.py.
  Cmd taken: written by mkotak.py.
-/
import Derived.Test.YtbdbefgfejdbjaaGreatGOMod
import Derived.Test.YtbdbefgfejdbjaaGreatOTakOp
namespace Go.Proofs.YtbdbefgfejdbjaaGreat
open Go.RowKit Go.BigFrame
attribute [local go_sem] size_bstr toList_bstr

set_option maxHeartbeats 8000000 in
set_option maxRecDepth 100000 in
theorem oTakWant_any (g nr na : Nat) (s : Ps) (W0 W : World) (h : Tk W0 g nr na s.a s.l W) (hl : s.l.length ≤ 1048576) :
    Calls Tryz.prog 134 #[tkV nr na] W fun e W' => e = .returned (litsV (takVs wantK s)) ∧ Tk W0 g nr na (takSs wantK s).a (takSs wantK s).l W' ∧ Kt g na W W' := by
  obtain ⟨s0, hs0⟩ : ∃ s0, s0 = s := ⟨_, rfl⟩
  rw [← hs0] at h hl ⊢
  clear hs0
  obtain ⟨s1, s2, s3, s4, s5, y0, y1, y2, y3, y4, q0, q1, q2, q3, q4, hS, hV, e0, e1, e2, e3, e4⟩ : ∃ (s1 s2 s3 s4 s5 : Ps) (y0 : Bool) (y1 : Nat) (y2 : List UInt8) (y3 : Nat) (y4 : Nat), takS .B s0 = s1 ∧ takS .I s1 = s2 ∧ takS .S s2 = s3 ∧ takS .I s3 = s4 ∧ takS .I s4 = s5 ∧ takSs wantK s0 = s5 ∧ takVs wantK s0 = [.bool y0, .int .i64 (y1 : Int), .string y2, .int .i64 (y3 : Int), .int .i64 (y4 : Int)] ∧ takV .B s0 = .bool y0 ∧ takV .I s1 = .int .i64 (y1 : Int) ∧ takV .S s2 = .string y2 ∧ takV .I s3 = .int .i64 (y3 : Int) ∧ takV .I s4 = .int .i64 (y4 : Int) :=
    ⟨_, _, _, _, _, _, _, _, _, _, rfl, rfl, rfl, rfl, rfl, rfl, rfl, rfl, rfl, rfl, rfl, rfl⟩
  rw [hS, hV]
  have L0 : Hid (s0.l.length ≤ 1048576) := hl
  have L1 : Hid (s1.l.length ≤ 1048576) := by show _ ≤ _; rw [← q0]; exact Nat.le_trans (takS_len _ _) L0.out
  have L2 : Hid (s2.l.length ≤ 1048576) := by show _ ≤ _; rw [← q1]; exact Nat.le_trans (takS_len _ _) L1.out
  have L3 : Hid (s3.l.length ≤ 1048576) := by show _ ≤ _; rw [← q2]; exact Nat.le_trans (takS_len _ _) L2.out
  have L4 : Hid (s4.l.length ≤ 1048576) := by show _ ≤ _; rw [← q3]; exact Nat.le_trans (takS_len _ _) L3.out
  have L5 : Hid (s5.l.length ≤ 1048576) := by show _ ≤ _; rw [← q4]; exact Nat.le_trans (takS_len _ _) L4.out
  have Q0 : Hid _ := q0
  have E0 : Hid _ := e0
  have Q1 : Hid _ := q1
  have E1 : Hid _ := e1
  have Q2 : Hid _ := q2
  have E2 : Hid _ := e2
  have Q3 : Hid _ := q3
  have E3 : Hid _ := e3
  have Q4 : Hid _ := q4
  have E4 : Hid _ := e4
  clear hS hV hl q0 q1 q2 q3 q4 e0 e1 e2 e3 e4
  have hTS := TS.start (t := 26) (zs := #[.bool false, .int .i64 0, .string ⟨#[]⟩, .int .i64 0, .int .i64 0]) h
  go_enter Tryz.func134, Tryz.ntmps134
  go_upto_region 1 with fail
  generalize (W.alloc (.cells #[tk1 nr na, tk2 nr na, tk3 nr na] 108)).alloc (.cells #[.bool false, .int .i64 0, .string ⟨#[]⟩, .int .i64 0, .int .i64 0] 26) = w1 at *
  have hbx : ∀ c w, SS [TS W0 W g nr na 26 #[.bool false, .int .i64 0, .string ⟨#[]⟩, .int .i64 0, .int .i64 0] s0, TS W0 W g nr na 26 #[.bool false, .int .i64 0, .string ⟨#[]⟩, .int .i64 0, .int .i64 0] s1, TS W0 W g nr na 26 #[.bool false, .int .i64 0, .string ⟨#[]⟩, .int .i64 0, .int .i64 0] s2, TS W0 W g nr na 26 #[.bool false, .int .i64 0, .string ⟨#[]⟩, .int .i64 0, .int .i64 0] s3, TS W0 W g nr na 26 #[.bool false, .int .i64 0, .string ⟨#[]⟩, .int .i64 0, .int .i64 0] s4, TS W0 W g nr na 26 #[.bool false, .int .i64 0, .string ⟨#[]⟩, .int .i64 0, .int .i64 0] s5, TS W0 W g nr na 26 #[.bool y0, .int .i64 (y1 : Int), .string (bstr y2), .int .i64 (y3 : Int), .int .i64 (y4 : Int)] s5] c w → Blk w W.heap.size 108 #[tk1 nr na, tk2 nr na, tk3 nr na] := SS.all (by
    intro p hp w hw
    simp only [List.mem_cons, List.not_mem_nil, or_false] at hp
    rcases hp with rfl | rfl | rfl | rfl | rfl | rfl | rfl <;> exact hw.bx)
  have HBX : Hid _ := hbx
  clear hbx h
  refine wp_seq (S := SS [TS W0 W g nr na 26 #[.bool false, .int .i64 0, .string ⟨#[]⟩, .int .i64 0, .int .i64 0] s0, TS W0 W g nr na 26 #[.bool false, .int .i64 0, .string ⟨#[]⟩, .int .i64 0, .int .i64 0] s1, TS W0 W g nr na 26 #[.bool false, .int .i64 0, .string ⟨#[]⟩, .int .i64 0, .int .i64 0] s2, TS W0 W g nr na 26 #[.bool false, .int .i64 0, .string ⟨#[]⟩, .int .i64 0, .int .i64 0] s3, TS W0 W g nr na 26 #[.bool false, .int .i64 0, .string ⟨#[]⟩, .int .i64 0, .int .i64 0] s4, TS W0 W g nr na 26 #[.bool false, .int .i64 0, .string ⟨#[]⟩, .int .i64 0, .int .i64 0] s5, TS W0 W g nr na 26 #[.bool y0, .int .i64 (y1 : Int), .string (bstr y2), .int .i64 (y3 : Int), .int .i64 (y4 : Int)] s5])
    (R := RR [tkV nr na,
      .bool y0,
      tkV nr na,
      .int .i64 (y1 : Int),
      .pointer (some ⟨W.heap.size, 1, none⟩),
      tk2 nr na,
      .string (bstr y2),
      tkV nr na,
      .int .i64 (y3 : Int),
      tkV nr na,
      .int .i64 (y4 : Int),
      .agg #[.bool y0, .int .i64 (y1 : Int), .string (bstr y2), .int .i64 (y3 : Int), .int .i64 (y4 : Int)],
      undef])
    (tm := [none, some 0, none, some 1, none, none, some 2, none, some 3, none, some 4, none, some 5]) (N := 6) (by kernel_rfl) (by kernel_rfl) hTS.drew ?_ ?_
  · refine ⟨?_, ?_, ?_, ?_, ?_, ?_, ?_, ?_, ?_, ?_, ?_, ?_, ?_, trivial⟩
    · intro c a w K hS ht hK
      have t1 : a.tmps.getD 1 undef = .pointer (some ⟨W.heap.size, 0, none⟩) := ht.1 1 (by kernel_rfl)
      exact wp_load_mid 108 _ rfl W.heap.size 0 t1 [tk1 nr na, tk2 nr na, tk3 nr na] _ (range_of_block (HBX.out c w hS) [] [tk1 nr na, tk2 nr na, tk3 nr na] [] rfl) Tryz.underlying108 rfl (by kernel_rfl) (hK _ rfl)
    · intro a w K hS ht hK
      have t1 : a.tmps.getD 3 undef = tkV nr na := ht.2 ⟨0, .data⟩ (by simp) rfl _ _ rfl rfl
      have hS : TS W0 W g nr na 26 #[.bool false, .int .i64 0, .string ⟨#[]⟩, .int .i64 0, .int .i64 0] s0 w := hS
      go_simp
      refine (oBoolT_any g nr na s0 W0 w hS.tk L0.out).mono ?_
      rintro e wf ⟨rfl, hT, hk⟩
      rw [Q0.out] at hT
      exact hK _ _ (hS.call hT hk) (congrArg Lit.toCell E0.out)
    · intro c a w K hS ht hK
      have t1 : a.tmps.getD 1 undef = .pointer (some ⟨W.heap.size, 0, none⟩) := ht.1 1 (by kernel_rfl)
      exact wp_load_mid 108 _ rfl W.heap.size 0 t1 [tk1 nr na, tk2 nr na, tk3 nr na] _ (range_of_block (HBX.out c w hS) [] [tk1 nr na, tk2 nr na, tk3 nr na] [] rfl) Tryz.underlying108 rfl (by kernel_rfl) (hK _ rfl)
    · intro a w K hS ht hK
      have t1 : a.tmps.getD 5 undef = tkV nr na := ht.2 ⟨2, .data⟩ (by simp) rfl _ _ rfl rfl
      have hS : TS W0 W g nr na 26 #[.bool false, .int .i64 0, .string ⟨#[]⟩, .int .i64 0, .int .i64 0] s1 w := hS
      go_simp
      refine (oIntT_any g nr na s1 W0 w hS.tk L1.out).mono ?_
      rintro e wf ⟨rfl, hT, hk⟩
      rw [Q1.out] at hT
      exact hK _ _ (hS.call hT hk) (congrArg Lit.toCell E1.out)
    · intro c a w K hS ht hK
      have t1 : a.tmps.getD 1 undef = .pointer (some ⟨W.heap.size, 0, none⟩) := ht.1 1 (by kernel_rfl)
      go_simp
      exact hK _ rfl
    · intro c a w K hS ht hK
      have t1 : a.tmps.getD 7 undef = .pointer (some ⟨W.heap.size, 1, none⟩) := ht.2 ⟨4, .data⟩ (by simp) rfl _ _ rfl rfl
      have cc : w.cell? ⟨W.heap.size, 1, none⟩ = some (tk2 nr na) := (mcells (HBX.out c w hS)).1 1
      go_simp
      exact hK _ rfl
    · intro a w K hS ht hK
      have t1 : a.tmps.getD 8 undef = tk2 nr na := ht.2 ⟨5, .data⟩ (by simp) rfl _ _ rfl rfl
      have hS : TS W0 W g nr na 26 #[.bool false, .int .i64 0, .string ⟨#[]⟩, .int .i64 0, .int .i64 0] s2 w := hS
      go_simp
      refine (oTextT_any g nr na s2 W0 w hS.tk L2.out).mono ?_
      rintro e wf ⟨rfl, hT, hk⟩
      rw [Q2.out] at hT
      exact hK _ _ (hS.call hT hk) (congrArg Lit.toCell E2.out)
    · intro c a w K hS ht hK
      have t1 : a.tmps.getD 1 undef = .pointer (some ⟨W.heap.size, 0, none⟩) := ht.1 1 (by kernel_rfl)
      exact wp_load_mid 108 _ rfl W.heap.size 0 t1 [tk1 nr na, tk2 nr na, tk3 nr na] _ (range_of_block (HBX.out c w hS) [] [tk1 nr na, tk2 nr na, tk3 nr na] [] rfl) Tryz.underlying108 rfl (by kernel_rfl) (hK _ rfl)
    · intro a w K hS ht hK
      have t1 : a.tmps.getD 10 undef = tkV nr na := ht.2 ⟨7, .data⟩ (by simp) rfl _ _ rfl rfl
      have hS : TS W0 W g nr na 26 #[.bool false, .int .i64 0, .string ⟨#[]⟩, .int .i64 0, .int .i64 0] s3 w := hS
      go_simp
      refine (oIntT_any g nr na s3 W0 w hS.tk L3.out).mono ?_
      rintro e wf ⟨rfl, hT, hk⟩
      rw [Q3.out] at hT
      exact hK _ _ (hS.call hT hk) (congrArg Lit.toCell E3.out)
    · intro c a w K hS ht hK
      have t1 : a.tmps.getD 1 undef = .pointer (some ⟨W.heap.size, 0, none⟩) := ht.1 1 (by kernel_rfl)
      exact wp_load_mid 108 _ rfl W.heap.size 0 t1 [tk1 nr na, tk2 nr na, tk3 nr na] _ (range_of_block (HBX.out c w hS) [] [tk1 nr na, tk2 nr na, tk3 nr na] [] rfl) Tryz.underlying108 rfl (by kernel_rfl) (hK _ rfl)
    · intro a w K hS ht hK
      have t1 : a.tmps.getD 12 undef = tkV nr na := ht.2 ⟨9, .data⟩ (by simp) rfl _ _ rfl rfl
      have hS : TS W0 W g nr na 26 #[.bool false, .int .i64 0, .string ⟨#[]⟩, .int .i64 0, .int .i64 0] s4 w := hS
      go_simp
      refine (oIntT_any g nr na s4 W0 w hS.tk L4.out).mono ?_
      rintro e wf ⟨rfl, hT, hk⟩
      rw [Q4.out] at hT
      exact hK _ _ (hS.call hT hk) (congrArg Lit.toCell E4.out)
    · intro c a w K hS ht hK
      have t4 : a.tmps.getD 4 undef = .bool y0 := ht.2 ⟨1, .data⟩ (by simp) rfl _ _ rfl rfl
      have t6 : a.tmps.getD 6 undef = .int .i64 (y1 : Int) := ht.2 ⟨3, .data⟩ (by simp) rfl _ _ rfl rfl
      have t9 : a.tmps.getD 9 undef = .string (bstr y2) := ht.2 ⟨6, .data⟩ (by simp) rfl _ _ rfl rfl
      have t11 : a.tmps.getD 11 undef = .int .i64 (y3 : Int) := ht.2 ⟨8, .data⟩ (by simp) rfl _ _ rfl rfl
      have t13 : a.tmps.getD 13 undef = .int .i64 (y4 : Int) := ht.2 ⟨10, .data⟩ (by simp) rfl _ _ rfl rfl
      rw [Array.getD_eq_getD_getElem?] at t4 t6 t9 t11 t13
      go_simp
      exact hK _ rfl
    · intro a w K hS ht hK
      have t1 : a.tmps.getD 2 undef = .pointer (some ⟨W.heap.size + 1, 0, none⟩) := ht.1 2 (by kernel_rfl)
      have t2 : a.tmps.getD 14 undef = .agg #[.bool y0, .int .i64 (y1 : Int), .string (bstr y2), .int .i64 (y3 : Int), .int .i64 (y4 : Int)] := ht.2 ⟨11, .data⟩ (by simp) rfl _ _ rfl rfl
      have hS : TS W0 W g nr na 26 #[.bool false, .int .i64 0, .string ⟨#[]⟩, .int .i64 0, .int .i64 0] s5 w := hS
      exact wp_store_mid 26 _ _ rfl (W.heap.size + 1) 0 #[.bool y0, .int .i64 (y1 : Int), .string (bstr y2), .int .i64 (y3 : Int), .int .i64 (y4 : Int)] t1 t2 (blk_there hS.rs rfl) (by kernel_rfl) (by kernel_rfl) (hK undef _ (hS.set [.bool y0, .int .i64 (y1 : Int), .string (bstr y2), .int .i64 (y3 : Int), .int .i64 (y4 : Int)] rfl) rfl)
  · intro a' w' hS hdf hts hold hnew
    have hS : TS W0 W g nr na 26 #[.bool y0, .int .i64 (y1 : Int), .string (bstr y2), .int .i64 (y3 : Int), .int .i64 (y4 : Int)] s5 w' := hS
    have t2 : a'.tmps.getD 2 undef = .pointer (some ⟨W.heap.size + 1, 0, none⟩) := hold 2 (by kernel_rfl)
    obtain ⟨t, d⟩ := a'
    obtain rfl : d = [] := hdf
    simp only at t2
    clear hold hnew hts
    go_wp2
    exact ret_cells (cs := [.bool y0, .int .i64 (y1 : Int), .string (bstr y2), .int .i64 (y3 : Int), .int .i64 (y4 : Int)]) rfl Tryz.underlying26 rfl (by kernel_rfl) t2 hS.rs rfl ⟨rfl, hS.tk, hS.kt⟩

end Go.Proofs.YtbdbefgfejdbjaaGreat

namespace Go.Proofs.YtbdbefgfejdbjaaGreat
open Go.RowKit Go.BigFrame
attribute [local go_sem] size_bstr toList_bstr

set_option maxHeartbeats 8000000 in
set_option maxRecDepth 100000 in
theorem oTakCmd_any (g nr na : Nat) (s : Ps) (W0 W : World) (h : Tk W0 g nr na s.a s.l W) (hl : s.l.length ≤ 1048576) :
    Calls Tryz.prog 108 #[tkV nr na] W fun e W' => e = .returned (litsV (takVs cmdK s)) ∧ Tk W0 g nr na (takSs cmdK s).a (takSs cmdK s).l W' ∧ Kt g na W W' := by
  obtain ⟨s0, hs0⟩ : ∃ s0, s0 = s := ⟨_, rfl⟩
  rw [← hs0] at h hl ⊢
  clear hs0
  obtain ⟨s1, s2, s3, s4, s5, s6, s7, s8, s9, s10, s11, y0, y1, y2, y3, y4, y5, y6, y7, y8, y9, y10, y11, y12, y13, y14, y15, y16, y17, y18, y19, q0, q1, q2, q3, q4, q5, q6, q7, q8, q9, q10, hS, hV, e0, e1, e2, e3, e4, e5, e6, e7, e8, e9, e10⟩ : ∃ (s1 s2 s3 s4 s5 s6 s7 s8 s9 s10 s11 : Ps) (y0 : Nat) (y1 : Nat) (y2 : Nat) (y3 : Nat) (y4 : Nat) (y5 : List UInt8) (y6 : List UInt8) (y7 : List UInt8) (y8 : Bool) (y9 : List UInt8) (y10 : Nat) (y11 : Nat) (y12 : List UInt8) (y13 : List UInt8) (y14 : Nat) (y15 : Bool) (y16 : Nat) (y17 : List UInt8) (y18 : Nat) (y19 : Nat), takS .I s0 = s1 ∧ takS .I s1 = s2 ∧ takS .U s2 = s3 ∧ takS .U s3 = s4 ∧ takSs opK s4 = s5 ∧ takS .U s5 = s6 ∧ takS .I s6 = s7 ∧ takS .S s7 = s8 ∧ takS .S s8 = s9 ∧ takS .I s9 = s10 ∧ takSs wantK s10 = s11 ∧ takSs cmdK s0 = s11 ∧ takVs cmdK s0 = [.int .i64 (y0 : Int), .int .i64 (y1 : Int), .int .u64 (y2 : Int), .int .u64 (y3 : Int), .int .i64 (y4 : Int), .string y5, .string y6, .string y7, .bool y8, .string y9, .int .u64 (y10 : Int), .int .i64 (y11 : Int), .string y12, .string y13, .int .i64 (y14 : Int), .bool y15, .int .i64 (y16 : Int), .string y17, .int .i64 (y18 : Int), .int .i64 (y19 : Int)] ∧ takV .I s0 = .int .i64 (y0 : Int) ∧ takV .I s1 = .int .i64 (y1 : Int) ∧ takV .U s2 = .int .u64 (y2 : Int) ∧ takV .U s3 = .int .u64 (y3 : Int) ∧ takVs opK s4 = [.int .i64 (y4 : Int), .string y5, .string y6, .string y7, .bool y8, .string y9] ∧ takV .U s5 = .int .u64 (y10 : Int) ∧ takV .I s6 = .int .i64 (y11 : Int) ∧ takV .S s7 = .string y12 ∧ takV .S s8 = .string y13 ∧ takV .I s9 = .int .i64 (y14 : Int) ∧ takVs wantK s10 = [.bool y15, .int .i64 (y16 : Int), .string y17, .int .i64 (y18 : Int), .int .i64 (y19 : Int)] :=
    ⟨_, _, _, _, _, _, _, _, _, _, _, _, _, _, _, _, _, _, _, _, _, _, _, _, _, _, _, _, _, _, _, rfl, rfl, rfl, rfl, rfl, rfl, rfl, rfl, rfl, rfl, rfl, rfl, rfl, rfl, rfl, rfl, rfl, rfl, rfl, rfl, rfl, rfl, rfl, rfl⟩
  rw [hS, hV]
  have L0 : Hid (s0.l.length ≤ 1048576) := hl
  have L1 : Hid (s1.l.length ≤ 1048576) := by show _ ≤ _; rw [← q0]; exact Nat.le_trans (takS_len _ _) L0.out
  have L2 : Hid (s2.l.length ≤ 1048576) := by show _ ≤ _; rw [← q1]; exact Nat.le_trans (takS_len _ _) L1.out
  have L3 : Hid (s3.l.length ≤ 1048576) := by show _ ≤ _; rw [← q2]; exact Nat.le_trans (takS_len _ _) L2.out
  have L4 : Hid (s4.l.length ≤ 1048576) := by show _ ≤ _; rw [← q3]; exact Nat.le_trans (takS_len _ _) L3.out
  have L5 : Hid (s5.l.length ≤ 1048576) := by show _ ≤ _; rw [← q4]; exact Nat.le_trans (takSs_len _ _) L4.out
  have L6 : Hid (s6.l.length ≤ 1048576) := by show _ ≤ _; rw [← q5]; exact Nat.le_trans (takS_len _ _) L5.out
  have L7 : Hid (s7.l.length ≤ 1048576) := by show _ ≤ _; rw [← q6]; exact Nat.le_trans (takS_len _ _) L6.out
  have L8 : Hid (s8.l.length ≤ 1048576) := by show _ ≤ _; rw [← q7]; exact Nat.le_trans (takS_len _ _) L7.out
  have L9 : Hid (s9.l.length ≤ 1048576) := by show _ ≤ _; rw [← q8]; exact Nat.le_trans (takS_len _ _) L8.out
  have L10 : Hid (s10.l.length ≤ 1048576) := by show _ ≤ _; rw [← q9]; exact Nat.le_trans (takS_len _ _) L9.out
  have L11 : Hid (s11.l.length ≤ 1048576) := by show _ ≤ _; rw [← q10]; exact Nat.le_trans (takSs_len _ _) L10.out
  have Q0 : Hid _ := q0
  have E0 : Hid _ := e0
  have Q1 : Hid _ := q1
  have E1 : Hid _ := e1
  have Q2 : Hid _ := q2
  have E2 : Hid _ := e2
  have Q3 : Hid _ := q3
  have E3 : Hid _ := e3
  have Q4 : Hid _ := q4
  have E4 : Hid _ := e4
  have Q5 : Hid _ := q5
  have E5 : Hid _ := e5
  have Q6 : Hid _ := q6
  have E6 : Hid _ := e6
  have Q7 : Hid _ := q7
  have E7 : Hid _ := e7
  have Q8 : Hid _ := q8
  have E8 : Hid _ := e8
  have Q9 : Hid _ := q9
  have E9 : Hid _ := e9
  have Q10 : Hid _ := q10
  have E10 : Hid _ := e10
  clear hS hV hl q0 q1 q2 q3 q4 q5 q6 q7 q8 q9 q10 e0 e1 e2 e3 e4 e5 e6 e7 e8 e9 e10
  have hTS := TS.start (t := 28) (zs := #[.int .i64 0, .int .i64 0, .int .u64 0, .int .u64 0, .int .i64 0, .string ⟨#[]⟩, .string ⟨#[]⟩, .string ⟨#[]⟩, .bool false, .string ⟨#[]⟩, .int .u64 0, .int .i64 0, .string ⟨#[]⟩, .string ⟨#[]⟩, .int .i64 0, .bool false, .int .i64 0, .string ⟨#[]⟩, .int .i64 0, .int .i64 0]) h
  go_enter Tryz.func108, Tryz.ntmps108
  go_upto_region 1 with fail
  generalize (W.alloc (.cells #[tk1 nr na, tk2 nr na, tk3 nr na] 108)).alloc (.cells #[.int .i64 0, .int .i64 0, .int .u64 0, .int .u64 0, .int .i64 0, .string ⟨#[]⟩, .string ⟨#[]⟩, .string ⟨#[]⟩, .bool false, .string ⟨#[]⟩, .int .u64 0, .int .i64 0, .string ⟨#[]⟩, .string ⟨#[]⟩, .int .i64 0, .bool false, .int .i64 0, .string ⟨#[]⟩, .int .i64 0, .int .i64 0] 28) = w1 at *
  have hbx : ∀ c w, SS [TS W0 W g nr na 28 #[.int .i64 0, .int .i64 0, .int .u64 0, .int .u64 0, .int .i64 0, .string ⟨#[]⟩, .string ⟨#[]⟩, .string ⟨#[]⟩, .bool false, .string ⟨#[]⟩, .int .u64 0, .int .i64 0, .string ⟨#[]⟩, .string ⟨#[]⟩, .int .i64 0, .bool false, .int .i64 0, .string ⟨#[]⟩, .int .i64 0, .int .i64 0] s0, TS W0 W g nr na 28 #[.int .i64 0, .int .i64 0, .int .u64 0, .int .u64 0, .int .i64 0, .string ⟨#[]⟩, .string ⟨#[]⟩, .string ⟨#[]⟩, .bool false, .string ⟨#[]⟩, .int .u64 0, .int .i64 0, .string ⟨#[]⟩, .string ⟨#[]⟩, .int .i64 0, .bool false, .int .i64 0, .string ⟨#[]⟩, .int .i64 0, .int .i64 0] s1, TS W0 W g nr na 28 #[.int .i64 0, .int .i64 0, .int .u64 0, .int .u64 0, .int .i64 0, .string ⟨#[]⟩, .string ⟨#[]⟩, .string ⟨#[]⟩, .bool false, .string ⟨#[]⟩, .int .u64 0, .int .i64 0, .string ⟨#[]⟩, .string ⟨#[]⟩, .int .i64 0, .bool false, .int .i64 0, .string ⟨#[]⟩, .int .i64 0, .int .i64 0] s2, TS W0 W g nr na 28 #[.int .i64 0, .int .i64 0, .int .u64 0, .int .u64 0, .int .i64 0, .string ⟨#[]⟩, .string ⟨#[]⟩, .string ⟨#[]⟩, .bool false, .string ⟨#[]⟩, .int .u64 0, .int .i64 0, .string ⟨#[]⟩, .string ⟨#[]⟩, .int .i64 0, .bool false, .int .i64 0, .string ⟨#[]⟩, .int .i64 0, .int .i64 0] s3, TS W0 W g nr na 28 #[.int .i64 0, .int .i64 0, .int .u64 0, .int .u64 0, .int .i64 0, .string ⟨#[]⟩, .string ⟨#[]⟩, .string ⟨#[]⟩, .bool false, .string ⟨#[]⟩, .int .u64 0, .int .i64 0, .string ⟨#[]⟩, .string ⟨#[]⟩, .int .i64 0, .bool false, .int .i64 0, .string ⟨#[]⟩, .int .i64 0, .int .i64 0] s4, TS W0 W g nr na 28 #[.int .i64 0, .int .i64 0, .int .u64 0, .int .u64 0, .int .i64 0, .string ⟨#[]⟩, .string ⟨#[]⟩, .string ⟨#[]⟩, .bool false, .string ⟨#[]⟩, .int .u64 0, .int .i64 0, .string ⟨#[]⟩, .string ⟨#[]⟩, .int .i64 0, .bool false, .int .i64 0, .string ⟨#[]⟩, .int .i64 0, .int .i64 0] s5, TS W0 W g nr na 28 #[.int .i64 0, .int .i64 0, .int .u64 0, .int .u64 0, .int .i64 0, .string ⟨#[]⟩, .string ⟨#[]⟩, .string ⟨#[]⟩, .bool false, .string ⟨#[]⟩, .int .u64 0, .int .i64 0, .string ⟨#[]⟩, .string ⟨#[]⟩, .int .i64 0, .bool false, .int .i64 0, .string ⟨#[]⟩, .int .i64 0, .int .i64 0] s6, TS W0 W g nr na 28 #[.int .i64 0, .int .i64 0, .int .u64 0, .int .u64 0, .int .i64 0, .string ⟨#[]⟩, .string ⟨#[]⟩, .string ⟨#[]⟩, .bool false, .string ⟨#[]⟩, .int .u64 0, .int .i64 0, .string ⟨#[]⟩, .string ⟨#[]⟩, .int .i64 0, .bool false, .int .i64 0, .string ⟨#[]⟩, .int .i64 0, .int .i64 0] s7, TS W0 W g nr na 28 #[.int .i64 0, .int .i64 0, .int .u64 0, .int .u64 0, .int .i64 0, .string ⟨#[]⟩, .string ⟨#[]⟩, .string ⟨#[]⟩, .bool false, .string ⟨#[]⟩, .int .u64 0, .int .i64 0, .string ⟨#[]⟩, .string ⟨#[]⟩, .int .i64 0, .bool false, .int .i64 0, .string ⟨#[]⟩, .int .i64 0, .int .i64 0] s8, TS W0 W g nr na 28 #[.int .i64 0, .int .i64 0, .int .u64 0, .int .u64 0, .int .i64 0, .string ⟨#[]⟩, .string ⟨#[]⟩, .string ⟨#[]⟩, .bool false, .string ⟨#[]⟩, .int .u64 0, .int .i64 0, .string ⟨#[]⟩, .string ⟨#[]⟩, .int .i64 0, .bool false, .int .i64 0, .string ⟨#[]⟩, .int .i64 0, .int .i64 0] s9, TS W0 W g nr na 28 #[.int .i64 0, .int .i64 0, .int .u64 0, .int .u64 0, .int .i64 0, .string ⟨#[]⟩, .string ⟨#[]⟩, .string ⟨#[]⟩, .bool false, .string ⟨#[]⟩, .int .u64 0, .int .i64 0, .string ⟨#[]⟩, .string ⟨#[]⟩, .int .i64 0, .bool false, .int .i64 0, .string ⟨#[]⟩, .int .i64 0, .int .i64 0] s10, TS W0 W g nr na 28 #[.int .i64 0, .int .i64 0, .int .u64 0, .int .u64 0, .int .i64 0, .string ⟨#[]⟩, .string ⟨#[]⟩, .string ⟨#[]⟩, .bool false, .string ⟨#[]⟩, .int .u64 0, .int .i64 0, .string ⟨#[]⟩, .string ⟨#[]⟩, .int .i64 0, .bool false, .int .i64 0, .string ⟨#[]⟩, .int .i64 0, .int .i64 0] s11, TS W0 W g nr na 28 #[.int .i64 (y0 : Int), .int .i64 (y1 : Int), .int .u64 (y2 : Int), .int .u64 (y3 : Int), .int .i64 (y4 : Int), .string (bstr y5), .string (bstr y6), .string (bstr y7), .bool y8, .string (bstr y9), .int .u64 (y10 : Int), .int .i64 (y11 : Int), .string (bstr y12), .string (bstr y13), .int .i64 (y14 : Int), .bool y15, .int .i64 (y16 : Int), .string (bstr y17), .int .i64 (y18 : Int), .int .i64 (y19 : Int)] s11] c w → Blk w W.heap.size 108 #[tk1 nr na, tk2 nr na, tk3 nr na] := SS.all (by
    intro p hp w hw
    simp only [List.mem_cons, List.not_mem_nil, or_false] at hp
    rcases hp with rfl | rfl | rfl | rfl | rfl | rfl | rfl | rfl | rfl | rfl | rfl | rfl | rfl <;> exact hw.bx)
  have HBX : Hid _ := hbx
  clear hbx h
  refine wp_seq (S := SS [TS W0 W g nr na 28 #[.int .i64 0, .int .i64 0, .int .u64 0, .int .u64 0, .int .i64 0, .string ⟨#[]⟩, .string ⟨#[]⟩, .string ⟨#[]⟩, .bool false, .string ⟨#[]⟩, .int .u64 0, .int .i64 0, .string ⟨#[]⟩, .string ⟨#[]⟩, .int .i64 0, .bool false, .int .i64 0, .string ⟨#[]⟩, .int .i64 0, .int .i64 0] s0, TS W0 W g nr na 28 #[.int .i64 0, .int .i64 0, .int .u64 0, .int .u64 0, .int .i64 0, .string ⟨#[]⟩, .string ⟨#[]⟩, .string ⟨#[]⟩, .bool false, .string ⟨#[]⟩, .int .u64 0, .int .i64 0, .string ⟨#[]⟩, .string ⟨#[]⟩, .int .i64 0, .bool false, .int .i64 0, .string ⟨#[]⟩, .int .i64 0, .int .i64 0] s1, TS W0 W g nr na 28 #[.int .i64 0, .int .i64 0, .int .u64 0, .int .u64 0, .int .i64 0, .string ⟨#[]⟩, .string ⟨#[]⟩, .string ⟨#[]⟩, .bool false, .string ⟨#[]⟩, .int .u64 0, .int .i64 0, .string ⟨#[]⟩, .string ⟨#[]⟩, .int .i64 0, .bool false, .int .i64 0, .string ⟨#[]⟩, .int .i64 0, .int .i64 0] s2, TS W0 W g nr na 28 #[.int .i64 0, .int .i64 0, .int .u64 0, .int .u64 0, .int .i64 0, .string ⟨#[]⟩, .string ⟨#[]⟩, .string ⟨#[]⟩, .bool false, .string ⟨#[]⟩, .int .u64 0, .int .i64 0, .string ⟨#[]⟩, .string ⟨#[]⟩, .int .i64 0, .bool false, .int .i64 0, .string ⟨#[]⟩, .int .i64 0, .int .i64 0] s3, TS W0 W g nr na 28 #[.int .i64 0, .int .i64 0, .int .u64 0, .int .u64 0, .int .i64 0, .string ⟨#[]⟩, .string ⟨#[]⟩, .string ⟨#[]⟩, .bool false, .string ⟨#[]⟩, .int .u64 0, .int .i64 0, .string ⟨#[]⟩, .string ⟨#[]⟩, .int .i64 0, .bool false, .int .i64 0, .string ⟨#[]⟩, .int .i64 0, .int .i64 0] s4, TS W0 W g nr na 28 #[.int .i64 0, .int .i64 0, .int .u64 0, .int .u64 0, .int .i64 0, .string ⟨#[]⟩, .string ⟨#[]⟩, .string ⟨#[]⟩, .bool false, .string ⟨#[]⟩, .int .u64 0, .int .i64 0, .string ⟨#[]⟩, .string ⟨#[]⟩, .int .i64 0, .bool false, .int .i64 0, .string ⟨#[]⟩, .int .i64 0, .int .i64 0] s5, TS W0 W g nr na 28 #[.int .i64 0, .int .i64 0, .int .u64 0, .int .u64 0, .int .i64 0, .string ⟨#[]⟩, .string ⟨#[]⟩, .string ⟨#[]⟩, .bool false, .string ⟨#[]⟩, .int .u64 0, .int .i64 0, .string ⟨#[]⟩, .string ⟨#[]⟩, .int .i64 0, .bool false, .int .i64 0, .string ⟨#[]⟩, .int .i64 0, .int .i64 0] s6, TS W0 W g nr na 28 #[.int .i64 0, .int .i64 0, .int .u64 0, .int .u64 0, .int .i64 0, .string ⟨#[]⟩, .string ⟨#[]⟩, .string ⟨#[]⟩, .bool false, .string ⟨#[]⟩, .int .u64 0, .int .i64 0, .string ⟨#[]⟩, .string ⟨#[]⟩, .int .i64 0, .bool false, .int .i64 0, .string ⟨#[]⟩, .int .i64 0, .int .i64 0] s7, TS W0 W g nr na 28 #[.int .i64 0, .int .i64 0, .int .u64 0, .int .u64 0, .int .i64 0, .string ⟨#[]⟩, .string ⟨#[]⟩, .string ⟨#[]⟩, .bool false, .string ⟨#[]⟩, .int .u64 0, .int .i64 0, .string ⟨#[]⟩, .string ⟨#[]⟩, .int .i64 0, .bool false, .int .i64 0, .string ⟨#[]⟩, .int .i64 0, .int .i64 0] s8, TS W0 W g nr na 28 #[.int .i64 0, .int .i64 0, .int .u64 0, .int .u64 0, .int .i64 0, .string ⟨#[]⟩, .string ⟨#[]⟩, .string ⟨#[]⟩, .bool false, .string ⟨#[]⟩, .int .u64 0, .int .i64 0, .string ⟨#[]⟩, .string ⟨#[]⟩, .int .i64 0, .bool false, .int .i64 0, .string ⟨#[]⟩, .int .i64 0, .int .i64 0] s9, TS W0 W g nr na 28 #[.int .i64 0, .int .i64 0, .int .u64 0, .int .u64 0, .int .i64 0, .string ⟨#[]⟩, .string ⟨#[]⟩, .string ⟨#[]⟩, .bool false, .string ⟨#[]⟩, .int .u64 0, .int .i64 0, .string ⟨#[]⟩, .string ⟨#[]⟩, .int .i64 0, .bool false, .int .i64 0, .string ⟨#[]⟩, .int .i64 0, .int .i64 0] s10, TS W0 W g nr na 28 #[.int .i64 0, .int .i64 0, .int .u64 0, .int .u64 0, .int .i64 0, .string ⟨#[]⟩, .string ⟨#[]⟩, .string ⟨#[]⟩, .bool false, .string ⟨#[]⟩, .int .u64 0, .int .i64 0, .string ⟨#[]⟩, .string ⟨#[]⟩, .int .i64 0, .bool false, .int .i64 0, .string ⟨#[]⟩, .int .i64 0, .int .i64 0] s11, TS W0 W g nr na 28 #[.int .i64 (y0 : Int), .int .i64 (y1 : Int), .int .u64 (y2 : Int), .int .u64 (y3 : Int), .int .i64 (y4 : Int), .string (bstr y5), .string (bstr y6), .string (bstr y7), .bool y8, .string (bstr y9), .int .u64 (y10 : Int), .int .i64 (y11 : Int), .string (bstr y12), .string (bstr y13), .int .i64 (y14 : Int), .bool y15, .int .i64 (y16 : Int), .string (bstr y17), .int .i64 (y18 : Int), .int .i64 (y19 : Int)] s11])
    (R := RR [tkV nr na,
      .int .i64 (y0 : Int),
      tkV nr na,
      .int .i64 (y1 : Int),
      tkV nr na,
      .int .u64 (y2 : Int),
      tkV nr na,
      .int .u64 (y3 : Int),
      tkV nr na,
      .agg #[.int .i64 (y4 : Int), .string (bstr y5), .string (bstr y6), .string (bstr y7), .bool y8, .string (bstr y9)],
      tkV nr na,
      .int .u64 (y10 : Int),
      tkV nr na,
      .int .i64 (y11 : Int),
      .pointer (some ⟨W.heap.size, 1, none⟩),
      tk2 nr na,
      .string (bstr y12),
      .pointer (some ⟨W.heap.size, 1, none⟩),
      tk2 nr na,
      .string (bstr y13),
      tkV nr na,
      .int .i64 (y14 : Int),
      tkV nr na,
      .agg #[.bool y15, .int .i64 (y16 : Int), .string (bstr y17), .int .i64 (y18 : Int), .int .i64 (y19 : Int)],
      .agg #[.int .i64 (y0 : Int), .int .i64 (y1 : Int), .int .u64 (y2 : Int), .int .u64 (y3 : Int), .int .i64 (y4 : Int), .string (bstr y5), .string (bstr y6), .string (bstr y7), .bool y8, .string (bstr y9), .int .u64 (y10 : Int), .int .i64 (y11 : Int), .string (bstr y12), .string (bstr y13), .int .i64 (y14 : Int), .bool y15, .int .i64 (y16 : Int), .string (bstr y17), .int .i64 (y18 : Int), .int .i64 (y19 : Int)],
      undef])
    (tm := [none, some 0, none, some 1, none, some 2, none, some 3, none, some 4, none, some 5, none, some 6, none, none, some 7, none, none, some 8, none, some 9, none, some 10, none, some 11]) (N := 12) (by kernel_rfl) (by kernel_rfl) hTS.drew ?_ ?_
  · refine ⟨?_, ?_, ?_, ?_, ?_, ?_, ?_, ?_, ?_, ?_, ?_, ?_, ?_, ?_, ?_, ?_, ?_, ?_, ?_, ?_, ?_, ?_, ?_, ?_, ?_, ?_, trivial⟩
    · intro c a w K hS ht hK
      have t1 : a.tmps.getD 1 undef = .pointer (some ⟨W.heap.size, 0, none⟩) := ht.1 1 (by kernel_rfl)
      exact wp_load_mid 108 _ rfl W.heap.size 0 t1 [tk1 nr na, tk2 nr na, tk3 nr na] _ (range_of_block (HBX.out c w hS) [] [tk1 nr na, tk2 nr na, tk3 nr na] [] rfl) Tryz.underlying108 rfl (by kernel_rfl) (hK _ rfl)
    · intro a w K hS ht hK
      have t1 : a.tmps.getD 3 undef = tkV nr na := ht.2 ⟨0, .data⟩ (by simp) rfl _ _ rfl rfl
      have hS : TS W0 W g nr na 28 #[.int .i64 0, .int .i64 0, .int .u64 0, .int .u64 0, .int .i64 0, .string ⟨#[]⟩, .string ⟨#[]⟩, .string ⟨#[]⟩, .bool false, .string ⟨#[]⟩, .int .u64 0, .int .i64 0, .string ⟨#[]⟩, .string ⟨#[]⟩, .int .i64 0, .bool false, .int .i64 0, .string ⟨#[]⟩, .int .i64 0, .int .i64 0] s0 w := hS
      go_simp
      refine (oIntT_any g nr na s0 W0 w hS.tk L0.out).mono ?_
      rintro e wf ⟨rfl, hT, hk⟩
      rw [Q0.out] at hT
      exact hK _ _ (hS.call hT hk) (congrArg Lit.toCell E0.out)
    · intro c a w K hS ht hK
      have t1 : a.tmps.getD 1 undef = .pointer (some ⟨W.heap.size, 0, none⟩) := ht.1 1 (by kernel_rfl)
      exact wp_load_mid 108 _ rfl W.heap.size 0 t1 [tk1 nr na, tk2 nr na, tk3 nr na] _ (range_of_block (HBX.out c w hS) [] [tk1 nr na, tk2 nr na, tk3 nr na] [] rfl) Tryz.underlying108 rfl (by kernel_rfl) (hK _ rfl)
    · intro a w K hS ht hK
      have t1 : a.tmps.getD 5 undef = tkV nr na := ht.2 ⟨2, .data⟩ (by simp) rfl _ _ rfl rfl
      have hS : TS W0 W g nr na 28 #[.int .i64 0, .int .i64 0, .int .u64 0, .int .u64 0, .int .i64 0, .string ⟨#[]⟩, .string ⟨#[]⟩, .string ⟨#[]⟩, .bool false, .string ⟨#[]⟩, .int .u64 0, .int .i64 0, .string ⟨#[]⟩, .string ⟨#[]⟩, .int .i64 0, .bool false, .int .i64 0, .string ⟨#[]⟩, .int .i64 0, .int .i64 0] s1 w := hS
      go_simp
      refine (oIntT_any g nr na s1 W0 w hS.tk L1.out).mono ?_
      rintro e wf ⟨rfl, hT, hk⟩
      rw [Q1.out] at hT
      exact hK _ _ (hS.call hT hk) (congrArg Lit.toCell E1.out)
    · intro c a w K hS ht hK
      have t1 : a.tmps.getD 1 undef = .pointer (some ⟨W.heap.size, 0, none⟩) := ht.1 1 (by kernel_rfl)
      exact wp_load_mid 108 _ rfl W.heap.size 0 t1 [tk1 nr na, tk2 nr na, tk3 nr na] _ (range_of_block (HBX.out c w hS) [] [tk1 nr na, tk2 nr na, tk3 nr na] [] rfl) Tryz.underlying108 rfl (by kernel_rfl) (hK _ rfl)
    · intro a w K hS ht hK
      have t1 : a.tmps.getD 7 undef = tkV nr na := ht.2 ⟨4, .data⟩ (by simp) rfl _ _ rfl rfl
      have hS : TS W0 W g nr na 28 #[.int .i64 0, .int .i64 0, .int .u64 0, .int .u64 0, .int .i64 0, .string ⟨#[]⟩, .string ⟨#[]⟩, .string ⟨#[]⟩, .bool false, .string ⟨#[]⟩, .int .u64 0, .int .i64 0, .string ⟨#[]⟩, .string ⟨#[]⟩, .int .i64 0, .bool false, .int .i64 0, .string ⟨#[]⟩, .int .i64 0, .int .i64 0] s2 w := hS
      go_simp
      refine (oUintT_any g nr na s2 W0 w hS.tk L2.out).mono ?_
      rintro e wf ⟨rfl, hT, hk⟩
      rw [Q2.out] at hT
      exact hK _ _ (hS.call hT hk) (congrArg Lit.toCell E2.out)
    · intro c a w K hS ht hK
      have t1 : a.tmps.getD 1 undef = .pointer (some ⟨W.heap.size, 0, none⟩) := ht.1 1 (by kernel_rfl)
      exact wp_load_mid 108 _ rfl W.heap.size 0 t1 [tk1 nr na, tk2 nr na, tk3 nr na] _ (range_of_block (HBX.out c w hS) [] [tk1 nr na, tk2 nr na, tk3 nr na] [] rfl) Tryz.underlying108 rfl (by kernel_rfl) (hK _ rfl)
    · intro a w K hS ht hK
      have t1 : a.tmps.getD 9 undef = tkV nr na := ht.2 ⟨6, .data⟩ (by simp) rfl _ _ rfl rfl
      have hS : TS W0 W g nr na 28 #[.int .i64 0, .int .i64 0, .int .u64 0, .int .u64 0, .int .i64 0, .string ⟨#[]⟩, .string ⟨#[]⟩, .string ⟨#[]⟩, .bool false, .string ⟨#[]⟩, .int .u64 0, .int .i64 0, .string ⟨#[]⟩, .string ⟨#[]⟩, .int .i64 0, .bool false, .int .i64 0, .string ⟨#[]⟩, .int .i64 0, .int .i64 0] s3 w := hS
      go_simp
      refine (oUintT_any g nr na s3 W0 w hS.tk L3.out).mono ?_
      rintro e wf ⟨rfl, hT, hk⟩
      rw [Q3.out] at hT
      exact hK _ _ (hS.call hT hk) (congrArg Lit.toCell E3.out)
    · intro c a w K hS ht hK
      have t1 : a.tmps.getD 1 undef = .pointer (some ⟨W.heap.size, 0, none⟩) := ht.1 1 (by kernel_rfl)
      exact wp_load_mid 108 _ rfl W.heap.size 0 t1 [tk1 nr na, tk2 nr na, tk3 nr na] _ (range_of_block (HBX.out c w hS) [] [tk1 nr na, tk2 nr na, tk3 nr na] [] rfl) Tryz.underlying108 rfl (by kernel_rfl) (hK _ rfl)
    · intro a w K hS ht hK
      have t1 : a.tmps.getD 11 undef = tkV nr na := ht.2 ⟨8, .data⟩ (by simp) rfl _ _ rfl rfl
      have hS : TS W0 W g nr na 28 #[.int .i64 0, .int .i64 0, .int .u64 0, .int .u64 0, .int .i64 0, .string ⟨#[]⟩, .string ⟨#[]⟩, .string ⟨#[]⟩, .bool false, .string ⟨#[]⟩, .int .u64 0, .int .i64 0, .string ⟨#[]⟩, .string ⟨#[]⟩, .int .i64 0, .bool false, .int .i64 0, .string ⟨#[]⟩, .int .i64 0, .int .i64 0] s4 w := hS
      go_simp
      refine (oTakOp_any g nr na s4 W0 w hS.tk L4.out).mono ?_
      rintro e wf ⟨rfl, hT, hk⟩
      rw [Q4.out] at hT
      exact hK _ _ (hS.call hT hk) (congrArg litsV E4.out)
    · intro c a w K hS ht hK
      have t1 : a.tmps.getD 1 undef = .pointer (some ⟨W.heap.size, 0, none⟩) := ht.1 1 (by kernel_rfl)
      exact wp_load_mid 108 _ rfl W.heap.size 0 t1 [tk1 nr na, tk2 nr na, tk3 nr na] _ (range_of_block (HBX.out c w hS) [] [tk1 nr na, tk2 nr na, tk3 nr na] [] rfl) Tryz.underlying108 rfl (by kernel_rfl) (hK _ rfl)
    · intro a w K hS ht hK
      have t1 : a.tmps.getD 13 undef = tkV nr na := ht.2 ⟨10, .data⟩ (by simp) rfl _ _ rfl rfl
      have hS : TS W0 W g nr na 28 #[.int .i64 0, .int .i64 0, .int .u64 0, .int .u64 0, .int .i64 0, .string ⟨#[]⟩, .string ⟨#[]⟩, .string ⟨#[]⟩, .bool false, .string ⟨#[]⟩, .int .u64 0, .int .i64 0, .string ⟨#[]⟩, .string ⟨#[]⟩, .int .i64 0, .bool false, .int .i64 0, .string ⟨#[]⟩, .int .i64 0, .int .i64 0] s5 w := hS
      go_simp
      refine (oUintT_any g nr na s5 W0 w hS.tk L5.out).mono ?_
      rintro e wf ⟨rfl, hT, hk⟩
      rw [Q5.out] at hT
      exact hK _ _ (hS.call hT hk) (congrArg Lit.toCell E5.out)
    · intro c a w K hS ht hK
      have t1 : a.tmps.getD 1 undef = .pointer (some ⟨W.heap.size, 0, none⟩) := ht.1 1 (by kernel_rfl)
      exact wp_load_mid 108 _ rfl W.heap.size 0 t1 [tk1 nr na, tk2 nr na, tk3 nr na] _ (range_of_block (HBX.out c w hS) [] [tk1 nr na, tk2 nr na, tk3 nr na] [] rfl) Tryz.underlying108 rfl (by kernel_rfl) (hK _ rfl)
    · intro a w K hS ht hK
      have t1 : a.tmps.getD 15 undef = tkV nr na := ht.2 ⟨12, .data⟩ (by simp) rfl _ _ rfl rfl
      have hS : TS W0 W g nr na 28 #[.int .i64 0, .int .i64 0, .int .u64 0, .int .u64 0, .int .i64 0, .string ⟨#[]⟩, .string ⟨#[]⟩, .string ⟨#[]⟩, .bool false, .string ⟨#[]⟩, .int .u64 0, .int .i64 0, .string ⟨#[]⟩, .string ⟨#[]⟩, .int .i64 0, .bool false, .int .i64 0, .string ⟨#[]⟩, .int .i64 0, .int .i64 0] s6 w := hS
      go_simp
      refine (oIntT_any g nr na s6 W0 w hS.tk L6.out).mono ?_
      rintro e wf ⟨rfl, hT, hk⟩
      rw [Q6.out] at hT
      exact hK _ _ (hS.call hT hk) (congrArg Lit.toCell E6.out)
    · intro c a w K hS ht hK
      have t1 : a.tmps.getD 1 undef = .pointer (some ⟨W.heap.size, 0, none⟩) := ht.1 1 (by kernel_rfl)
      go_simp
      exact hK _ rfl
    · intro c a w K hS ht hK
      have t1 : a.tmps.getD 17 undef = .pointer (some ⟨W.heap.size, 1, none⟩) := ht.2 ⟨14, .data⟩ (by simp) rfl _ _ rfl rfl
      have cc : w.cell? ⟨W.heap.size, 1, none⟩ = some (tk2 nr na) := (mcells (HBX.out c w hS)).1 1
      go_simp
      exact hK _ rfl
    · intro a w K hS ht hK
      have t1 : a.tmps.getD 18 undef = tk2 nr na := ht.2 ⟨15, .data⟩ (by simp) rfl _ _ rfl rfl
      have hS : TS W0 W g nr na 28 #[.int .i64 0, .int .i64 0, .int .u64 0, .int .u64 0, .int .i64 0, .string ⟨#[]⟩, .string ⟨#[]⟩, .string ⟨#[]⟩, .bool false, .string ⟨#[]⟩, .int .u64 0, .int .i64 0, .string ⟨#[]⟩, .string ⟨#[]⟩, .int .i64 0, .bool false, .int .i64 0, .string ⟨#[]⟩, .int .i64 0, .int .i64 0] s7 w := hS
      go_simp
      refine (oTextT_any g nr na s7 W0 w hS.tk L7.out).mono ?_
      rintro e wf ⟨rfl, hT, hk⟩
      rw [Q7.out] at hT
      exact hK _ _ (hS.call hT hk) (congrArg Lit.toCell E7.out)
    · intro c a w K hS ht hK
      have t1 : a.tmps.getD 1 undef = .pointer (some ⟨W.heap.size, 0, none⟩) := ht.1 1 (by kernel_rfl)
      go_simp
      exact hK _ rfl
    · intro c a w K hS ht hK
      have t1 : a.tmps.getD 20 undef = .pointer (some ⟨W.heap.size, 1, none⟩) := ht.2 ⟨17, .data⟩ (by simp) rfl _ _ rfl rfl
      have cc : w.cell? ⟨W.heap.size, 1, none⟩ = some (tk2 nr na) := (mcells (HBX.out c w hS)).1 1
      go_simp
      exact hK _ rfl
    · intro a w K hS ht hK
      have t1 : a.tmps.getD 21 undef = tk2 nr na := ht.2 ⟨18, .data⟩ (by simp) rfl _ _ rfl rfl
      have hS : TS W0 W g nr na 28 #[.int .i64 0, .int .i64 0, .int .u64 0, .int .u64 0, .int .i64 0, .string ⟨#[]⟩, .string ⟨#[]⟩, .string ⟨#[]⟩, .bool false, .string ⟨#[]⟩, .int .u64 0, .int .i64 0, .string ⟨#[]⟩, .string ⟨#[]⟩, .int .i64 0, .bool false, .int .i64 0, .string ⟨#[]⟩, .int .i64 0, .int .i64 0] s8 w := hS
      go_simp
      refine (oTextT_any g nr na s8 W0 w hS.tk L8.out).mono ?_
      rintro e wf ⟨rfl, hT, hk⟩
      rw [Q8.out] at hT
      exact hK _ _ (hS.call hT hk) (congrArg Lit.toCell E8.out)
    · intro c a w K hS ht hK
      have t1 : a.tmps.getD 1 undef = .pointer (some ⟨W.heap.size, 0, none⟩) := ht.1 1 (by kernel_rfl)
      exact wp_load_mid 108 _ rfl W.heap.size 0 t1 [tk1 nr na, tk2 nr na, tk3 nr na] _ (range_of_block (HBX.out c w hS) [] [tk1 nr na, tk2 nr na, tk3 nr na] [] rfl) Tryz.underlying108 rfl (by kernel_rfl) (hK _ rfl)
    · intro a w K hS ht hK
      have t1 : a.tmps.getD 23 undef = tkV nr na := ht.2 ⟨20, .data⟩ (by simp) rfl _ _ rfl rfl
      have hS : TS W0 W g nr na 28 #[.int .i64 0, .int .i64 0, .int .u64 0, .int .u64 0, .int .i64 0, .string ⟨#[]⟩, .string ⟨#[]⟩, .string ⟨#[]⟩, .bool false, .string ⟨#[]⟩, .int .u64 0, .int .i64 0, .string ⟨#[]⟩, .string ⟨#[]⟩, .int .i64 0, .bool false, .int .i64 0, .string ⟨#[]⟩, .int .i64 0, .int .i64 0] s9 w := hS
      go_simp
      refine (oIntT_any g nr na s9 W0 w hS.tk L9.out).mono ?_
      rintro e wf ⟨rfl, hT, hk⟩
      rw [Q9.out] at hT
      exact hK _ _ (hS.call hT hk) (congrArg Lit.toCell E9.out)
    · intro c a w K hS ht hK
      have t1 : a.tmps.getD 1 undef = .pointer (some ⟨W.heap.size, 0, none⟩) := ht.1 1 (by kernel_rfl)
      exact wp_load_mid 108 _ rfl W.heap.size 0 t1 [tk1 nr na, tk2 nr na, tk3 nr na] _ (range_of_block (HBX.out c w hS) [] [tk1 nr na, tk2 nr na, tk3 nr na] [] rfl) Tryz.underlying108 rfl (by kernel_rfl) (hK _ rfl)
    · intro a w K hS ht hK
      have t1 : a.tmps.getD 25 undef = tkV nr na := ht.2 ⟨22, .data⟩ (by simp) rfl _ _ rfl rfl
      have hS : TS W0 W g nr na 28 #[.int .i64 0, .int .i64 0, .int .u64 0, .int .u64 0, .int .i64 0, .string ⟨#[]⟩, .string ⟨#[]⟩, .string ⟨#[]⟩, .bool false, .string ⟨#[]⟩, .int .u64 0, .int .i64 0, .string ⟨#[]⟩, .string ⟨#[]⟩, .int .i64 0, .bool false, .int .i64 0, .string ⟨#[]⟩, .int .i64 0, .int .i64 0] s10 w := hS
      go_simp
      refine (oTakWant_any g nr na s10 W0 w hS.tk L10.out).mono ?_
      rintro e wf ⟨rfl, hT, hk⟩
      rw [Q10.out] at hT
      exact hK _ _ (hS.call hT hk) (congrArg litsV E10.out)
    · intro c a w K hS ht hK
      have t4 : a.tmps.getD 4 undef = .int .i64 (y0 : Int) := ht.2 ⟨1, .data⟩ (by simp) rfl _ _ rfl rfl
      have t6 : a.tmps.getD 6 undef = .int .i64 (y1 : Int) := ht.2 ⟨3, .data⟩ (by simp) rfl _ _ rfl rfl
      have t8 : a.tmps.getD 8 undef = .int .u64 (y2 : Int) := ht.2 ⟨5, .data⟩ (by simp) rfl _ _ rfl rfl
      have t10 : a.tmps.getD 10 undef = .int .u64 (y3 : Int) := ht.2 ⟨7, .data⟩ (by simp) rfl _ _ rfl rfl
      have t12 : a.tmps.getD 12 undef = .agg #[.int .i64 (y4 : Int), .string (bstr y5), .string (bstr y6), .string (bstr y7), .bool y8, .string (bstr y9)] := ht.2 ⟨9, .data⟩ (by simp) rfl _ _ rfl rfl
      have t14 : a.tmps.getD 14 undef = .int .u64 (y10 : Int) := ht.2 ⟨11, .data⟩ (by simp) rfl _ _ rfl rfl
      have t16 : a.tmps.getD 16 undef = .int .i64 (y11 : Int) := ht.2 ⟨13, .data⟩ (by simp) rfl _ _ rfl rfl
      have t19 : a.tmps.getD 19 undef = .string (bstr y12) := ht.2 ⟨16, .data⟩ (by simp) rfl _ _ rfl rfl
      have t22 : a.tmps.getD 22 undef = .string (bstr y13) := ht.2 ⟨19, .data⟩ (by simp) rfl _ _ rfl rfl
      have t24 : a.tmps.getD 24 undef = .int .i64 (y14 : Int) := ht.2 ⟨21, .data⟩ (by simp) rfl _ _ rfl rfl
      have t26 : a.tmps.getD 26 undef = .agg #[.bool y15, .int .i64 (y16 : Int), .string (bstr y17), .int .i64 (y18 : Int), .int .i64 (y19 : Int)] := ht.2 ⟨23, .data⟩ (by simp) rfl _ _ rfl rfl
      rw [Array.getD_eq_getD_getElem?] at t4 t6 t8 t10 t12 t14 t16 t19 t22 t24 t26
      go_simp
      exact hK _ rfl
    · intro a w K hS ht hK
      have t1 : a.tmps.getD 2 undef = .pointer (some ⟨W.heap.size + 1, 0, none⟩) := ht.1 2 (by kernel_rfl)
      have t2 : a.tmps.getD 27 undef = .agg #[.int .i64 (y0 : Int), .int .i64 (y1 : Int), .int .u64 (y2 : Int), .int .u64 (y3 : Int), .int .i64 (y4 : Int), .string (bstr y5), .string (bstr y6), .string (bstr y7), .bool y8, .string (bstr y9), .int .u64 (y10 : Int), .int .i64 (y11 : Int), .string (bstr y12), .string (bstr y13), .int .i64 (y14 : Int), .bool y15, .int .i64 (y16 : Int), .string (bstr y17), .int .i64 (y18 : Int), .int .i64 (y19 : Int)] := ht.2 ⟨24, .data⟩ (by simp) rfl _ _ rfl rfl
      have hS : TS W0 W g nr na 28 #[.int .i64 0, .int .i64 0, .int .u64 0, .int .u64 0, .int .i64 0, .string ⟨#[]⟩, .string ⟨#[]⟩, .string ⟨#[]⟩, .bool false, .string ⟨#[]⟩, .int .u64 0, .int .i64 0, .string ⟨#[]⟩, .string ⟨#[]⟩, .int .i64 0, .bool false, .int .i64 0, .string ⟨#[]⟩, .int .i64 0, .int .i64 0] s11 w := hS
      exact wp_store_mid 28 _ _ rfl (W.heap.size + 1) 0 #[.int .i64 (y0 : Int), .int .i64 (y1 : Int), .int .u64 (y2 : Int), .int .u64 (y3 : Int), .int .i64 (y4 : Int), .string (bstr y5), .string (bstr y6), .string (bstr y7), .bool y8, .string (bstr y9), .int .u64 (y10 : Int), .int .i64 (y11 : Int), .string (bstr y12), .string (bstr y13), .int .i64 (y14 : Int), .bool y15, .int .i64 (y16 : Int), .string (bstr y17), .int .i64 (y18 : Int), .int .i64 (y19 : Int)] t1 t2 (blk_there hS.rs rfl) (by kernel_rfl) (by kernel_rfl) (hK undef _ (hS.set [.int .i64 (y0 : Int), .int .i64 (y1 : Int), .int .u64 (y2 : Int), .int .u64 (y3 : Int), .int .i64 (y4 : Int), .string (bstr y5), .string (bstr y6), .string (bstr y7), .bool y8, .string (bstr y9), .int .u64 (y10 : Int), .int .i64 (y11 : Int), .string (bstr y12), .string (bstr y13), .int .i64 (y14 : Int), .bool y15, .int .i64 (y16 : Int), .string (bstr y17), .int .i64 (y18 : Int), .int .i64 (y19 : Int)] rfl) rfl)
  · intro a' w' hS hdf hts hold hnew
    have hS : TS W0 W g nr na 28 #[.int .i64 (y0 : Int), .int .i64 (y1 : Int), .int .u64 (y2 : Int), .int .u64 (y3 : Int), .int .i64 (y4 : Int), .string (bstr y5), .string (bstr y6), .string (bstr y7), .bool y8, .string (bstr y9), .int .u64 (y10 : Int), .int .i64 (y11 : Int), .string (bstr y12), .string (bstr y13), .int .i64 (y14 : Int), .bool y15, .int .i64 (y16 : Int), .string (bstr y17), .int .i64 (y18 : Int), .int .i64 (y19 : Int)] s11 w' := hS
    have t2 : a'.tmps.getD 2 undef = .pointer (some ⟨W.heap.size + 1, 0, none⟩) := hold 2 (by kernel_rfl)
    obtain ⟨t, d⟩ := a'
    obtain rfl : d = [] := hdf
    simp only at t2
    clear hold hnew hts
    go_wp2
    exact ret_cells (cs := [.int .i64 (y0 : Int), .int .i64 (y1 : Int), .int .u64 (y2 : Int), .int .u64 (y3 : Int), .int .i64 (y4 : Int), .string (bstr y5), .string (bstr y6), .string (bstr y7), .bool y8, .string (bstr y9), .int .u64 (y10 : Int), .int .i64 (y11 : Int), .string (bstr y12), .string (bstr y13), .int .i64 (y14 : Int), .bool y15, .int .i64 (y16 : Int), .string (bstr y17), .int .i64 (y18 : Int), .int .i64 (y19 : Int)]) rfl Tryz.underlying28 rfl (by kernel_rfl) t2 hS.rs rfl ⟨rfl, hS.tk, hS.kt⟩

end Go.Proofs.YtbdbefgfejdbjaaGreat
