/-
  Told taken: written by mkotak.py.
  A message's value; where the taker stands behind it.
-/
import Derived.Test.YtbdbefgfejdbjaaGreatGOMod
import Derived.Test.YtbdbefgfejdbjaaGreatGOTakEs
import Derived.Test.YtbdbefgfejdbjaaGreatOTakBase
import Derived.Test.YtbdbefgfejdbjaaGreatOTakReq
import Derived.Test.YtbdbefgfejdbjaaGreatGOTakRep
import Derived.Test.YtbdbefgfejdbjaaGreatOTakAsk
namespace Go.Proofs.YtbdbefgfejdbjaaGreat
open Go.RowKit Go.BigFrame
attribute [local go_sem] size_bstr toList_bstr

set_option maxHeartbeats 8000000 in
set_option maxRecDepth 100000 in
theorem oTakTold_any (g nr na : Nat) (s : Ps) (W0 W : World) (h : Tk W0 g nr na s.a s.l W) (hl : s.l.length ≤ 1048576) :
    Calls Tryz.prog 107 #[tkV nr na] W fun e W' => e = .returned (litsV (takVs toldK s)) ∧ Tk W0 g nr na (takSs toldK s).a (takSs toldK s).l W' ∧ Kt g na W W' := by
  obtain ⟨s0, hs0⟩ : ∃ s0, s0 = s := ⟨_, rfl⟩
  rw [← hs0] at h hl ⊢
  clear hs0
  obtain ⟨s1, s2, s3, s4, s5, y0, y1, y2, y3, y4, q0, q1, q2, q3, q4, hS, hV, e0, e1, e2, e3, e4⟩ : ∃ (s1 s2 s3 s4 s5 : Ps) (y0 : Nat) (y1 : Nat) (y2 : Nat) (y3 : Nat) (y4 : Int), takS .I s0 = s1 ∧ takS .U s1 = s2 ∧ takS .I s2 = s3 ∧ takS .I s3 = s4 ∧ takS .G s4 = s5 ∧ takSs toldK s0 = s5 ∧ takVs toldK s0 = [.int .i64 (y0 : Int), .int .u64 (y1 : Int), .int .i64 (y2 : Int), .int .i64 (y3 : Int), .int .i64 y4] ∧ takV .I s0 = .int .i64 (y0 : Int) ∧ takV .U s1 = .int .u64 (y1 : Int) ∧ takV .I s2 = .int .i64 (y2 : Int) ∧ takV .I s3 = .int .i64 (y3 : Int) ∧ takV .G s4 = .int .i64 y4 :=
    ⟨_, _, _, _, _, _, _, _, _, _, rfl, rfl, rfl, rfl, rfl, rfl, rfl, rfl, rfl, rfl, rfl, rfl⟩
  rw [hS, hV]
  have L0 : Hid (s0.l.length ≤ 1048576) := hl
  have L1 : Hid (s1.l.length ≤ 1048576) := by show _ ≤ _; rw [← q0]; exact Nat.le_trans (takS_len _ _) L0.out
  have L2 : Hid (s2.l.length ≤ 1048576) := by show _ ≤ _; rw [← q1]; exact Nat.le_trans (takS_len _ _) L1.out
  have L3 : Hid (s3.l.length ≤ 1048576) := by show _ ≤ _; rw [← q2]; exact Nat.le_trans (takS_len _ _) L2.out
  have L4 : Hid (s4.l.length ≤ 1048576) := by show _ ≤ _; rw [← q3]; exact Nat.le_trans (takS_len _ _) L3.out
  have L5 : Hid (s5.l.length ≤ 1048576) := by show _ ≤ _; rw [← q4]; exact Nat.le_trans (takS_len _ _) L4.out
  have Q0 : Hid _ := q0
  have E0 : Hid _ := e0
  have Q1 : Hid _ := q1
  have E1 : Hid _ := e1
  have Q2 : Hid _ := q2
  have E2 : Hid _ := e2
  have Q3 : Hid _ := q3
  have E3 : Hid _ := e3
  have Q4 : Hid _ := q4
  have E4 : Hid _ := e4
  clear hS hV hl q0 q1 q2 q3 q4 e0 e1 e2 e3 e4
  have hTS := TS.start (t := 59) (zs := #[.int .i64 0, .int .u64 0, .int .i64 0, .int .i64 0, .int .i64 0]) h
  go_enter Tryz.func107, Tryz.ntmps107
  go_upto_region 1 with fail
  generalize (W.alloc (.cells #[tk1 nr na, tk2 nr na, tk3 nr na] 108)).alloc (.cells #[.int .i64 0, .int .u64 0, .int .i64 0, .int .i64 0, .int .i64 0] 59) = w1 at *
  have hbx : ∀ c w, SS [TS W0 W g nr na 59 #[.int .i64 0, .int .u64 0, .int .i64 0, .int .i64 0, .int .i64 0] s0, TS W0 W g nr na 59 #[.int .i64 0, .int .u64 0, .int .i64 0, .int .i64 0, .int .i64 0] s1, TS W0 W g nr na 59 #[.int .i64 0, .int .u64 0, .int .i64 0, .int .i64 0, .int .i64 0] s2, TS W0 W g nr na 59 #[.int .i64 0, .int .u64 0, .int .i64 0, .int .i64 0, .int .i64 0] s3, TS W0 W g nr na 59 #[.int .i64 0, .int .u64 0, .int .i64 0, .int .i64 0, .int .i64 0] s4, TS W0 W g nr na 59 #[.int .i64 0, .int .u64 0, .int .i64 0, .int .i64 0, .int .i64 0] s5, TS W0 W g nr na 59 #[.int .i64 (y0 : Int), .int .u64 (y1 : Int), .int .i64 (y2 : Int), .int .i64 (y3 : Int), .int .i64 y4] s5] c w → Blk w W.heap.size 108 #[tk1 nr na, tk2 nr na, tk3 nr na] := SS.all (by
    intro p hp w hw
    simp only [List.mem_cons, List.not_mem_nil, or_false] at hp
    rcases hp with rfl | rfl | rfl | rfl | rfl | rfl | rfl <;> exact hw.bx)
  have HBX : Hid _ := hbx
  clear hbx h
  refine wp_seq (S := SS [TS W0 W g nr na 59 #[.int .i64 0, .int .u64 0, .int .i64 0, .int .i64 0, .int .i64 0] s0, TS W0 W g nr na 59 #[.int .i64 0, .int .u64 0, .int .i64 0, .int .i64 0, .int .i64 0] s1, TS W0 W g nr na 59 #[.int .i64 0, .int .u64 0, .int .i64 0, .int .i64 0, .int .i64 0] s2, TS W0 W g nr na 59 #[.int .i64 0, .int .u64 0, .int .i64 0, .int .i64 0, .int .i64 0] s3, TS W0 W g nr na 59 #[.int .i64 0, .int .u64 0, .int .i64 0, .int .i64 0, .int .i64 0] s4, TS W0 W g nr na 59 #[.int .i64 0, .int .u64 0, .int .i64 0, .int .i64 0, .int .i64 0] s5, TS W0 W g nr na 59 #[.int .i64 (y0 : Int), .int .u64 (y1 : Int), .int .i64 (y2 : Int), .int .i64 (y3 : Int), .int .i64 y4] s5])
    (R := RR [tkV nr na,
      .int .i64 (y0 : Int),
      tkV nr na,
      .int .u64 (y1 : Int),
      tkV nr na,
      .int .i64 (y2 : Int),
      tkV nr na,
      .int .i64 (y3 : Int),
      tkV nr na,
      .int .i64 y4,
      .agg #[.int .i64 (y0 : Int), .int .u64 (y1 : Int), .int .i64 (y2 : Int), .int .i64 (y3 : Int), .int .i64 y4],
      undef])
    (tm := [none, some 0, none, some 1, none, some 2, none, some 3, none, some 4, none, some 5]) (N := 6) (by kernel_rfl) (by kernel_rfl) hTS.drew ?_ ?_
  · refine ⟨?_, ?_, ?_, ?_, ?_, ?_, ?_, ?_, ?_, ?_, ?_, ?_, trivial⟩
    · intro c a w K hS ht hK
      have t1 : a.tmps.getD 1 undef = .pointer (some ⟨W.heap.size, 0, none⟩) := ht.1 1 (by kernel_rfl)
      exact wp_load_mid 108 _ rfl W.heap.size 0 t1 [tk1 nr na, tk2 nr na, tk3 nr na] _ (range_of_block (HBX.out c w hS) [] [tk1 nr na, tk2 nr na, tk3 nr na] [] rfl) Tryz.underlying108 rfl (by kernel_rfl) (hK _ rfl)
    · intro a w K hS ht hK
      have t1 : a.tmps.getD 3 undef = tkV nr na := ht.2 ⟨0, .data⟩ (by simp) rfl _ _ rfl rfl
      have hS : TS W0 W g nr na 59 #[.int .i64 0, .int .u64 0, .int .i64 0, .int .i64 0, .int .i64 0] s0 w := hS
      go_simp
      refine (oIntT_any g nr na s0 W0 w hS.tk L0.out).mono ?_
      rintro e wf ⟨rfl, hT, hk⟩
      rw [Q0.out] at hT
      exact hK _ _ (hS.call hT hk) (congrArg Lit.toCell E0.out)
    · intro c a w K hS ht hK
      have t1 : a.tmps.getD 1 undef = .pointer (some ⟨W.heap.size, 0, none⟩) := ht.1 1 (by kernel_rfl)
      exact wp_load_mid 108 _ rfl W.heap.size 0 t1 [tk1 nr na, tk2 nr na, tk3 nr na] _ (range_of_block (HBX.out c w hS) [] [tk1 nr na, tk2 nr na, tk3 nr na] [] rfl) Tryz.underlying108 rfl (by kernel_rfl) (hK _ rfl)
    · intro a w K hS ht hK
      have t1 : a.tmps.getD 5 undef = tkV nr na := ht.2 ⟨2, .data⟩ (by simp) rfl _ _ rfl rfl
      have hS : TS W0 W g nr na 59 #[.int .i64 0, .int .u64 0, .int .i64 0, .int .i64 0, .int .i64 0] s1 w := hS
      go_simp
      refine (oUintT_any g nr na s1 W0 w hS.tk L1.out).mono ?_
      rintro e wf ⟨rfl, hT, hk⟩
      rw [Q1.out] at hT
      exact hK _ _ (hS.call hT hk) (congrArg Lit.toCell E1.out)
    · intro c a w K hS ht hK
      have t1 : a.tmps.getD 1 undef = .pointer (some ⟨W.heap.size, 0, none⟩) := ht.1 1 (by kernel_rfl)
      exact wp_load_mid 108 _ rfl W.heap.size 0 t1 [tk1 nr na, tk2 nr na, tk3 nr na] _ (range_of_block (HBX.out c w hS) [] [tk1 nr na, tk2 nr na, tk3 nr na] [] rfl) Tryz.underlying108 rfl (by kernel_rfl) (hK _ rfl)
    · intro a w K hS ht hK
      have t1 : a.tmps.getD 7 undef = tkV nr na := ht.2 ⟨4, .data⟩ (by simp) rfl _ _ rfl rfl
      have hS : TS W0 W g nr na 59 #[.int .i64 0, .int .u64 0, .int .i64 0, .int .i64 0, .int .i64 0] s2 w := hS
      go_simp
      refine (oIntT_any g nr na s2 W0 w hS.tk L2.out).mono ?_
      rintro e wf ⟨rfl, hT, hk⟩
      rw [Q2.out] at hT
      exact hK _ _ (hS.call hT hk) (congrArg Lit.toCell E2.out)
    · intro c a w K hS ht hK
      have t1 : a.tmps.getD 1 undef = .pointer (some ⟨W.heap.size, 0, none⟩) := ht.1 1 (by kernel_rfl)
      exact wp_load_mid 108 _ rfl W.heap.size 0 t1 [tk1 nr na, tk2 nr na, tk3 nr na] _ (range_of_block (HBX.out c w hS) [] [tk1 nr na, tk2 nr na, tk3 nr na] [] rfl) Tryz.underlying108 rfl (by kernel_rfl) (hK _ rfl)
    · intro a w K hS ht hK
      have t1 : a.tmps.getD 9 undef = tkV nr na := ht.2 ⟨6, .data⟩ (by simp) rfl _ _ rfl rfl
      have hS : TS W0 W g nr na 59 #[.int .i64 0, .int .u64 0, .int .i64 0, .int .i64 0, .int .i64 0] s3 w := hS
      go_simp
      refine (oErrnoT_any g nr na s3 W0 w hS.tk L3.out).mono ?_
      rintro e wf ⟨rfl, hT, hk⟩
      rw [Q3.out] at hT
      exact hK _ _ (hS.call hT hk) (congrArg Lit.toCell E3.out)
    · intro c a w K hS ht hK
      have t1 : a.tmps.getD 1 undef = .pointer (some ⟨W.heap.size, 0, none⟩) := ht.1 1 (by kernel_rfl)
      exact wp_load_mid 108 _ rfl W.heap.size 0 t1 [tk1 nr na, tk2 nr na, tk3 nr na] _ (range_of_block (HBX.out c w hS) [] [tk1 nr na, tk2 nr na, tk3 nr na] [] rfl) Tryz.underlying108 rfl (by kernel_rfl) (hK _ rfl)
    · intro a w K hS ht hK
      have t1 : a.tmps.getD 11 undef = tkV nr na := ht.2 ⟨8, .data⟩ (by simp) rfl _ _ rfl rfl
      have hS : TS W0 W g nr na 59 #[.int .i64 0, .int .u64 0, .int .i64 0, .int .i64 0, .int .i64 0] s4 w := hS
      go_simp
      refine (oSignT_any g nr na s4 W0 w hS.tk L4.out).mono ?_
      rintro e wf ⟨rfl, hT, hk⟩
      rw [Q4.out] at hT
      exact hK _ _ (hS.call hT hk) (congrArg Lit.toCell E4.out)
    · intro c a w K hS ht hK
      have t4 : a.tmps.getD 4 undef = .int .i64 (y0 : Int) := ht.2 ⟨1, .data⟩ (by simp) rfl _ _ rfl rfl
      have t6 : a.tmps.getD 6 undef = .int .u64 (y1 : Int) := ht.2 ⟨3, .data⟩ (by simp) rfl _ _ rfl rfl
      have t8 : a.tmps.getD 8 undef = .int .i64 (y2 : Int) := ht.2 ⟨5, .data⟩ (by simp) rfl _ _ rfl rfl
      have t10 : a.tmps.getD 10 undef = .int .i64 (y3 : Int) := ht.2 ⟨7, .data⟩ (by simp) rfl _ _ rfl rfl
      have t12 : a.tmps.getD 12 undef = .int .i64 y4 := ht.2 ⟨9, .data⟩ (by simp) rfl _ _ rfl rfl
      rw [Array.getD_eq_getD_getElem?] at t4 t6 t8 t10 t12
      go_simp
      exact hK _ rfl
    · intro a w K hS ht hK
      have t1 : a.tmps.getD 2 undef = .pointer (some ⟨W.heap.size + 1, 0, none⟩) := ht.1 2 (by kernel_rfl)
      have t2 : a.tmps.getD 13 undef = .agg #[.int .i64 (y0 : Int), .int .u64 (y1 : Int), .int .i64 (y2 : Int), .int .i64 (y3 : Int), .int .i64 y4] := ht.2 ⟨10, .data⟩ (by simp) rfl _ _ rfl rfl
      have hS : TS W0 W g nr na 59 #[.int .i64 0, .int .u64 0, .int .i64 0, .int .i64 0, .int .i64 0] s5 w := hS
      exact wp_store_mid 59 _ _ rfl (W.heap.size + 1) 0 #[.int .i64 (y0 : Int), .int .u64 (y1 : Int), .int .i64 (y2 : Int), .int .i64 (y3 : Int), .int .i64 y4] t1 t2 (blk_there hS.rs rfl) (by kernel_rfl) (by kernel_rfl) (hK undef _ (hS.set [.int .i64 (y0 : Int), .int .u64 (y1 : Int), .int .i64 (y2 : Int), .int .i64 (y3 : Int), .int .i64 y4] rfl) rfl)
  · intro a' w' hS hdf hts hold hnew
    have hS : TS W0 W g nr na 59 #[.int .i64 (y0 : Int), .int .u64 (y1 : Int), .int .i64 (y2 : Int), .int .i64 (y3 : Int), .int .i64 y4] s5 w' := hS
    have t2 : a'.tmps.getD 2 undef = .pointer (some ⟨W.heap.size + 1, 0, none⟩) := hold 2 (by kernel_rfl)
    obtain ⟨t, d⟩ := a'
    obtain rfl : d = [] := hdf
    simp only at t2
    clear hold hnew hts
    go_wp2
    exact ret_cells (cs := [.int .i64 (y0 : Int), .int .u64 (y1 : Int), .int .i64 (y2 : Int), .int .i64 (y3 : Int), .int .i64 y4]) rfl Tryz.underlying59 rfl (by kernel_rfl) t2 hS.rs rfl ⟨rfl, hS.tk, hS.kt⟩

end Go.Proofs.YtbdbefgfejdbjaaGreat

namespace Go.Proofs.YtbdbefgfejdbjaaGreat
open Go.RowKit Go.BigFrame

def msgC (hd : List Lit) (q : Option Addr) (cap : Nat) (es : List En) (b : List Lit) (q2 : Option Addr) (cap2 : Nat) (mem : List Int) (tl : List Lit) : List Value :=
  hd.map Lit.toCell ++ (.slice q es.length cap :: (b.map Lit.toCell ++ (.slice q2 mem.length cap2 :: tl.map Lit.toCell)))
def msgV (hd : List Lit) (q : Option Addr) (cap : Nat) (es : List En) (b : List Lit) (q2 : Option Addr) (cap2 : Nat) (mem : List Int) (tl : List Lit) : Value := .agg (msgC hd q cap es b q2 cap2 mem tl).toArray
def msgE (s : Ps) : Ps := takSs tailK (memE (takSs baseK (entsE (takSs msgK s))))
theorem msgE_len (s : Ps) : (msgE s).l.length ≤ s.l.length :=
  Nat.le_trans (takSs_len _ _) (Nat.le_trans (memE_len _) (Nat.le_trans (takSs_len _ _) (Nat.le_trans (entsE_len _) (takSs_len _ _))))

end Go.Proofs.YtbdbefgfejdbjaaGreat
