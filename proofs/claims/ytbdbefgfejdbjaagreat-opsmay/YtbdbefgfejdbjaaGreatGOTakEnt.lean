/-
  Members taken.
  Entry taken: written by mkotakg.py.
-/
import Derived.Test.YtbdbefgfejdbjaaGreatGORSm
import Derived.Test.YtbdbefgfejdbjaaGreatOSeqG
import Derived.Test.YtbdbefgfejdbjaaGreatGOTakCmd
namespace Go.Proofs.YtbdbefgfejdbjaaGreat
open Go.RowKit Go.BigFrame
attribute [local go_sem] size_bstr toList_bstr

abbrev memI (s : Ps) : List Int := memL (memN s) (memS0 s)
abbrev memE (s : Ps) : Ps := memSt (memN s) (memS0 s)
theorem memE_len (s : Ps) : (memE s).l.length ≤ s.l.length := Nat.le_trans (memSt_len _ _) (rest_len s.l)
theorem INew.mono {w : World} {A B : Nat} {q : Option Addr} {l : List Int} (h : INew w B q l) (hA : A ≤ B) : INew w A q l := fun h0 => by
  obtain ⟨b, cur, e, hb, hr⟩ := h h0
  exact ⟨b, cur, e, Nat.le_trans hA hb, hr⟩
theorem INew.cells {b B : Nat} {q : Option Addr} {l : List Int} (hb : b < B) : ∀ (vs : List Value) (o : Nat) {w : World}, INew w B q l → INew (w.setCells b o vs) B q l
  | [], _, _, h => h
  | v :: r, o, _, h => INew.cells hb r (o + 1) (h.blocks fun c _ hc _ => heap_set_other v (by omega))
theorem TS.two {W0 W w : World} {g nr na : Nat} {t : TypeId} {zs : Array Value} {s : Ps} (h : TS W0 W g nr na t zs s w) : W.heap.size + 2 ≤ w.heap.size := blk_lt h.rs
/-- What the operations have yielded, by the ghost. -/
def RG {Γ : Type} (l : List (Γ → Value → Prop)) (γ : Γ) (j : Nat) (v : Value) : Prop := (l.getD j fun _ _ => True) γ v
theorem RG.mono {Γ : Type} {l : List (Γ → Value → Prop)} {γ γ' : Γ} (h : ∀ p ∈ l, ∀ u, p γ u → p γ' u) : ∀ j u, RG l γ j u → RG l γ' j u := by
  intro j u hr
  unfold RG at hr ⊢
  rw [List.getD_eq_getElem?_getD] at hr ⊢
  cases he : l[j]? with
  | none => trivial
  | some p =>
    rw [he] at hr
    exact h p (List.mem_of_getElem? he) u hr

set_option maxHeartbeats 2000000 in
theorem oTakMembers_any (g nr na : Nat) (s : Ps) (W0 W : World) (h : Tk W0 g nr na s.a s.l W) (hl : s.l.length ≤ 1048576) :
    Calls Tryz.prog 109 #[tkV nr na] W fun e W' => ∃ q cap, e = .returned (.slice q (memN s) cap) ∧ INew W' W.heap.size q (memI s) ∧ Tk W0 g nr na (memE s).a (memE s).l W' ∧ Kt g na W W' := by
  have hT0 := h.step ((Below.refl W.heap.size W).alloc (Nat.le_refl _) (.cells #[tk1 nr na, tk2 nr na, tk3 nr na] 108))
  have hk0 : Kt g na W (W.alloc (.cells #[tk1 nr na, tk2 nr na, tk3 nr na] 108)) := Kt.below ((Below.refl _ _).alloc (Nat.le_refl _) _)
  have hsz : W.heap.size ≤ (W.alloc (.cells #[tk1 nr na, tk2 nr na, tk3 nr na] 108)).heap.size := by simp
  have HSZ : Hid _ := hsz
  have HK : Hid _ := hk0
  clear hsz hk0
  go_enter Tryz.func109, Tryz.ntmps109
  go_wp2_with fail
  refine (oTakInts_any g nr na 5 s W0 _ hT0 hl (by decide)).mono ?_
  rintro e w1 ⟨q, cap, rfl, hn, hT, hk⟩
  have hn' := hn.mono HSZ.out
  have hk' := Kt.trans HK.out hk
  clear hn hk hT0 h HSZ HK
  go_wp2
  go_ret
  exact ⟨q, cap, rfl, hn', hT, hk'⟩

end Go.Proofs.YtbdbefgfejdbjaaGreat

namespace Go.Proofs.YtbdbefgfejdbjaaGreat
open Go.RowKit Go.BigFrame
attribute [local go_sem] size_bstr toList_bstr

/-- What it answers. -/
def oTakEntryQ (g nr na : Nat) (s : Ps) (W0 W : World) (e : Ending) (W' : World) : Prop := ∃ q cap, e = .returned (.agg ((takVs entK s).map Lit.toCell ++ [Value.slice q (memN (takSs entK s)) cap]).toArray) ∧ INew W' W.heap.size q (memI (takSs entK s)) ∧ Tk W0 g nr na (memE (takSs entK s)).a (memE (takSs entK s)).l W' ∧ Kt g na W W'
set_option maxHeartbeats 16000000 in
set_option maxRecDepth 100000 in
theorem oTakEntry_any (g nr na : Nat) (s : Ps) (W0 W : World) (h : Tk W0 g nr na s.a s.l W) (hl : s.l.length ≤ 1048576) :
    Calls Tryz.prog 69 #[tkV nr na] W (oTakEntryQ g nr na s W0 W) := by
  obtain ⟨s0, hs0⟩ : ∃ s0, s0 = s := ⟨_, rfl⟩
  rw [← hs0] at h hl ⊢
  clear hs0
  obtain ⟨s1, s2, s3, s4, s5, MN, MI, y0, y1, y2, y3, y4, y5, y6, y7, y8, y9, y10, y11, y12, y13, y14, y15, y16, y17, y18, y19, y20, y21, y22, q0, q1, q2, q3, q4, qn, qi, h100, h101, e0, e1, e2, e3⟩ : ∃ (s1 s2 s3 s4 s5 : Ps) (MN : Nat) (MI : List Int) (y0 : Nat) (y1 : Nat) (y2 : Nat) (y3 : Nat) (y4 : Nat) (y5 : Nat) (y6 : Nat) (y7 : Nat) (y8 : List UInt8) (y9 : List UInt8) (y10 : List UInt8) (y11 : Bool) (y12 : List UInt8) (y13 : Nat) (y14 : Nat) (y15 : List UInt8) (y16 : List UInt8) (y17 : Nat) (y18 : Bool) (y19 : Nat) (y20 : List UInt8) (y21 : Nat) (y22 : Nat), takS .U s0 = s1 ∧ takS .U s1 = s2 ∧ takS .I s2 = s3 ∧ takSs cmdK s3 = s4 ∧ memE s4 = s5 ∧ memN s4 = MN ∧ memI s4 = MI ∧ takSs entK s0 = s4 ∧ takVs entK s0 = [.int .u64 (y0 : Int), .int .u64 (y1 : Int), .int .i64 (y2 : Int), .int .i64 (y3 : Int), .int .i64 (y4 : Int), .int .u64 (y5 : Int), .int .u64 (y6 : Int), .int .i64 (y7 : Int), .string y8, .string y9, .string y10, .bool y11, .string y12, .int .u64 (y13 : Int), .int .i64 (y14 : Int), .string y15, .string y16, .int .i64 (y17 : Int), .bool y18, .int .i64 (y19 : Int), .string y20, .int .i64 (y21 : Int), .int .i64 (y22 : Int)] ∧ takV .U s0 = .int .u64 (y0 : Int) ∧ takV .U s1 = .int .u64 (y1 : Int) ∧ takV .I s2 = .int .i64 (y2 : Int) ∧ takVs cmdK s3 = [.int .i64 (y3 : Int), .int .i64 (y4 : Int), .int .u64 (y5 : Int), .int .u64 (y6 : Int), .int .i64 (y7 : Int), .string y8, .string y9, .string y10, .bool y11, .string y12, .int .u64 (y13 : Int), .int .i64 (y14 : Int), .string y15, .string y16, .int .i64 (y17 : Int), .bool y18, .int .i64 (y19 : Int), .string y20, .int .i64 (y21 : Int), .int .i64 (y22 : Int)] :=
    ⟨_, _, _, _, _, _, _, _, _, _, _, _, _, _, _, _, _, _, _, _, _, _, _, _, _, _, _, _, _, _, rfl, rfl, rfl, rfl, rfl, rfl, rfl, rfl, rfl, rfl, rfl, rfl, rfl⟩
  have hfin : ∀ (x0 : Option Addr × Nat) (w : World), INew w (W.heap.size + 2) x0.1 MI → Tk W0 g nr na s5.a s5.l w → Kt g na W w → oTakEntryQ g nr na s0 W0 W (.returned (.agg #[.int .u64 (y0 : Int), .int .u64 (y1 : Int), .int .i64 (y2 : Int), .int .i64 (y3 : Int), .int .i64 (y4 : Int), .int .u64 (y5 : Int), .int .u64 (y6 : Int), .int .i64 (y7 : Int), .string (bstr y8), .string (bstr y9), .string (bstr y10), .bool y11, .string (bstr y12), .int .u64 (y13 : Int), .int .i64 (y14 : Int), .string (bstr y15), .string (bstr y16), .int .i64 (y17 : Int), .bool y18, .int .i64 (y19 : Int), .string (bstr y20), .int .i64 (y21 : Int), .int .i64 (y22 : Int), .slice x0.1 MN x0.2])) w := by
    intro x0 w a1 a2 a3
    unfold oTakEntryQ
    rw [h100, h101, qn, qi, q4]
    exact ⟨x0.1, x0.2, rfl, a1.mono (by omega), a2, a3⟩
  have HFIN : Hid _ := hfin
  clear hfin
  have L0 : Hid (s0.l.length ≤ 1048576) := hl
  have L1 : Hid (s1.l.length ≤ 1048576) := by show _ ≤ _; rw [← q0]; exact Nat.le_trans (takS_len _ _) L0.out
  have L2 : Hid (s2.l.length ≤ 1048576) := by show _ ≤ _; rw [← q1]; exact Nat.le_trans (takS_len _ _) L1.out
  have L3 : Hid (s3.l.length ≤ 1048576) := by show _ ≤ _; rw [← q2]; exact Nat.le_trans (takS_len _ _) L2.out
  have L4 : Hid (s4.l.length ≤ 1048576) := by show _ ≤ _; rw [← q3]; exact Nat.le_trans (takSs_len _ _) L3.out
  have Q0 : Hid _ := q0
  have Q1 : Hid _ := q1
  have Q2 : Hid _ := q2
  have Q3 : Hid _ := q3
  have Q4 : Hid _ := q4
  have E0 : Hid _ := e0
  have E1 : Hid _ := e1
  have E2 : Hid _ := e2
  have E3 : Hid _ := e3
  have QN : Hid _ := qn
  have QI : Hid _ := qi
  have hG1 := h.rd.lt
  have hG2 := h.rn
  have G1 : Hid (g < W.heap.size + 2) := by show _ < _; omega
  have G2 : Hid (na < W.heap.size + 2) := by show _ < _; omega
  clear hl hG1 hG2 q0 q1 q2 q3 q4 qn qi h100 h101 e0 e1 e2 e3
  have hTS := TS.start (t := 38) (zs := #[.int .u64 0, .int .u64 0, .int .i64 0, .int .i64 0, .int .i64 0, .int .u64 0, .int .u64 0, .int .i64 0, .string ⟨#[]⟩, .string ⟨#[]⟩, .string ⟨#[]⟩, .bool false, .string ⟨#[]⟩, .int .u64 0, .int .i64 0, .string ⟨#[]⟩, .string ⟨#[]⟩, .int .i64 0, .bool false, .int .i64 0, .string ⟨#[]⟩, .int .i64 0, .int .i64 0, .slice none 0 0]) h
  go_enter Tryz.func69, Tryz.ntmps69
  go_upto_region 1 with fail
  generalize (W.alloc (.cells #[tk1 nr na, tk2 nr na, tk3 nr na] 108)).alloc (.cells #[.int .u64 0, .int .u64 0, .int .i64 0, .int .i64 0, .int .i64 0, .int .u64 0, .int .u64 0, .int .i64 0, .string ⟨#[]⟩, .string ⟨#[]⟩, .string ⟨#[]⟩, .bool false, .string ⟨#[]⟩, .int .u64 0, .int .i64 0, .string ⟨#[]⟩, .string ⟨#[]⟩, .int .i64 0, .bool false, .int .i64 0, .string ⟨#[]⟩, .int .i64 0, .int .i64 0, .slice none 0 0] 38) = w1 at *
  have hbx : ∀ (γ : Option (Option Addr × Nat)) c w, SS [(fun w => γ = none ∧ TS W0 W g nr na 38 #[.int .u64 0, .int .u64 0, .int .i64 0, .int .i64 0, .int .i64 0, .int .u64 0, .int .u64 0, .int .i64 0, .string ⟨#[]⟩, .string ⟨#[]⟩, .string ⟨#[]⟩, .bool false, .string ⟨#[]⟩, .int .u64 0, .int .i64 0, .string ⟨#[]⟩, .string ⟨#[]⟩, .int .i64 0, .bool false, .int .i64 0, .string ⟨#[]⟩, .int .i64 0, .int .i64 0, .slice none 0 0] s0 w),
      (fun w => γ = none ∧ TS W0 W g nr na 38 #[.int .u64 0, .int .u64 0, .int .i64 0, .int .i64 0, .int .i64 0, .int .u64 0, .int .u64 0, .int .i64 0, .string ⟨#[]⟩, .string ⟨#[]⟩, .string ⟨#[]⟩, .bool false, .string ⟨#[]⟩, .int .u64 0, .int .i64 0, .string ⟨#[]⟩, .string ⟨#[]⟩, .int .i64 0, .bool false, .int .i64 0, .string ⟨#[]⟩, .int .i64 0, .int .i64 0, .slice none 0 0] s1 w),
      (fun w => γ = none ∧ TS W0 W g nr na 38 #[.int .u64 0, .int .u64 0, .int .i64 0, .int .i64 0, .int .i64 0, .int .u64 0, .int .u64 0, .int .i64 0, .string ⟨#[]⟩, .string ⟨#[]⟩, .string ⟨#[]⟩, .bool false, .string ⟨#[]⟩, .int .u64 0, .int .i64 0, .string ⟨#[]⟩, .string ⟨#[]⟩, .int .i64 0, .bool false, .int .i64 0, .string ⟨#[]⟩, .int .i64 0, .int .i64 0, .slice none 0 0] s2 w),
      (fun w => γ = none ∧ TS W0 W g nr na 38 #[.int .u64 0, .int .u64 0, .int .i64 0, .int .i64 0, .int .i64 0, .int .u64 0, .int .u64 0, .int .i64 0, .string ⟨#[]⟩, .string ⟨#[]⟩, .string ⟨#[]⟩, .bool false, .string ⟨#[]⟩, .int .u64 0, .int .i64 0, .string ⟨#[]⟩, .string ⟨#[]⟩, .int .i64 0, .bool false, .int .i64 0, .string ⟨#[]⟩, .int .i64 0, .int .i64 0, .slice none 0 0] s3 w),
      (fun w => γ = none ∧ TS W0 W g nr na 38 #[.int .u64 0, .int .u64 0, .int .i64 0, .int .i64 0, .int .i64 0, .int .u64 0, .int .u64 0, .int .i64 0, .string ⟨#[]⟩, .string ⟨#[]⟩, .string ⟨#[]⟩, .bool false, .string ⟨#[]⟩, .int .u64 0, .int .i64 0, .string ⟨#[]⟩, .string ⟨#[]⟩, .int .i64 0, .bool false, .int .i64 0, .string ⟨#[]⟩, .int .i64 0, .int .i64 0, .slice none 0 0] s4 w),
      (fun w => ∃ x0, γ = some x0 ∧ TS W0 W g nr na 38 #[.int .u64 0, .int .u64 0, .int .i64 0, .int .i64 0, .int .i64 0, .int .u64 0, .int .u64 0, .int .i64 0, .string ⟨#[]⟩, .string ⟨#[]⟩, .string ⟨#[]⟩, .bool false, .string ⟨#[]⟩, .int .u64 0, .int .i64 0, .string ⟨#[]⟩, .string ⟨#[]⟩, .int .i64 0, .bool false, .int .i64 0, .string ⟨#[]⟩, .int .i64 0, .int .i64 0, .slice none 0 0] s5 w ∧ INew w (W.heap.size + 2) x0.1 MI),
      (fun w => ∃ x0, γ = some x0 ∧ TS W0 W g nr na 38 #[.int .u64 (y0 : Int), .int .u64 (y1 : Int), .int .i64 (y2 : Int), .int .i64 (y3 : Int), .int .i64 (y4 : Int), .int .u64 (y5 : Int), .int .u64 (y6 : Int), .int .i64 (y7 : Int), .string (bstr y8), .string (bstr y9), .string (bstr y10), .bool y11, .string (bstr y12), .int .u64 (y13 : Int), .int .i64 (y14 : Int), .string (bstr y15), .string (bstr y16), .int .i64 (y17 : Int), .bool y18, .int .i64 (y19 : Int), .string (bstr y20), .int .i64 (y21 : Int), .int .i64 (y22 : Int), .slice x0.1 MN x0.2] s5 w ∧ INew w (W.heap.size + 2) x0.1 MI)] c w → Blk w W.heap.size 108 #[tk1 nr na, tk2 nr na, tk3 nr na] := fun γ => SS.all (by
      intro p hp w hw
      simp only [List.mem_cons, List.not_mem_nil, or_false] at hp
      rcases hp with rfl | rfl | rfl | rfl | rfl | rfl | rfl
      · obtain ⟨_, hT⟩ := hw; exact hT.bx
      · obtain ⟨_, hT⟩ := hw; exact hT.bx
      · obtain ⟨_, hT⟩ := hw; exact hT.bx
      · obtain ⟨_, hT⟩ := hw; exact hT.bx
      · obtain ⟨_, hT⟩ := hw; exact hT.bx
      · obtain ⟨_, _, hT, _⟩ := hw; exact hT.bx
      · obtain ⟨_, _, hT, _⟩ := hw; exact hT.bx)
  have HBX : Hid _ := hbx
  clear hbx h
  have mono0 : ∀ (γ γ' : Option (Option Addr × Nat)), γ = none → ∀ j u, RG [(fun _ v => v = tkV nr na),
      (fun _ v => v = .int .u64 (y0 : Int)),
      (fun _ v => v = tkV nr na),
      (fun _ v => v = .int .u64 (y1 : Int)),
      (fun _ v => v = tkV nr na),
      (fun _ v => v = .int .i64 (y2 : Int)),
      (fun _ v => v = tkV nr na),
      (fun _ v => v = .agg #[.int .i64 (y3 : Int), .int .i64 (y4 : Int), .int .u64 (y5 : Int), .int .u64 (y6 : Int), .int .i64 (y7 : Int), .string (bstr y8), .string (bstr y9), .string (bstr y10), .bool y11, .string (bstr y12), .int .u64 (y13 : Int), .int .i64 (y14 : Int), .string (bstr y15), .string (bstr y16), .int .i64 (y17 : Int), .bool y18, .int .i64 (y19 : Int), .string (bstr y20), .int .i64 (y21 : Int), .int .i64 (y22 : Int)]),
      (fun _ v => v = tkV nr na),
      (fun γ v => ∃ x0, γ = some x0 ∧ v = .slice x0.1 MN x0.2),
      (fun γ v => ∃ x0, γ = some x0 ∧ v = .agg #[.int .u64 (y0 : Int), .int .u64 (y1 : Int), .int .i64 (y2 : Int), .int .i64 (y3 : Int), .int .i64 (y4 : Int), .int .u64 (y5 : Int), .int .u64 (y6 : Int), .int .i64 (y7 : Int), .string (bstr y8), .string (bstr y9), .string (bstr y10), .bool y11, .string (bstr y12), .int .u64 (y13 : Int), .int .i64 (y14 : Int), .string (bstr y15), .string (bstr y16), .int .i64 (y17 : Int), .bool y18, .int .i64 (y19 : Int), .string (bstr y20), .int .i64 (y21 : Int), .int .i64 (y22 : Int), .slice x0.1 MN x0.2]),
      (fun _ _ => True)] γ j u → RG [(fun _ v => v = tkV nr na),
      (fun _ v => v = .int .u64 (y0 : Int)),
      (fun _ v => v = tkV nr na),
      (fun _ v => v = .int .u64 (y1 : Int)),
      (fun _ v => v = tkV nr na),
      (fun _ v => v = .int .i64 (y2 : Int)),
      (fun _ v => v = tkV nr na),
      (fun _ v => v = .agg #[.int .i64 (y3 : Int), .int .i64 (y4 : Int), .int .u64 (y5 : Int), .int .u64 (y6 : Int), .int .i64 (y7 : Int), .string (bstr y8), .string (bstr y9), .string (bstr y10), .bool y11, .string (bstr y12), .int .u64 (y13 : Int), .int .i64 (y14 : Int), .string (bstr y15), .string (bstr y16), .int .i64 (y17 : Int), .bool y18, .int .i64 (y19 : Int), .string (bstr y20), .int .i64 (y21 : Int), .int .i64 (y22 : Int)]),
      (fun _ v => v = tkV nr na),
      (fun γ v => ∃ x0, γ = some x0 ∧ v = .slice x0.1 MN x0.2),
      (fun γ v => ∃ x0, γ = some x0 ∧ v = .agg #[.int .u64 (y0 : Int), .int .u64 (y1 : Int), .int .i64 (y2 : Int), .int .i64 (y3 : Int), .int .i64 (y4 : Int), .int .u64 (y5 : Int), .int .u64 (y6 : Int), .int .i64 (y7 : Int), .string (bstr y8), .string (bstr y9), .string (bstr y10), .bool y11, .string (bstr y12), .int .u64 (y13 : Int), .int .i64 (y14 : Int), .string (bstr y15), .string (bstr y16), .int .i64 (y17 : Int), .bool y18, .int .i64 (y19 : Int), .string (bstr y20), .int .i64 (y21 : Int), .int .i64 (y22 : Int), .slice x0.1 MN x0.2]),
      (fun _ _ => True)] γ' j u := by
    intro γ γ' hg
    refine RG.mono fun p hp u hu => ?_
    subst hg
    simp only [List.mem_cons, List.not_mem_nil, or_false] at hp
    rcases hp with rfl | rfl | rfl | rfl | rfl | rfl | rfl | rfl | rfl | rfl | rfl | rfl
    · exact hu
    · exact hu
    · exact hu
    · exact hu
    · exact hu
    · exact hu
    · exact hu
    · exact hu
    · exact hu
    · obtain ⟨_, h1, _⟩ := hu; cases h1
    · obtain ⟨_, h1, _⟩ := hu; cases h1
    · exact hu
  have MONO0 : Hid _ := mono0
  clear mono0
  refine wp_seqG (Γ := Option (Option Addr × Nat)) none (S := fun γ => SS [(fun w => γ = none ∧ TS W0 W g nr na 38 #[.int .u64 0, .int .u64 0, .int .i64 0, .int .i64 0, .int .i64 0, .int .u64 0, .int .u64 0, .int .i64 0, .string ⟨#[]⟩, .string ⟨#[]⟩, .string ⟨#[]⟩, .bool false, .string ⟨#[]⟩, .int .u64 0, .int .i64 0, .string ⟨#[]⟩, .string ⟨#[]⟩, .int .i64 0, .bool false, .int .i64 0, .string ⟨#[]⟩, .int .i64 0, .int .i64 0, .slice none 0 0] s0 w),
      (fun w => γ = none ∧ TS W0 W g nr na 38 #[.int .u64 0, .int .u64 0, .int .i64 0, .int .i64 0, .int .i64 0, .int .u64 0, .int .u64 0, .int .i64 0, .string ⟨#[]⟩, .string ⟨#[]⟩, .string ⟨#[]⟩, .bool false, .string ⟨#[]⟩, .int .u64 0, .int .i64 0, .string ⟨#[]⟩, .string ⟨#[]⟩, .int .i64 0, .bool false, .int .i64 0, .string ⟨#[]⟩, .int .i64 0, .int .i64 0, .slice none 0 0] s1 w),
      (fun w => γ = none ∧ TS W0 W g nr na 38 #[.int .u64 0, .int .u64 0, .int .i64 0, .int .i64 0, .int .i64 0, .int .u64 0, .int .u64 0, .int .i64 0, .string ⟨#[]⟩, .string ⟨#[]⟩, .string ⟨#[]⟩, .bool false, .string ⟨#[]⟩, .int .u64 0, .int .i64 0, .string ⟨#[]⟩, .string ⟨#[]⟩, .int .i64 0, .bool false, .int .i64 0, .string ⟨#[]⟩, .int .i64 0, .int .i64 0, .slice none 0 0] s2 w),
      (fun w => γ = none ∧ TS W0 W g nr na 38 #[.int .u64 0, .int .u64 0, .int .i64 0, .int .i64 0, .int .i64 0, .int .u64 0, .int .u64 0, .int .i64 0, .string ⟨#[]⟩, .string ⟨#[]⟩, .string ⟨#[]⟩, .bool false, .string ⟨#[]⟩, .int .u64 0, .int .i64 0, .string ⟨#[]⟩, .string ⟨#[]⟩, .int .i64 0, .bool false, .int .i64 0, .string ⟨#[]⟩, .int .i64 0, .int .i64 0, .slice none 0 0] s3 w),
      (fun w => γ = none ∧ TS W0 W g nr na 38 #[.int .u64 0, .int .u64 0, .int .i64 0, .int .i64 0, .int .i64 0, .int .u64 0, .int .u64 0, .int .i64 0, .string ⟨#[]⟩, .string ⟨#[]⟩, .string ⟨#[]⟩, .bool false, .string ⟨#[]⟩, .int .u64 0, .int .i64 0, .string ⟨#[]⟩, .string ⟨#[]⟩, .int .i64 0, .bool false, .int .i64 0, .string ⟨#[]⟩, .int .i64 0, .int .i64 0, .slice none 0 0] s4 w),
      (fun w => ∃ x0, γ = some x0 ∧ TS W0 W g nr na 38 #[.int .u64 0, .int .u64 0, .int .i64 0, .int .i64 0, .int .i64 0, .int .u64 0, .int .u64 0, .int .i64 0, .string ⟨#[]⟩, .string ⟨#[]⟩, .string ⟨#[]⟩, .bool false, .string ⟨#[]⟩, .int .u64 0, .int .i64 0, .string ⟨#[]⟩, .string ⟨#[]⟩, .int .i64 0, .bool false, .int .i64 0, .string ⟨#[]⟩, .int .i64 0, .int .i64 0, .slice none 0 0] s5 w ∧ INew w (W.heap.size + 2) x0.1 MI),
      (fun w => ∃ x0, γ = some x0 ∧ TS W0 W g nr na 38 #[.int .u64 (y0 : Int), .int .u64 (y1 : Int), .int .i64 (y2 : Int), .int .i64 (y3 : Int), .int .i64 (y4 : Int), .int .u64 (y5 : Int), .int .u64 (y6 : Int), .int .i64 (y7 : Int), .string (bstr y8), .string (bstr y9), .string (bstr y10), .bool y11, .string (bstr y12), .int .u64 (y13 : Int), .int .i64 (y14 : Int), .string (bstr y15), .string (bstr y16), .int .i64 (y17 : Int), .bool y18, .int .i64 (y19 : Int), .string (bstr y20), .int .i64 (y21 : Int), .int .i64 (y22 : Int), .slice x0.1 MN x0.2] s5 w ∧ INew w (W.heap.size + 2) x0.1 MI)])
    (R := fun γ => RG [(fun _ v => v = tkV nr na),
      (fun _ v => v = .int .u64 (y0 : Int)),
      (fun _ v => v = tkV nr na),
      (fun _ v => v = .int .u64 (y1 : Int)),
      (fun _ v => v = tkV nr na),
      (fun _ v => v = .int .i64 (y2 : Int)),
      (fun _ v => v = tkV nr na),
      (fun _ v => v = .agg #[.int .i64 (y3 : Int), .int .i64 (y4 : Int), .int .u64 (y5 : Int), .int .u64 (y6 : Int), .int .i64 (y7 : Int), .string (bstr y8), .string (bstr y9), .string (bstr y10), .bool y11, .string (bstr y12), .int .u64 (y13 : Int), .int .i64 (y14 : Int), .string (bstr y15), .string (bstr y16), .int .i64 (y17 : Int), .bool y18, .int .i64 (y19 : Int), .string (bstr y20), .int .i64 (y21 : Int), .int .i64 (y22 : Int)]),
      (fun _ v => v = tkV nr na),
      (fun γ v => ∃ x0, γ = some x0 ∧ v = .slice x0.1 MN x0.2),
      (fun γ v => ∃ x0, γ = some x0 ∧ v = .agg #[.int .u64 (y0 : Int), .int .u64 (y1 : Int), .int .i64 (y2 : Int), .int .i64 (y3 : Int), .int .i64 (y4 : Int), .int .u64 (y5 : Int), .int .u64 (y6 : Int), .int .i64 (y7 : Int), .string (bstr y8), .string (bstr y9), .string (bstr y10), .bool y11, .string (bstr y12), .int .u64 (y13 : Int), .int .i64 (y14 : Int), .string (bstr y15), .string (bstr y16), .int .i64 (y17 : Int), .bool y18, .int .i64 (y19 : Int), .string (bstr y20), .int .i64 (y21 : Int), .int .i64 (y22 : Int), .slice x0.1 MN x0.2]),
      (fun _ _ => True)] γ)
    (tm := [none, some 0, none, some 1, none, some 2, none, some 3, none, some 4, none, some 5]) (N := 6) (by kernel_rfl) (by kernel_rfl) ⟨rfl, hTS.drew⟩ ?_ ?_
  · refine ⟨?_, ?_, ?_, ?_, ?_, ?_, ?_, ?_, ?_, ?_, ?_, ?_, trivial⟩
    · intro γ c a w K hS ht hK
      have t1 : a.tmps.getD 1 undef = .pointer (some ⟨W.heap.size, 0, none⟩) := ht.1 1 (by kernel_rfl)
      exact wp_load_mid 108 _ rfl W.heap.size 0 t1 [tk1 nr na, tk2 nr na, tk3 nr na] _ (range_of_block (HBX.out γ c w hS) [] [tk1 nr na, tk2 nr na, tk3 nr na] [] rfl) Tryz.underlying108 rfl (by kernel_rfl) (hK _ rfl)
    · intro γ a w K hS ht hK
      have t1 : a.tmps.getD 3 undef = tkV nr na := ht.2 ⟨0, .data⟩ (by simp) rfl _ _ rfl rfl
      obtain ⟨hγ, hS⟩ : (fun w => γ = none ∧ TS W0 W g nr na 38 #[.int .u64 0, .int .u64 0, .int .i64 0, .int .i64 0, .int .i64 0, .int .u64 0, .int .u64 0, .int .i64 0, .string ⟨#[]⟩, .string ⟨#[]⟩, .string ⟨#[]⟩, .bool false, .string ⟨#[]⟩, .int .u64 0, .int .i64 0, .string ⟨#[]⟩, .string ⟨#[]⟩, .int .i64 0, .bool false, .int .i64 0, .string ⟨#[]⟩, .int .i64 0, .int .i64 0, .slice none 0 0] s0 w) w := hS
      go_simp
      refine (oUintT_any g nr na s0 W0 w hS.tk L0.out).mono ?_
      rintro e wf ⟨rfl, hT, hk⟩
      rw [Q0.out] at hT
      exact hK γ _ _ ⟨hγ, hS.call hT hk⟩ (fun _ _ h => h) (congrArg Lit.toCell E0.out)
    · intro γ c a w K hS ht hK
      have t1 : a.tmps.getD 1 undef = .pointer (some ⟨W.heap.size, 0, none⟩) := ht.1 1 (by kernel_rfl)
      exact wp_load_mid 108 _ rfl W.heap.size 0 t1 [tk1 nr na, tk2 nr na, tk3 nr na] _ (range_of_block (HBX.out γ c w hS) [] [tk1 nr na, tk2 nr na, tk3 nr na] [] rfl) Tryz.underlying108 rfl (by kernel_rfl) (hK _ rfl)
    · intro γ a w K hS ht hK
      have t1 : a.tmps.getD 5 undef = tkV nr na := ht.2 ⟨2, .data⟩ (by simp) rfl _ _ rfl rfl
      obtain ⟨hγ, hS⟩ : (fun w => γ = none ∧ TS W0 W g nr na 38 #[.int .u64 0, .int .u64 0, .int .i64 0, .int .i64 0, .int .i64 0, .int .u64 0, .int .u64 0, .int .i64 0, .string ⟨#[]⟩, .string ⟨#[]⟩, .string ⟨#[]⟩, .bool false, .string ⟨#[]⟩, .int .u64 0, .int .i64 0, .string ⟨#[]⟩, .string ⟨#[]⟩, .int .i64 0, .bool false, .int .i64 0, .string ⟨#[]⟩, .int .i64 0, .int .i64 0, .slice none 0 0] s1 w) w := hS
      go_simp
      refine (oUintT_any g nr na s1 W0 w hS.tk L1.out).mono ?_
      rintro e wf ⟨rfl, hT, hk⟩
      rw [Q1.out] at hT
      exact hK γ _ _ ⟨hγ, hS.call hT hk⟩ (fun _ _ h => h) (congrArg Lit.toCell E1.out)
    · intro γ c a w K hS ht hK
      have t1 : a.tmps.getD 1 undef = .pointer (some ⟨W.heap.size, 0, none⟩) := ht.1 1 (by kernel_rfl)
      exact wp_load_mid 108 _ rfl W.heap.size 0 t1 [tk1 nr na, tk2 nr na, tk3 nr na] _ (range_of_block (HBX.out γ c w hS) [] [tk1 nr na, tk2 nr na, tk3 nr na] [] rfl) Tryz.underlying108 rfl (by kernel_rfl) (hK _ rfl)
    · intro γ a w K hS ht hK
      have t1 : a.tmps.getD 7 undef = tkV nr na := ht.2 ⟨4, .data⟩ (by simp) rfl _ _ rfl rfl
      obtain ⟨hγ, hS⟩ : (fun w => γ = none ∧ TS W0 W g nr na 38 #[.int .u64 0, .int .u64 0, .int .i64 0, .int .i64 0, .int .i64 0, .int .u64 0, .int .u64 0, .int .i64 0, .string ⟨#[]⟩, .string ⟨#[]⟩, .string ⟨#[]⟩, .bool false, .string ⟨#[]⟩, .int .u64 0, .int .i64 0, .string ⟨#[]⟩, .string ⟨#[]⟩, .int .i64 0, .bool false, .int .i64 0, .string ⟨#[]⟩, .int .i64 0, .int .i64 0, .slice none 0 0] s2 w) w := hS
      go_simp
      refine (oIntT_any g nr na s2 W0 w hS.tk L2.out).mono ?_
      rintro e wf ⟨rfl, hT, hk⟩
      rw [Q2.out] at hT
      exact hK γ _ _ ⟨hγ, hS.call hT hk⟩ (fun _ _ h => h) (congrArg Lit.toCell E2.out)
    · intro γ c a w K hS ht hK
      have t1 : a.tmps.getD 1 undef = .pointer (some ⟨W.heap.size, 0, none⟩) := ht.1 1 (by kernel_rfl)
      exact wp_load_mid 108 _ rfl W.heap.size 0 t1 [tk1 nr na, tk2 nr na, tk3 nr na] _ (range_of_block (HBX.out γ c w hS) [] [tk1 nr na, tk2 nr na, tk3 nr na] [] rfl) Tryz.underlying108 rfl (by kernel_rfl) (hK _ rfl)
    · intro γ a w K hS ht hK
      have t1 : a.tmps.getD 9 undef = tkV nr na := ht.2 ⟨6, .data⟩ (by simp) rfl _ _ rfl rfl
      obtain ⟨hγ, hS⟩ : (fun w => γ = none ∧ TS W0 W g nr na 38 #[.int .u64 0, .int .u64 0, .int .i64 0, .int .i64 0, .int .i64 0, .int .u64 0, .int .u64 0, .int .i64 0, .string ⟨#[]⟩, .string ⟨#[]⟩, .string ⟨#[]⟩, .bool false, .string ⟨#[]⟩, .int .u64 0, .int .i64 0, .string ⟨#[]⟩, .string ⟨#[]⟩, .int .i64 0, .bool false, .int .i64 0, .string ⟨#[]⟩, .int .i64 0, .int .i64 0, .slice none 0 0] s3 w) w := hS
      go_simp
      refine (oTakCmd_any g nr na s3 W0 w hS.tk L3.out).mono ?_
      rintro e wf ⟨rfl, hT, hk⟩
      rw [Q3.out] at hT
      exact hK γ _ _ ⟨hγ, hS.call hT hk⟩ (fun _ _ h => h) (congrArg litsV E3.out)
    · intro γ c a w K hS ht hK
      have t1 : a.tmps.getD 1 undef = .pointer (some ⟨W.heap.size, 0, none⟩) := ht.1 1 (by kernel_rfl)
      exact wp_load_mid 108 _ rfl W.heap.size 0 t1 [tk1 nr na, tk2 nr na, tk3 nr na] _ (range_of_block (HBX.out γ c w hS) [] [tk1 nr na, tk2 nr na, tk3 nr na] [] rfl) Tryz.underlying108 rfl (by kernel_rfl) (hK _ rfl)
    · intro γ a w K hS ht hK
      have t1 : a.tmps.getD 11 undef = tkV nr na := ht.2 ⟨8, .data⟩ (by simp) rfl _ _ rfl rfl
      obtain ⟨hγ, hS⟩ : (fun w => γ = none ∧ TS W0 W g nr na 38 #[.int .u64 0, .int .u64 0, .int .i64 0, .int .i64 0, .int .i64 0, .int .u64 0, .int .u64 0, .int .i64 0, .string ⟨#[]⟩, .string ⟨#[]⟩, .string ⟨#[]⟩, .bool false, .string ⟨#[]⟩, .int .u64 0, .int .i64 0, .string ⟨#[]⟩, .string ⟨#[]⟩, .int .i64 0, .bool false, .int .i64 0, .string ⟨#[]⟩, .int .i64 0, .int .i64 0, .slice none 0 0] s4 w) w := hS
      go_simp
      refine (oTakMembers_any g nr na s4 W0 w hS.tk L4.out).mono ?_
      rintro e wf ⟨q, cap, rfl, hn, hT, hk⟩
      rw [Q4.out] at hT
      rw [QI.out] at hn
      exact hK (some (q, cap)) _ _ ⟨(q, cap), rfl, hS.call hT hk, hn.mono hS.two⟩ (MONO0.out γ (some (q, cap)) hγ) ⟨(q, cap), rfl, by show _ = Value.slice q MN cap; rw [← QN.out]⟩
    · intro γ c a w K hS ht hK
      have t4 : a.tmps.getD 4 undef = .int .u64 (y0 : Int) := ht.2 ⟨1, .data⟩ (by simp) rfl _ _ rfl rfl
      have t6 : a.tmps.getD 6 undef = .int .u64 (y1 : Int) := ht.2 ⟨3, .data⟩ (by simp) rfl _ _ rfl rfl
      have t8 : a.tmps.getD 8 undef = .int .i64 (y2 : Int) := ht.2 ⟨5, .data⟩ (by simp) rfl _ _ rfl rfl
      have t10 : a.tmps.getD 10 undef = .agg #[.int .i64 (y3 : Int), .int .i64 (y4 : Int), .int .u64 (y5 : Int), .int .u64 (y6 : Int), .int .i64 (y7 : Int), .string (bstr y8), .string (bstr y9), .string (bstr y10), .bool y11, .string (bstr y12), .int .u64 (y13 : Int), .int .i64 (y14 : Int), .string (bstr y15), .string (bstr y16), .int .i64 (y17 : Int), .bool y18, .int .i64 (y19 : Int), .string (bstr y20), .int .i64 (y21 : Int), .int .i64 (y22 : Int)] := ht.2 ⟨7, .data⟩ (by simp) rfl _ _ rfl rfl
      obtain ⟨x0, hx0, t12⟩ : ∃ x0, γ = some x0 ∧ a.tmps.getD 12 undef = .slice x0.1 MN x0.2 := ht.2 ⟨9, .data⟩ (by simp) rfl _ _ rfl rfl
      rw [Array.getD_eq_getD_getElem?] at t4 t6 t8 t10 t12
      go_simp
      exact hK _ ⟨x0, hx0, rfl⟩
    · intro γ a w K hS ht hK
      have t1 : a.tmps.getD 2 undef = .pointer (some ⟨W.heap.size + 1, 0, none⟩) := ht.1 2 (by kernel_rfl)
      obtain ⟨z0, hz, t2⟩ : ∃ z0, γ = some z0 ∧ a.tmps.getD 13 undef = .agg #[.int .u64 (y0 : Int), .int .u64 (y1 : Int), .int .i64 (y2 : Int), .int .i64 (y3 : Int), .int .i64 (y4 : Int), .int .u64 (y5 : Int), .int .u64 (y6 : Int), .int .i64 (y7 : Int), .string (bstr y8), .string (bstr y9), .string (bstr y10), .bool y11, .string (bstr y12), .int .u64 (y13 : Int), .int .i64 (y14 : Int), .string (bstr y15), .string (bstr y16), .int .i64 (y17 : Int), .bool y18, .int .i64 (y19 : Int), .string (bstr y20), .int .i64 (y21 : Int), .int .i64 (y22 : Int), .slice z0.1 MN z0.2] := ht.2 ⟨10, .data⟩ (by simp) rfl _ _ rfl rfl
      obtain ⟨x0, hγ, hS, f0⟩ : (fun w => ∃ x0, γ = some x0 ∧ TS W0 W g nr na 38 #[.int .u64 0, .int .u64 0, .int .i64 0, .int .i64 0, .int .i64 0, .int .u64 0, .int .u64 0, .int .i64 0, .string ⟨#[]⟩, .string ⟨#[]⟩, .string ⟨#[]⟩, .bool false, .string ⟨#[]⟩, .int .u64 0, .int .i64 0, .string ⟨#[]⟩, .string ⟨#[]⟩, .int .i64 0, .bool false, .int .i64 0, .string ⟨#[]⟩, .int .i64 0, .int .i64 0, .slice none 0 0] s5 w ∧ INew w (W.heap.size + 2) x0.1 MI) w := hS
      obtain rfl : z0 = x0 := by rw [hγ] at hz; exact (Option.some.inj hz).symm
      exact wp_store_mid 38 _ _ rfl (W.heap.size + 1) 0 #[.int .u64 (y0 : Int), .int .u64 (y1 : Int), .int .i64 (y2 : Int), .int .i64 (y3 : Int), .int .i64 (y4 : Int), .int .u64 (y5 : Int), .int .u64 (y6 : Int), .int .i64 (y7 : Int), .string (bstr y8), .string (bstr y9), .string (bstr y10), .bool y11, .string (bstr y12), .int .u64 (y13 : Int), .int .i64 (y14 : Int), .string (bstr y15), .string (bstr y16), .int .i64 (y17 : Int), .bool y18, .int .i64 (y19 : Int), .string (bstr y20), .int .i64 (y21 : Int), .int .i64 (y22 : Int), .slice z0.1 MN z0.2] t1 t2 (blk_there hS.rs rfl) (by kernel_rfl) (by kernel_rfl) (hK γ undef _ ⟨z0, hz, hS.set [.int .u64 (y0 : Int), .int .u64 (y1 : Int), .int .i64 (y2 : Int), .int .i64 (y3 : Int), .int .i64 (y4 : Int), .int .u64 (y5 : Int), .int .u64 (y6 : Int), .int .i64 (y7 : Int), .string (bstr y8), .string (bstr y9), .string (bstr y10), .bool y11, .string (bstr y12), .int .u64 (y13 : Int), .int .i64 (y14 : Int), .string (bstr y15), .string (bstr y16), .int .i64 (y17 : Int), .bool y18, .int .i64 (y19 : Int), .string (bstr y20), .int .i64 (y21 : Int), .int .i64 (y22 : Int), .slice z0.1 MN z0.2] rfl, INew.cells (Nat.lt_succ_self _) _ _ f0⟩ (fun _ _ h => h) trivial)
  · intro γ a' w hS hdf hts hold hnew
    obtain ⟨x0, hγ, hS, f0⟩ : (fun w => ∃ x0, γ = some x0 ∧ TS W0 W g nr na 38 #[.int .u64 (y0 : Int), .int .u64 (y1 : Int), .int .i64 (y2 : Int), .int .i64 (y3 : Int), .int .i64 (y4 : Int), .int .u64 (y5 : Int), .int .u64 (y6 : Int), .int .i64 (y7 : Int), .string (bstr y8), .string (bstr y9), .string (bstr y10), .bool y11, .string (bstr y12), .int .u64 (y13 : Int), .int .i64 (y14 : Int), .string (bstr y15), .string (bstr y16), .int .i64 (y17 : Int), .bool y18, .int .i64 (y19 : Int), .string (bstr y20), .int .i64 (y21 : Int), .int .i64 (y22 : Int), .slice x0.1 MN x0.2] s5 w ∧ INew w (W.heap.size + 2) x0.1 MI) w := hS
    have t2 : a'.tmps.getD 2 undef = .pointer (some ⟨W.heap.size + 1, 0, none⟩) := hold 2 (by kernel_rfl)
    obtain ⟨t, d⟩ := a'
    obtain rfl : d = [] := hdf
    simp only at t2
    clear hold hnew hts
    go_wp2
    exact ret_cells (cs := [.int .u64 (y0 : Int), .int .u64 (y1 : Int), .int .i64 (y2 : Int), .int .i64 (y3 : Int), .int .i64 (y4 : Int), .int .u64 (y5 : Int), .int .u64 (y6 : Int), .int .i64 (y7 : Int), .string (bstr y8), .string (bstr y9), .string (bstr y10), .bool y11, .string (bstr y12), .int .u64 (y13 : Int), .int .i64 (y14 : Int), .string (bstr y15), .string (bstr y16), .int .i64 (y17 : Int), .bool y18, .int .i64 (y19 : Int), .string (bstr y20), .int .i64 (y21 : Int), .int .i64 (y22 : Int), .slice x0.1 MN x0.2]) rfl Tryz.underlying38 rfl (by kernel_rfl) t2 hS.rs rfl (HFIN.out x0 w f0 hS.tk hS.kt)

end Go.Proofs.YtbdbefgfejdbjaaGreat
