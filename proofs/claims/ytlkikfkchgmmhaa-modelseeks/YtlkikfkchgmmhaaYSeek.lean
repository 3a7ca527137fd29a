/-
  seek: the least row, from one on, in which a column is there.
-/
import Derived.Test.YtlkikfkchgmmhaaYSk1
namespace Go.Proofs.Ytlkikfkchgmmhaa
open Go.RowKit Go.BigFrame Go.Sort
attribute [local go_sem] Oper.semAt_some
attribute [local go_sem] size_bstr toList_bstr ls_def

/-- What a seek answers. -/
def SeekOk (F : Mf) (low col : List UInt8) (z : Rz) : Prop :=
  (z = rz0 ∧ ∀ r : List UInt8, r.length ≤ bigL → ¬ Mt F low col r) ∨ (∃ r x, Mt F low col r ∧ F r col = some x ∧ z = ⟨0, true, r, x.val, x.ver⟩ ∧ ∀ s : List UInt8, s.length ≤ bigL → Mt F low col s → ls s r = false)

theorem bel_kpS {a b c : World} {B : Nat} {S : Nat → Prop} (h : Below B a b) (k : Kp b c S) (hS : ∀ i, S i → B ≤ i) (hB : B ≤ b.heap.size) : Below B a c :=
  ⟨k.os.trans h.os, k.tape.trans h.tape, k.output.trans h.output, Nat.le_trans h.size k.size, fun i hi => (k.block i (by omega) (fun hs => by have := hS i hs; omega)).trans (h.block i hi)⟩

set_option maxHeartbeats 8000000 in
set_option maxRecDepth 100000 in
theorem seek_any (g m n : Nat) (F : Mf) (o : Oq) (w : World) (hM : Md w g m n F) (hcol : o.col.length ≤ bigL) (hF : FInv F) (hSt : ∀ r c x, F r c = some x → r.length ≤ bigL) :
    Calls Try.prog 22 #[.pointer (some ⟨g, 0, none⟩), oqV o] w fun e w' => ∃ z, e = .returned (rzV z) ∧ SeekOk F o.row o.col z ∧ Below w.heap.size w w' := by
  obtain ⟨w1, hw1⟩ : ∃ w1, w1 = ((w.alloc (.cells (oqC o) 32)).alloc (.cells #[.int .i64 0, .bool false, .string ⟨#[]⟩, .string ⟨#[]⟩, .int .u64 0] 29)).alloc (.cells #[.string ⟨#[]⟩, .string ⟨#[]⟩, .string ⟨#[]⟩, .string ⟨#[]⟩, .int .u64 0, .bool false, .string ⟨#[]⟩, .bool false] 72) := ⟨_, rfl⟩
  have hb1 : Below w.heap.size w w1 := by rw [hw1]; exact (((Below.refl _ _).alloc (Nat.le_refl _) _).alloc (by simp) _).alloc (by simp; omega) _
  have x1 : OqB w1 w.heap.size o := by rw [hw1]; exact (Below.heap_alloc _ _ _ (by simp; omega)).trans ((Below.heap_alloc _ _ _ (by simp)).trans (heap_alloc_new w _))
  have y1 : RzB w1 (w.heap.size + 1) rz0 := by
    have h := RzB.new (w.alloc (.cells (oqC o) 32))
    rw [World.size_alloc] at h
    rw [hw1]
    exact (Below.heap_alloc _ _ _ (by simp)).trans h
  have l1 : LkB w1 (w.heap.size + 1 + 1) ⟨[], [], zC, false⟩ := by
    have h := heap_alloc_new ((w.alloc (.cells (oqC o) 32)).alloc (.cells #[.int .i64 0, .bool false, .string ⟨#[]⟩, .string ⟨#[]⟩, .int .u64 0] 29)) (.cells #[.string ⟨#[]⟩, .string ⟨#[]⟩, .string ⟨#[]⟩, .string ⟨#[]⟩, .int .u64 0, .bool false, .string ⟨#[]⟩, .bool false] 72)
    rw [World.size_alloc, World.size_alloc] at h
    rw [hw1]
    exact h
  have hs1 : w1.heap.size = w.heap.size + 3 := by rw [hw1]; simp
  have hM1 := hM.below hb1 hM.lt.1 hM.lt.2
  have hrw := rows_any g o.row o.col w1
  obtain ⟨c0, c1, c2, c3, c4, c5⟩ := x1.facts
  have HWE : Hid (((w.alloc (.cells #[.int .i64 o.kind, .string (bstr o.row), .string (bstr o.col), .string (bstr o.val), .bool o.has, .string (bstr o.exp)] 32)).alloc (.cells #[.int .i64 0, .bool false, .string ⟨#[]⟩, .string ⟨#[]⟩, .int .u64 0] 29)).alloc (.cells #[.string ⟨#[]⟩, .string ⟨#[]⟩, .string ⟨#[]⟩, .string ⟨#[]⟩, .int .u64 0, .bool false, .string ⟨#[]⟩, .bool false] 72) = w1) := hw1.symm
  have HS1 : Hid _ := hs1
  have hgl := hM.lt.1
  have hml := hM.lt.2
  clear hw1 hs1
  refine calls_marks Try.func22 rfl ?_
  simp only [Try.ntmps22, List.size_toArray, List.length_cons, List.length_nil, Nat.reduceAdd, Nat.reduceSub, Array.replicate_succ, Array.replicate_zero, List.push_toArray, List.append_toArray, List.nil_append, List.cons_append]
  gi_wp2_with fail
  rw [HWE.out]
  refine ⟨trivial, (callsIn_wide.2 hrw).mono ?_⟩
  rintro e wb ⟨rfl, cm, cl, cc, hbb, hsb⟩
  clear HWE hrw c0 c1 c2 c3 c4 c5
  have HSB : Hid _ := hsb
  clear hsb
  gi_wp2_with fail
  refine wp_range2 (by omega) rfl (enters_of Try.func51 (by kernel_rfl) rfl) ?_
  intro RR hRR
  have hbW : Below wb.heap.size wb ((wb.alloc (.deferred (some []))).alloc (.loop RR)) := ((Below.refl _ _).alloc (Nat.le_refl _) _).alloc (by simp) _
  have hWa : ((wb.alloc (.deferred (some []))).alloc (.loop RR)).heap[wb.heap.size + 1]? = some (.loop RR) := by
    have := World.alloc_heap_new (wb.alloc (.deferred (some []))) (.loop RR)
    rwa [World.size_alloc] at this
  have hWb : ((wb.alloc (.deferred (some []))).alloc (.loop RR)).heap[wb.heap.size]? = some (.deferred (some [])) := (Below.heap_alloc _ _ _ (by simp)).trans (World.alloc_heap_new wb _)
  have hWs : ((wb.alloc (.deferred (some []))).alloc (.loop RR)).heap.size = wb.heap.size + 2 := by simp
  obtain ⟨W1, hWW⟩ : ∃ W1, W1 = (wb.alloc (.deferred (some []))).alloc (.loop RR) := ⟨_, rfl⟩
  rw [← hWW] at hbW hWa hWb hWs ⊢
  clear hWW
  have hs1 := HS1.out
  have hsb := HSB.out
  have hb1b := below2 hb1 hbb
  have hb0W := below2 hb1b hbW
  have hMW := (hM1.below hbb hM1.lt.1 hM1.lt.2).below hbW (by omega) (by omega)
  have hJ0 : SK w (w.heap.size + 1 + 1) wb.heap.size F o.row o.col RR [] W1 := ⟨⟨_, (l1.below hbb (by omega)).below hbW (by omega), .inl ⟨rfl, rfl⟩⟩, (y1.below hbb (by omega)).below hbW (by omega), hWb, hWa, hb0W⟩
  have cmW : W1.cell? ⟨w1.heap.size, 0, none⟩ = some (.pointer (some ⟨g, 0, none⟩)) := by rw [World.cell?_of_block (hbW.block w1.heap.size (by omega))]; exact cm
  have clW : W1.cell? ⟨w1.heap.size + 1, 0, none⟩ = some (.string (bstr o.row)) := by rw [World.cell?_of_block (hbW.block (w1.heap.size + 1) (by omega))]; exact cl
  have ccW : W1.cell? ⟨w1.heap.size + 1 + 1, 0, none⟩ = some (.string (bstr o.col)) := by rw [World.cell?_of_block (hbW.block (w1.heap.size + 1 + 1) (by omega))]; exact cc
  have hte := rows1_any w1.heap.size (w1.heap.size + 1) (w1.heap.size + 1 + 1) g m n F o.row o.col (wb.heap.size + 1) (fun i => i = w.heap.size + 1 + 1 ∨ i = wb.heap.size + 1) (SK w (w.heap.size + 1 + 1) wb.heap.size F o.row o.col RR) W1 hcol hMW cmW clW ccW (fun i hi => by
    have := hMW.lt
    rcases hi with rfl | rfl <;> refine ⟨by omega, by omega, by omega, by omega, by omega, by omega⟩) (fun T W W' h hb => h.below hb (by omega) (by omega) (by omega)) ?_ hJ0
  · refine hte.mono ?_
    clear hte hJ0 hRR
    rintro e W2 ⟨⟨u, rfl⟩, T, hj, hT1, hT2⟩
    refine ⟨⟨_, rfl⟩, Or.inl ⟨hj.c, ?_⟩⟩
    have z1 : w.heap.size + 1 + 1 < wb.heap.size := by omega
    obtain ⟨L, hL, hcase⟩ := hj.fr
    have hk3 := (Kp.refl W2 (fun i => i = wb.heap.size + 1)).put (b := wb.heap.size + 1) (.loop { RR with state := .exhausted }) (.inl rfl)
    have hL3 := hL.kept hk3 (by omega)
    have hrz3 := hj.rz.kept hk3 (by omega)
    have hd3 := (hk3.block _ (blk_lt hj.d) (by omega)).trans hj.d
    have hb3 := bel_kpS hj.bl hk3 (fun i hi => by omega) hj.bl.size
    have hwl : w.heap.size + 1 + 1 < W2.heap.size := blk_lt hL
    have hs3 : (W2.putObj (wb.heap.size + 1) (.loop { RR with state := .exhausted })).heap.size = W2.heap.size := by simp
    have hlen : L.new.val.length ≤ 140737488351232 ∧ L.row.length ≤ 281474976710656 := by
      rcases hcase with ⟨_, rfl⟩ | ⟨r, x, _, _, hx, rfl, _⟩
      · exact ⟨Nat.zero_le _, Nat.zero_le _⟩
      · have h1 := (hF _ _ _ hx).1.2.2
        have h2 := hSt _ _ _ hx
        exact ⟨h1, by show r.length ≤ _; unfold bigL at h2; omega⟩
    have hok : SeekOk F o.row o.col ⟨(tellL L).err, (tellL L).found, L.row, (tellL L).val, (tellL L).ver⟩ := by
      rcases hcase with ⟨rfl, rfl⟩ | ⟨r, x, hr, hm, hx, rfl, hmin⟩
      · exact .inl ⟨rfl, fun r hr hm => by cases hT2 r hr hm⟩
      · refine .inr ⟨r, x, hm, hx, ?_, fun s hs hms => hmin s (hT2 s hs hms)⟩
        obtain ⟨_, x9, e9, g9⟩ := hm
        rw [hx] at e9
        cases e9
        simp [tellL, thereL, g9]
    have HOK : Hid _ := hok
    clear hok hcase hT1 hT2 hj hL hs1 hsb hWs cmW clW ccW hMW hWa hWb hb0W hb1b hbW hM1 hM
    generalize W2.putObj (wb.heap.size + 1) (.loop { RR with state := .exhausted }) = W3 at *
    have htl := tell_any (w.heap.size + 1 + 1) L W3 hL3 hlen.1
    obtain ⟨⟨t0, t1, t2, t3, t4⟩, htt⟩ : ∃ t, t = tellL L := ⟨_, rfl⟩
    rw [← htt] at htl HOK
    simp only at HOK
    gi_wp2_with fail
    refine ⟨trivial, (callsIn_wide.2 htl).mono ?_⟩
    rintro e W4 ⟨rfl, hb4⟩
    clear htl htt
    have hs4 := hb4.size
    have zP : W4.heap.size ≠ w.heap.size + 1 + 1 := by omega
    have zQ : W4.heap.size ≠ w.heap.size + 1 := by omega
    have zR : W4.heap.size ≠ wb.heap.size := by have := blk_lt hd3; omega
    have zb : wb.heap.size < W3.heap.size := blk_lt hd3
    have yb5 : Below W4.heap.size W4 (W4.alloc (.cells #[.int .i64 t0, .bool t1, .string (bstr t2), .string (bstr t3), .int .u64 t4] 29)) := (Below.refl _ _).alloc (Nat.le_refl _) _
    have yP5 : RzB (W4.alloc (.cells #[.int .i64 t0, .bool t1, .string (bstr t2), .string (bstr t3), .int .u64 t4] 29)) W4.heap.size ⟨t0, t1, t2, t3, t4⟩ := heap_alloc_new W4 _
    have yL5 := (hL3.below hb4 (by omega)).below yb5 (by omega)
    have yr5 := (hrz3.below hb4 (by omega)).below yb5 (by omega)
    have yd5 := (yb5.block _ (by omega)).trans ((hb4.block _ zb).trans hd3)
    have hB5 := below2 hb3 hb4
    replace hB5 := below2 hB5 yb5
    have f0 := yL5.facts.1
    have zs5 : (W4.alloc (.cells #[.int .i64 t0, .bool t1, .string (bstr t2), .string (bstr t3), .int .u64 t4] 29)).heap.size = W4.heap.size + 1 := by simp
    have HY : Hid _ := yP5
    have HR : Hid _ := yr5
    have HD : Hid _ := yd5
    have HB : Hid _ := hB5
    have HZ : Hid _ := zs5
    clear yb5 yP5 yL5 yr5 yd5 hB5 zs5
    gi_wp2_with fail
    refine ⟨trivial, (callsIn_wide.2 (CClone_any L.row _ (by omega))).mono ?_⟩
    rintro e W6 ⟨rfl, hb6⟩
    have zs5 := HZ.out
    have yP6 := RzB.below HY.out hb6 (by omega)
    have yr6 := RzB.below HR.out hb6 (by omega)
    have yd6 := (hb6.block _ (by omega)).trans HD.out
    have hB6 := below2 HB.out hb6
    clear HY HR HD HB HZ f0
    have fP := yP6.frz
    have yP7 : RzB (W6.setCell ⟨W4.heap.size, 2, none⟩ (.string (bstr L.row))) W4.heap.size ⟨t0, t1, L.row, t3, t4⟩ := heap_set_same yP6 (o := 2) _
    have yr7 : RzB (W6.setCell ⟨W4.heap.size, 2, none⟩ (.string (bstr L.row))) (w.heap.size + 1) rz0 := (heap_set_other _ (by omega)).trans yr6
    have yd7 : (W6.setCell ⟨W4.heap.size, 2, none⟩ (.string (bstr L.row))).heap[wb.heap.size]? = some (.deferred (some [])) := (heap_set_other _ (by omega)).trans yd6
    have HB7 : Hid (Below w.heap.size w (W6.setCell ⟨W4.heap.size, 2, none⟩ (.string (bstr L.row)))) := bel_kpS hB6 ((Kp.refl W6 (fun i => i = W4.heap.size)).setCell (b := W4.heap.size) (o := 2) (.string (bstr L.row)) (.inl rfl)) (fun i hi => by omega) hB6.size
    have HRz : Hid _ := yr7.set ⟨t0, t1, L.row, t3, t4⟩
    have HD7 : Hid _ := yd7
    obtain ⟨p0, p1, p2, p3, p4⟩ := yP7.facts
    have fR := yr7.frz
    simp only at p0 p1 p2 p3 p4
    have o2 := yP6.facts.2.2.1
    obtain ⟨r0, r1, r2, r3, r4⟩ := yr7.facts
    clear yP6 yr6 yd6 hB6 yP7 yr7 yd7
    gi_wp2_with fail
    have hz : RzB (((((( W6.setCell ⟨W4.heap.size, 2, none⟩ (.string (bstr L.row))).setCell ⟨w.heap.size + 1, 0, none⟩ (.int .i64 t0)).setCell ⟨w.heap.size + 1, 1, none⟩ (.bool t1)).setCell ⟨w.heap.size + 1, 2, none⟩ (.string (bstr L.row))).setCell ⟨w.heap.size + 1, 3, none⟩ (.string (bstr t3))).setCell ⟨w.heap.size + 1, 4, none⟩ (.int .u64 t4)) (w.heap.size + 1) ⟨t0, t1, L.row, t3, t4⟩ := HRz.out
    have hdz : (((((( W6.setCell ⟨W4.heap.size, 2, none⟩ (.string (bstr L.row))).setCell ⟨w.heap.size + 1, 0, none⟩ (.int .i64 t0)).setCell ⟨w.heap.size + 1, 1, none⟩ (.bool t1)).setCell ⟨w.heap.size + 1, 2, none⟩ (.string (bstr L.row))).setCell ⟨w.heap.size + 1, 3, none⟩ (.string (bstr t3))).setCell ⟨w.heap.size + 1, 4, none⟩ (.int .u64 t4)).heap[wb.heap.size]? = some (.deferred (some [])) := (heap_set_other _ (by omega)).trans ((heap_set_other _ (by omega)).trans ((heap_set_other _ (by omega)).trans ((heap_set_other _ (by omega)).trans ((heap_set_other _ (by omega)).trans HD7.out))))
    have hbz := below_set5 (n := w.heap.size + 1) (.int .i64 t0) (.bool t1) (.string (bstr L.row)) (.string (bstr t3)) (.int .u64 t4) HB7.out (Nat.le_succ _)
    generalize (((((( W6.setCell ⟨W4.heap.size, 2, none⟩ (.string (bstr L.row))).setCell ⟨w.heap.size + 1, 0, none⟩ (.int .i64 t0)).setCell ⟨w.heap.size + 1, 1, none⟩ (.bool t1)).setCell ⟨w.heap.size + 1, 2, none⟩ (.string (bstr L.row))).setCell ⟨w.heap.size + 1, 3, none⟩ (.string (bstr t3))).setCell ⟨w.heap.size + 1, 4, none⟩ (.int .u64 t4)) = W8 at *
    refine ⟨by simp, .inl ⟨_, _, rfl, run_takeDeferred hdz, ?_⟩⟩
    have hkz := (Kp.refl W8 (fun i => i = wb.heap.size)).put (b := wb.heap.size) (.deferred none) (.inl rfl)
    obtain ⟨q0, q1, q2, q3, q4⟩ := (hz.kept hkz (by omega)).facts
    exact ⟨_, by rw [yres1 Try.results22]; simp [go_sem, q0, q1, q2, q3, q4], ⟨⟨t0, t1, L.row, t3, t4⟩, rfl, HOK.out, bel_kpS hbz hkz (fun i hi => by omega) hbz.size⟩⟩
  · intro k T r x W hFx hmt hsz hj
    have z1 : w.heap.size + 1 + 1 < wb.heap.size := by omega
    have z2 : wb.heap.size + 2 ≤ W.heap.size := by omega
    clear hJ0 cmW clW ccW hMW hb0W hb1b hbW hWa hWb hs1 hsb hWs hsz
    have eRR : ({ RR with state := .ready, pending := none } : Loop) = RR := by
      have e1 := hRR.s
      have e2 := hRR.e
      cases RR
      simp_all
    have key : ∀ RP : Ending → World → Prop, Hid (∀ W', SK w (w.heap.size + 1 + 1) wb.heap.size F o.row o.col RR (T ++ [r]) W' → Kp W W' (fun i => i = w.heap.size + 1 + 1 ∨ i = wb.heap.size + 1) → RP (.returned (.bool true)) W') → YieldAt Fence.wide k Try.prog (wb.heap.size + 1) #[lkV r o.col x] W RP := by
      intro RP hT
      obtain ⟨L, hL, hcase⟩ := hj.fr
      obtain ⟨hst1, hst2⟩ := sk_step hFx hmt hcase
      have HC1 : Hid _ := hst1
      have HC2 : Hid _ := hst2
      obtain ⟨xr, xk, xv, xg, xx⟩ := x
      have hjr := hj.c
      have hb : Below W.heap.size W (W.alloc (.cells #[.string (bstr r), .string (bstr o.col), .string (bstr xr), .string (bstr xk), .int .u64 xv, .bool xg, .string (bstr xx), .bool true] 72)) := (Below.refl _ _).alloc (Nat.le_refl _) _
      have hcA := heap_alloc_new W (.cells #[.string (bstr r), .string (bstr o.col), .string (bstr xr), .string (bstr xk), .int .u64 xv, .bool xg, .string (bstr xx), .bool true] 72)
      have HRR : Hid _ := hRR
      have HJ : Hid _ := hj
      refine yield_round2 hjr hRR rfl ?_
      clear hRR hj hmt hFx hcase hst1 hst2
      gi_wp2
      generalize hWa : W.alloc (.cells #[.string (bstr r), .string (bstr o.col), .string (bstr xr), .string (bstr xk), .int .u64 xv, .bool xg, .string (bstr xx), .bool true] 72) = Wa at *
      have h1a := (hb.block _ (blk_lt hjr)).trans hjr
      refine ⟨_, run_beginRound h1a HRR.out.s, ?_⟩
      have hlt := blk_lt hjr
      have hne1 : W.heap.size ≠ wb.heap.size + 1 := by omega
      have hWk : ∀ k, k < W.heap.size → k ≠ wb.heap.size + 1 → (Wa.putObj (wb.heap.size + 1) (.loop { RR with state := .busy })).heap[k]? = W.heap[k]? := fun k hi h2 => (World.putObj_heap_other h2).trans (hb.block k hi)
      have hrB : (Wa.putObj (wb.heap.size + 1) (.loop { RR with state := .busy })).heap[wb.heap.size + 1]? = some (.loop { RR with state := .busy }) := World.putObj_heap_same (blk_lt h1a)
      have hcB : LkB (Wa.putObj (wb.heap.size + 1) (.loop { RR with state := .busy })) W.heap.size ⟨r, o.col, ⟨xr, xk, xv, xg, xx⟩, true⟩ := (World.putObj_heap_other hne1).trans hcA
      have hkB : Kp W (Wa.putObj (wb.heap.size + 1) (.loop { RR with state := .busy })) (fun i => i = w.heap.size + 1 + 1 ∨ i = wb.heap.size + 1) := (Kp.of_below (fun i => i = w.heap.size + 1 + 1 ∨ i = wb.heap.size + 1) hb).put _ (.inl (.inr rfl))
      have hfB : LkB (Wa.putObj (wb.heap.size + 1) (.loop { RR with state := .busy })) (w.heap.size + 1 + 1) L := (hWk _ (blk_lt hL) (by omega)).trans hL
      generalize Wa.putObj (wb.heap.size + 1) (.loop { RR with state := .busy }) = Wb at *
      obtain ⟨f0, f1, f2, f3, f4, f5, f6, f7⟩ := hfB.facts
      obtain ⟨n0, n1, n2, n3, n4, n5, n6, n7⟩ := hcB.facts
      have ff := hfB.frz
      simp only at n0 n1 n2 n3 n4 n5 n6 n7
      have HRB : Hid _ := hrB
      have HKB : Hid _ := hkB
      have HFB : Hid _ := hfB
      have HCB : Hid _ := hcB
      obtain ⟨Lr, Lc, Ln, Ls⟩ := L
      simp only at f0 f1 f2 f3 f4 f5 f6 f7
      clear hWa hb hcA h1a hWk hrB hkB hfB hcB hL hne1
      by_cases hgo : Ls = false ∨ ls r Lr = true
      · have hW8 := LkB.set8 (b := w.heap.size + 1 + 1) (l := ⟨Lr, Lc, Ln, Ls⟩) HFB.out ⟨r, o.col, ⟨xr, xk, xv, xg, xx⟩, true⟩
        have hK8 : Kp W ((((((((Wb.setCell ⟨w.heap.size + 1 + 1, 0, none⟩ (.string (bstr r))).setCell ⟨w.heap.size + 1 + 1, 1, none⟩ (.string (bstr o.col))).setCell ⟨w.heap.size + 1 + 1, 2, none⟩ (.string (bstr xr))).setCell ⟨w.heap.size + 1 + 1, 3, none⟩ (.string (bstr xk))).setCell ⟨w.heap.size + 1 + 1, 4, none⟩ (.int .u64 xv)).setCell ⟨w.heap.size + 1 + 1, 5, none⟩ (.bool xg)).setCell ⟨w.heap.size + 1 + 1, 6, none⟩ (.string (bstr xx))).setCell ⟨w.heap.size + 1 + 1, 7, none⟩ (.bool true)) (fun i => i = w.heap.size + 1 + 1 ∨ i = wb.heap.size + 1) := ((((((((HKB.out.setCell (b := w.heap.size + 1 + 1) (o := 0) (.string (bstr r)) (.inl (.inl rfl))).setCell (b := w.heap.size + 1 + 1) (o := 1) (.string (bstr o.col)) (.inl (.inl rfl))).setCell (b := w.heap.size + 1 + 1) (o := 2) (.string (bstr xr)) (.inl (.inl rfl))).setCell (b := w.heap.size + 1 + 1) (o := 3) (.string (bstr xk)) (.inl (.inl rfl))).setCell (b := w.heap.size + 1 + 1) (o := 4) (.int .u64 xv) (.inl (.inl rfl))).setCell (b := w.heap.size + 1 + 1) (o := 5) (.bool xg) (.inl (.inl rfl))).setCell (b := w.heap.size + 1 + 1) (o := 6) (.string (bstr xx)) (.inl (.inl rfl))).setCell (b := w.heap.size + 1 + 1) (o := 7) (.bool true) (.inl (.inl rfl)))
        have hR8 : ((((((((Wb.setCell ⟨w.heap.size + 1 + 1, 0, none⟩ (.string (bstr r))).setCell ⟨w.heap.size + 1 + 1, 1, none⟩ (.string (bstr o.col))).setCell ⟨w.heap.size + 1 + 1, 2, none⟩ (.string (bstr xr))).setCell ⟨w.heap.size + 1 + 1, 3, none⟩ (.string (bstr xk))).setCell ⟨w.heap.size + 1 + 1, 4, none⟩ (.int .u64 xv)).setCell ⟨w.heap.size + 1 + 1, 5, none⟩ (.bool xg)).setCell ⟨w.heap.size + 1 + 1, 6, none⟩ (.string (bstr xx))).setCell ⟨w.heap.size + 1 + 1, 7, none⟩ (.bool true)).heap[wb.heap.size + 1]? = some (.loop { RR with state := .busy }) := (set8_other (by omega)).trans HRB.out
        have hK9 := hK8.put (b := wb.heap.size + 1) (.loop RR) (.inl (.inr rfl))
        have HCL : Hid (RP (.returned (.bool true)) (((((((((Wb.setCell ⟨w.heap.size + 1 + 1, 0, none⟩ (.string (bstr r))).setCell ⟨w.heap.size + 1 + 1, 1, none⟩ (.string (bstr o.col))).setCell ⟨w.heap.size + 1 + 1, 2, none⟩ (.string (bstr xr))).setCell ⟨w.heap.size + 1 + 1, 3, none⟩ (.string (bstr xk))).setCell ⟨w.heap.size + 1 + 1, 4, none⟩ (.int .u64 xv)).setCell ⟨w.heap.size + 1 + 1, 5, none⟩ (.bool xg)).setCell ⟨w.heap.size + 1 + 1, 6, none⟩ (.string (bstr xx))).setCell ⟨w.heap.size + 1 + 1, 7, none⟩ (.bool true)).putObj (wb.heap.size + 1) (.loop RR))) := by
          refine hT.out _ ⟨⟨_, (World.putObj_heap_other (by omega)).trans hW8, .inr (HC1.out hgo)⟩, HJ.out.rz.kept hK9 (by omega), (hK9.block _ (blk_lt HJ.out.d) (by omega)).trans HJ.out.d, World.putObj_heap_same (blk_lt hR8), ?_⟩ hK9
          exact bel_kpS HJ.out.bl hK9 (fun i hi => by omega) (by omega)
        have HR5 : Hid _ := hR8
        clear hW8 hK8 hR8 hK9
        rcases hgo with rfl | hgo
        · gi_wp2
          refine ⟨_, _, run_endRound (r := { RR with state := .busy }) none HR5.out, ?_⟩
          show RP _ (World.putObj _ _ (Obj.loop { RR with state := .ready, pending := none }))
          rw [eRR]
          exact HCL.out
        · cases Ls with
          | false =>
            gi_wp2
            refine ⟨_, _, run_endRound (r := { RR with state := .busy }) none HR5.out, ?_⟩
            show RP _ (World.putObj _ _ (Obj.loop { RR with state := .ready, pending := none }))
            rw [eRR]
            exact HCL.out
          | true =>
            gi_wp2
            refine ⟨_, _, run_endRound (r := { RR with state := .busy }) none HR5.out, ?_⟩
            show RP _ (World.putObj _ _ (Obj.loop { RR with state := .ready, pending := none }))
            rw [eRR]
            exact HCL.out
      · have hgo : Ls = true ∧ ls r Lr = false := by
          cases Ls <;> cases h : ls r Lr <;> simp_all
        have hW8 := HFB.out
        have hK9 := HKB.out.put (b := wb.heap.size + 1) (.loop RR) (.inl (.inr rfl))
        have HCL : Hid (RP (.returned (.bool true)) (Wb.putObj (wb.heap.size + 1) (.loop RR))) := by
          refine hT.out _ ⟨⟨_, (World.putObj_heap_other (by omega)).trans hW8, .inr (HC2.out hgo)⟩, HJ.out.rz.kept hK9 (by omega), (hK9.block _ (blk_lt HJ.out.d) (by omega)).trans HJ.out.d, World.putObj_heap_same (blk_lt HRB.out), ?_⟩ hK9
          exact bel_kpS HJ.out.bl hK9 (fun i hi => by omega) (by omega)
        have HR5 : Hid _ := HRB.out
        clear hW8 hK9
        obtain ⟨rfl, hgo⟩ := hgo
        gi_wp2
        refine ⟨_, _, run_endRound (r := { RR with state := .busy }) none HR5.out, ?_⟩
        show RP _ (World.putObj _ _ (Obj.loop { RR with state := .ready, pending := none }))
        rw [eRR]
        exact HCL.out
    exact key _ (fun W' h1 h2 => ⟨rfl, h1, h2⟩)

end Go.Proofs.Ytlkikfkchgmmhaa
