/-
  The looks of a model: as, tell; a cell that shares nothing with another one.
-/
import Derived.Test.YtlkikfkchgmmhaaYFn
namespace Go.Proofs.Ytlkikfkchgmmhaa
open Go.RowKit Go.BigFrame Go.Sort
attribute [local go_sem] size_bstr toList_bstr ls_def

set_option maxHeartbeats 4000000 in
set_option maxRecDepth 100000 in
theorem yfresh_any (c : Cl) (w : World) (hc : Fits c) :
    Calls Try.prog 21 #[clV c] w fun e w' => e = .returned (clV c) ∧ Below w.heap.size w w' := by
  obtain ⟨r, k, v, g, x⟩ := c
  obtain ⟨h1, h2, h3⟩ := hc
  simp only at h1 h2 h3
  have hF := Fr.start w ⟨r, k, v, g, x⟩
  have hB : Below w.heap.size w ((w.alloc (.cells #[.string (bstr r), .string (bstr k), .int .u64 v, .bool g, .string (bstr x)] 38)).alloc (.cells #[.string ⟨#[]⟩, .string ⟨#[]⟩, .int .u64 0, .bool false, .string ⟨#[]⟩] 38)) := ((Below.refl _ _).alloc (Nat.le_refl _) _).alloc (by simp) _
  go_enter Try.func21, Try.ntmps21
  go_wp2_with fail
  generalize (w.alloc (.cells #[.string (bstr r), .string (bstr k), .int .u64 v, .bool g, .string (bstr x)] 38)).alloc (.cells #[.string ⟨#[]⟩, .string ⟨#[]⟩, .int .u64 0, .bool false, .string ⟨#[]⟩] 38) = W at *
  obtain ⟨c0, c1, _, _, c4, f0, f1, f4⟩ := hF.facts
  simp only at c0 c1 c4
  go_region_held3 (fun w' => w'.cell? ⟨w.heap.size, 0, none⟩ = some (.string (bstr r)) ∧ w'.cell? ⟨w.heap.size, 1, none⟩ = some (.string (bstr k)) ∧ w'.cell? ⟨w.heap.size, 4, none⟩ = some (.string (bstr x))) (first | with_reducible exact ⟨c0, c1, c4⟩ | go_keep)
    (first
      | (go_at_call 39; refine (CClone_any _ _ (by omega)).mono ?_; rintro e wf ⟨rfl, hbf⟩; replace hB := below2 hB.drew hbf; replace hF := hF.drew.step hbf; clear c0 c1 c4 f0 f1 f4; obtain ⟨c0, c1, _, _, c4, f0, f1, f4⟩ := hF.facts; obtain ⟨n0, n1, n4⟩ := hF.still; simp only at c0 c1 c4 n0 n1 n4; clear hbf)
      | (go_at_call 39; refine (CClone_any _ _ (by omega)).mono ?_; rintro e wf ⟨rfl, hbf⟩; replace hB := below2 hB hbf; replace hF := hF.step hbf; clear c0 c1 c4 f0 f1 f4 n0 n1 n4; obtain ⟨c0, c1, _, _, c4, f0, f1, f4⟩ := hF.facts; obtain ⟨n0, n1, n4⟩ := hF.still; simp only at c0 c1 c4 n0 n1 n4; clear hbf))
  obtain ⟨d0, d1, d2, d3, d4, g0, g1, g2, g3, g4⟩ := hF.res
  obtain ⟨_, _, c2, c3, _⟩ := hF.facts
  simp only at c2 c3
  clear n0 n1 n4 f0 f1 f4
  go_wp2
  generalize hW : ((((wf.setCell ⟨w.heap.size + 1, 0, none⟩ _).setCell ⟨w.heap.size + 1, 1, none⟩ _).setCell ⟨w.heap.size + 1, 2, none⟩ _).setCell ⟨w.heap.size + 1, 3, none⟩ _).setCell ⟨w.heap.size + 1, 4, none⟩ _ = W'
  obtain ⟨r0, r1, r2, r3, r4⟩ := set5_reads d0 d1 d2 d3 d4 hW
  refine bodyPost_ret (v := clV ⟨r, k, v, g, x⟩) (by simp [results, Try.results21, go_sem, r0, r1, r2, r3, r4]) rfl ⟨rfl, ?_⟩
  rw [← hW]
  exact below_set5 _ _ _ _ _ hB (Nat.le_succ _)

theorem bel_drewN {B : Nat} {a w : World} (h : Below B a w) (n : Nat) : Below B a (w.drewN n) := ⟨h.os, h.tape, h.output, h.size, h.block⟩
/-- A result lies there. -/
def RzB (w : World) (b : Nat) (r : Rz) : Prop := w.heap[b]? = some (.cells (rzC r) 29 (0, 0))
theorem RzB.below {w w' : World} {b : Nat} {r : Rz} {B : Nat} (h : RzB w b r) (hb : Below B w w') (hB : b < B) : RzB w' b r := (hb.block b hB).trans h
theorem RzB.kept {w w' : World} {b : Nat} {r : Rz} {S : Nat → Prop} (h : RzB w b r) (hk : Kp w w' S) (hS : ¬ S b) : RzB w' b r := (hk.block b (blk_lt h) hS).trans h
theorem RzB.new (w : World) : RzB (w.alloc (.cells #[.int .i64 0, .bool false, .string ⟨#[]⟩, .string ⟨#[]⟩, .int .u64 0] 29)) w.heap.size rz0 := heap_alloc_new w _
theorem RzB.facts {w : World} {b : Nat} {r : Rz} (h : RzB w b r) : w.cell? ⟨b, 0, none⟩ = some (.int .i64 r.err) ∧ w.cell? ⟨b, 1, none⟩ = some (.bool r.found) ∧ w.cell? ⟨b, 2, none⟩ = some (.string (bstr r.row)) ∧ w.cell? ⟨b, 3, none⟩ = some (.string (bstr r.val)) ∧ w.cell? ⟨b, 4, none⟩ = some (.int .u64 r.ver) :=
  ⟨(mcells h).1 0, (mcells h).1 1, (mcells h).1 2, (mcells h).1 3, (mcells h).1 4⟩
theorem RzB.set {w : World} {b : Nat} {r : Rz} (h : RzB w b r) (r' : Rz) : RzB (((((w.setCell ⟨b, 0, none⟩ (.int .i64 r'.err)).setCell ⟨b, 1, none⟩ (.bool r'.found)).setCell ⟨b, 2, none⟩ (.string (bstr r'.row))).setCell ⟨b, 3, none⟩ (.string (bstr r'.val))).setCell ⟨b, 4, none⟩ (.int .u64 r'.ver)) b r' := by
  have h1 := heap_set_same h (o := 0) (.int .i64 r'.err)
  have h2 := heap_set_same h1 (o := 1) (.bool r'.found)
  have h3 := heap_set_same h2 (o := 2) (.string (bstr r'.row))
  have h4 := heap_set_same h3 (o := 3) (.string (bstr r'.val))
  exact heap_set_same h4 (o := 4) (.int .u64 r'.ver)
theorem cell_set5 {W : World} {n b o : Nat} {p q r s t : Value} (h : b ≠ n) : (((((W.setCell ⟨n, 0, none⟩ p).setCell ⟨n, 1, none⟩ q).setCell ⟨n, 2, none⟩ r).setCell ⟨n, 3, none⟩ s).setCell ⟨n, 4, none⟩ t).cell? ⟨b, o, none⟩ = W.cell? ⟨b, o, none⟩ :=
  World.cell?_of_block ((heap_set_other _ h).trans ((heap_set_other _ h).trans ((heap_set_other _ h).trans ((heap_set_other _ h).trans (heap_set_other _ h)))))
theorem yres1 {fn : Func} {p : Tmp} {ty : TypeId} (h : fn.results = #[.cell p ty]) (tmps : Array Value) (P : Program) (w : World) :
    (results fn tmps).run P w = ((asAddr (tmps.getD p undef)).run P w).andThen fun a w₁ => (loadVar ty a).run P w₁ := by
  simp only [results, h]
  simp [Sem.run_bind, Result.andThen]
/-- A result, answered. -/
theorem ret_rz {fn : Func} {p : Tmp} (h : fn.results = #[.cell p 29]) {R : Ending → World → Prop} {a : Act} {w : World} {b : Nat} {r : Rz} (hp : a.tmps.getD p undef = .pointer (some ⟨b, 0, none⟩)) (hat : RzB w b r) (hd : a.defers = []) (hR : R (.returned (rzV r)) w) :
    bodyPost Try.prog fn R .ret a w := by
  obtain ⟨q0, q1, q2, q3, q4⟩ := hat.facts
  exact bodyPost_ret (v := rzV r) (by rw [yres1 h, hp]; simp [go_sem, q0, q1, q2, q3, q4]) hd hR
/-- A result and cells, answered. -/
theorem ret_rz2 {fn : Func} {p u : Tmp} (h : fn.results = #[.cell p 29, .tmp u]) {R : Ending → World → Prop} {a : Act} {w : World} {b : Nat} {r : Rz} {v : Value} (hp : a.tmps.getD p undef = .pointer (some ⟨b, 0, none⟩)) (hu : a.tmps.getD u undef = v) (hat : RzB w b r) (hd : a.defers = []) (hR : R (.returned (.tuple #[rzV r, v])) w) :
    bodyPost Try.prog fn R .ret a w := by
  obtain ⟨q0, q1, q2, q3, q4⟩ := hat.facts
  exact bodyPost_ret (v := .tuple #[rzV r, v]) (by rw [res_cell2 h, hp, hu]; simp [go_sem, q0, q1, q2, q3, q4]) hd hR

set_option maxHeartbeats 4000000 in
set_option maxRecDepth 100000 in
theorem as_any (b : Nat) (l : Lk) (o : Oq) (w : World) (hL : LkB w b l) : Calls Try.prog 33 #[.pointer (some ⟨b, 0, none⟩), oqV o] w fun e w' => e = .returned (.bool (asL l o)) ∧ Below w.heap.size w w' := by
  have hb1 : Below w.heap.size w (w.alloc (.cells (oqC o) 32)) := (Below.refl _ _).alloc (Nat.le_refl _) _
  have x1 := heap_alloc_new w (.cells (oqC o) 32)
  obtain ⟨w1, hw1⟩ : ∃ w1, w1 = w.alloc (.cells (oqC o) 32) := ⟨_, rfl⟩
  rw [← hw1] at hb1 x1
  have hL1 := hL.below hb1 (blk_lt hL)
  have HW1 : Hid _ := hw1
  clear hw1 hL
  have hth := there_any b l w1 hL1
  obtain ⟨_, _, _, _, _, c5, c6, c7⟩ := hL1.facts
  obtain ⟨d4, d5⟩ : w1.cell? ⟨w.heap.size, 4, none⟩ = some (.bool o.has) ∧ w1.cell? ⟨w.heap.size, 5, none⟩ = some (.string (bstr o.exp)) := ⟨(mcells x1).1 4, (mcells x1).1 5⟩
  unfold asL
  cases ht : thereL l with
  | false =>
    rw [ht] at hth
    go_enter Try.func33, Try.ntmps33
    go_wp2_with fail
    rw [show #[.int .i64 o.kind, .string (bstr o.row), .string (bstr o.col), .string (bstr o.val), .bool o.has, .string (bstr o.exp)] = oqC o from rfl, ← HW1.out]
    refine hth.mono ?_
    rintro e w2 ⟨rfl, rfl⟩
    go_wp2
    go_ret
    exact ⟨rfl, hb1⟩
  | true =>
    rw [ht] at hth
    obtain ⟨ok, orow, ocol, oval, ohas, oexp⟩ := o
    simp only at d4 d5
    cases ohas with
    | false =>
      go_enter Try.func33, Try.ntmps33
      go_wp2_with fail
      rw [show #[.int .i64 ok, .string (bstr orow), .string (bstr ocol), .string (bstr oval), .bool false, .string (bstr oexp)] = oqC ⟨ok, orow, ocol, oval, false, oexp⟩ from rfl, ← HW1.out]
      refine hth.mono ?_
      rintro e w2 ⟨rfl, rfl⟩
      go_wp2_with fail
      go_quiet (fail)
      go_wp2
      go_ret
      exact ⟨rfl, bel_drewN hb1 _⟩
    | true =>
      go_enter Try.func33, Try.ntmps33
      go_wp2_with fail
      rw [show #[.int .i64 ok, .string (bstr orow), .string (bstr ocol), .string (bstr oval), .bool true, .string (bstr oexp)] = oqC ⟨ok, orow, ocol, oval, true, oexp⟩ from rfl, ← HW1.out]
      refine hth.mono ?_
      rintro e w2 ⟨rfl, rfl⟩
      go_wp2_with fail
      go_quiet (fail)
      go_wp2
      go_ret
      exact ⟨by simp [Bool.beq_eq_decide_eq], bel_drewN hb1 _⟩

set_option maxHeartbeats 4000000 in
set_option maxRecDepth 100000 in
theorem tell_any (b : Nat) (l : Lk) (w : World) (hL : LkB w b l) (hv : l.new.val.length ≤ 140737488351232) : Calls Try.prog 31 #[.pointer (some ⟨b, 0, none⟩)] w fun e w' => e = .returned (rzV (tellL l)) ∧ Below w.heap.size w w' := by
  have hb1 : Below w.heap.size w (w.alloc (.cells #[.int .i64 0, .bool false, .string ⟨#[]⟩, .string ⟨#[]⟩, .int .u64 0] 29)) := (Below.refl _ _).alloc (Nat.le_refl _) _
  have x1 := heap_alloc_new w (.cells #[.int .i64 0, .bool false, .string ⟨#[]⟩, .string ⟨#[]⟩, .int .u64 0] 29)
  obtain ⟨w1, hw1⟩ : ∃ w1, w1 = w.alloc (.cells #[.int .i64 0, .bool false, .string ⟨#[]⟩, .string ⟨#[]⟩, .int .u64 0] 29) := ⟨_, rfl⟩
  rw [← hw1] at hb1 x1
  have hL1 := hL.below hb1 (blk_lt hL)
  have HW1 : Hid _ := hw1
  clear hw1 hL
  have hth := there_any b l w1 hL1
  unfold tellL
  cases ht : thereL l with
  | false =>
    rw [ht] at hth
    go_enter Try.func31, Try.ntmps31
    go_wp2_with fail
    rw [← HW1.out]
    refine hth.mono ?_
    rintro e w2 ⟨rfl, rfl⟩
    obtain ⟨q0, q1, q2, q3, q4⟩ := RzB.facts (r := rz0) x1
    have fz := (mcells x1).2
    have HR : Hid _ := RzB.set (r := rz0) x1 rz0
    have HB : Hid _ := below_set5 (n := w.heap.size) (.int .i64 0) (.bool false) (.string ⟨#[]⟩) (.string ⟨#[]⟩) (.int .u64 0) hb1 (Nat.le_refl _)
    clear hth x1 hL1
    go_wp2
    exact ret_rz Try.results31 rfl HR.out rfl ⟨by simp, HB.out⟩
  | true =>
    rw [ht] at hth
    obtain ⟨_, _, _, _, c4, _, c6, _⟩ := hL1.facts
    go_enter Try.func31, Try.ntmps31
    go_wp2_with fail
    rw [← HW1.out]
    refine hth.mono ?_
    rintro e w2 ⟨rfl, rfl⟩
    clear hth
    have hz : b ≠ w.heap.size := fun h => by subst h; rw [hL1] at x1; cases x1
    go_wp2_with fail
    go_region_held3 (fun w' => w'.cell? ⟨b, 4, none⟩ = some (.int .u64 l.new.ver) ∧ w'.cell? ⟨b, 6, none⟩ = some (.string (bstr l.new.val))) (first | with_reducible exact ⟨c4, c6⟩ | with_reducible exact ⟨(cell_set5 hz).trans c4, (cell_set5 hz).trans c6⟩ | go_keep)
      (first
        | (go_at_call 39; refine (CClone_any _ _ (by omega)).mono ?_; rintro e wf ⟨rfl, hbf⟩; replace hb1 := below2 hb1.drew hbf; have y1 : RzB wf w.heap.size rz0 := (hbf.block _ (blk_lt x1)).trans x1; have hLf : LkB wf b l := (hbf.block _ (blk_lt hL1)).trans hL1; clear c4 c6; obtain ⟨_, _, _, _, c4, _, c6, _⟩ := hLf.facts; obtain ⟨q0, q1, q2, q3, q4⟩ := y1.facts; have fz := (mcells y1).2; clear hbf))
    have HR : Hid _ := y1.set ⟨0, true, [], l.new.val, l.new.ver⟩
    have HB : Hid _ := below_set5 (n := w.heap.size) (.int .i64 0) (.bool true) (.string ⟨#[]⟩) (.string (bstr l.new.val)) (.int .u64 l.new.ver) hb1 (Nat.le_refl _)
    clear y1 hLf hb1
    go_wp2
    exact ret_rz Try.results31 rfl HR.out rfl ⟨by simp, HB.out⟩

end Go.Proofs.Ytlkikfkchgmmhaa
