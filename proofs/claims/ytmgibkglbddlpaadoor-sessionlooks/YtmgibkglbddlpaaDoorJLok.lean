/-
  session.Look.
-/
import Derived.Test.YtmgibkglbddlpaaDoorJSe2
namespace Go.Proofs.YtmgibkglbddlpaaDoor
open Go.RowKit Go.BigFrame
attribute [local go_sem] size_bstr toList_bstr

/-- What Look answers. -/
def lkK (c : List UInt8) (q : Nat) : Nat := if 1 ≤ q ∧ q ≤ 1099511627776 then (if rdE c = 0 then (if q = rdN c then 2 else if q < rdN c then 3 else 4) else 1) else 0
def lkR (c : List UInt8) (q : Nat) : Rz := if lkK c q = 2 then rdR c else rz0
def lkA (c : List UInt8) (q : Nat) : Bool := decide (lkK c q = 2)
def lkE (c : List UInt8) (q : Nat) : Int := if lkK c q = 0 then 2 else if lkK c q = 1 then 4 else if lkK c q = 3 then 12 else 0
theorem rdE_two (c : List UInt8) : rdE c = 0 ∨ rdE c = 4 := by
  unfold rdE
  split
  · exact .inl rfl
  · split
    · exact .inl rfl
    · exact .inr rfl
theorem res_cell3' {fn : Func} {p u v : Tmp} {ty : TypeId} (h : fn.results = #[.cell p ty, .tmp u, .tmp v]) (tmps : Array Value) (P : Program) (w : World) :
    (results fn tmps).run P w = ((asAddr (tmps.getD p undef)).run P w).andThen fun a w₁ => ((loadVar ty a).run P w₁).andThen fun x w₂ => .ok (.tuple #[x, tmps.getD u undef, tmps.getD v undef]) w₂ := by
  simp only [results, h]
  simp [Sem.run_bind, Result.andThen]
theorem ret_rz3 {fn : Func} {p u t : Tmp} (h : fn.results = #[.cell p 25, .tmp u, .tmp t]) {R : Ending → World → Prop} {a : Act} {w : World} {b : Nat} {r : Rz} {x y : Value} (hp : a.tmps.getD p undef = .pointer (some ⟨b, 0, none⟩)) (hu : a.tmps.getD u undef = x) (ht : a.tmps.getD t undef = y) (hat : RzB w b r) (hd : a.defers = []) (hR : R (.returned (.tuple #[rzV r, x, y])) w) :
    bodyPost Tryd.prog fn R .ret a w := by
  obtain ⟨q0, q1, q2, q3, q4⟩ := hat.facts
  exact bodyPost_ret (v := .tuple #[rzV r, x, y]) (by rw [res_cell3' h, hp, hu, ht]; simp [go_sem, q0, q1, q2, q3, q4]) hd hR

set_option maxHeartbeats 8000000 in
set_option maxRecDepth 100000 in
theorem jLook_any (c : List UInt8) (q : Nat) (w : World) (hl : c.length ≤ 65536) :
    Calls Tryd.prog 5 #[.string (bstr c), .int .u64 (q : Int)] w fun e w' => e = .returned (.tuple #[rzV (lkR c q), .bool (lkA c q), .int .i64 (lkE c q)]) ∧ Below w.heap.size w w' := by
  obtain ⟨w1, hw1⟩ : ∃ w1, w1 = w.alloc (.cells #[.int .i64 0, .bool false, .string ⟨#[]⟩, .string ⟨#[]⟩, .int .u64 0] 25) := ⟨_, rfl⟩
  have hz1 : RzB w1 w.heap.size rz0 := by rw [hw1]; exact RzB.new w
  have hB1 : Below w.heap.size w w1 := by rw [hw1]; exact bel_alloc (Below.refl _ _)
  have HW : Hid _ := hw1
  clear hw1
  obtain ⟨R, hR⟩ : ∃ R, R = rdR c := ⟨_, rfl⟩
  obtain ⟨N, hN⟩ : ∃ N, N = rdN c := ⟨_, rfl⟩
  obtain ⟨E, hE⟩ : ∃ E, E = rdE c := ⟨_, rfl⟩
  obtain ⟨sq, hsq⟩ : ∃ sq, sq = decide (1 ≤ q ∧ q ≤ 1099511627776) := ⟨_, rfl⟩
  have HR : Hid _ := hR
  have HN : Hid _ := hN
  have HE : Hid _ := hE
  have HS : Hid _ := hsq
  clear hR hN hE hsq
  go_enter Tryd.func5, Tryd.ntmps5
  go_upto_region 1 with fail
  rw [← HW.out]
  clear HW
  go_wp2_with fail
  refine (jRead_any c w1 hl).mono ?_
  rintro e w2 ⟨rfl, hb2⟩
  rw [← HR.out, ← HN.out, ← HE.out]
  have hz2 := hz1.below hb2 hz1.lt
  have hB2 := bel_call hb2 hB1
  clear hz1 hB1 hb2
  obtain ⟨de, df, dr, dv, dn⟩ := R
  obtain ⟨X, hX⟩ : ∃ X, X = w2.heap.size := ⟨_, rfl⟩
  obtain ⟨w3, hw3⟩ : ∃ w3, w3 = w2.alloc (.cells #[.int .u64 (N : Int), .int .i64 de, .bool df, .string (bstr dr), .string (bstr dv), .int .u64 (dn : Int)] 36) := ⟨_, rfl⟩
  have hb3 : Below w2.heap.size w2 w3 := by rw [hw3]; exact (Below.refl _ _).alloc (Nat.le_refl _) _
  have hx3 : AnB w3 X N ⟨de, df, dr, dv, dn⟩ := by rw [hw3, hX]; exact heap_alloc_new w2 _
  have hz3 := hz2.below hb3 hz2.lt
  have hB3 := bel_call hb3 hB2
  have HW : Hid _ := hw3
  have HX : Hid _ := hX
  clear hw3 hb3 hz2 hB2
  go_upto_region 2 with fail
  rw [← HX.out]
  have HW2 := HW.out
  rw [← HW2]
  clear HW2 HW HX hX
  obtain ⟨x0, x1, x2, x3, x4, x5⟩ := hx3.facts
  simp only at x0 x1 x2 x3 x4 x5
  obtain ⟨Y, hY⟩ : ∃ Y, Y = w3.heap.size := ⟨_, rfl⟩
  obtain ⟨w4, hw4⟩ : ∃ w4, w4 = w3.alloc (.cells #[.int .u64 (q : Int), .int .i64 de, .bool df, .string (bstr dr), .string (bstr dv), .int .u64 (dn : Int)] 36) := ⟨_, rfl⟩
  have hb4 : Below w3.heap.size w3 w4 := by rw [hw4]; exact (Below.refl _ _).alloc (Nat.le_refl _) _
  have hy4 : AnB w4 Y q ⟨de, df, dr, dv, dn⟩ := by rw [hw4, hY]; exact heap_alloc_new w3 _
  have hx4 := hx3.below hb4 hx3.lt
  have hz4 := hz3.below hb4 hz3.lt
  have hB4 := bel_call hb4 hB3
  have HW : Hid _ := hw4
  have HX : Hid _ := hY
  clear hw4 hb4 hz3 hB3 hx3
  go_upto_region 3 with fail
  rw [← HX.out]
  have HW2 := HW.out
  rw [← HW2]
  clear HW2 HW HX hY x0 x1 x2 x3 x4 x5
  obtain ⟨x0, x1, x2, x3, x4, x5⟩ := hx4.facts
  obtain ⟨y0, y1, y2, y3, y4, y5⟩ := hy4.facts
  obtain ⟨z0, z1, z2, z3, z4⟩ := hz4.facts
  simp only at x0 x1 x2 x3 x4 x5 y0 y1 y2 y3 y4 y5 z0 z1 z2 z3 z4
  have fz := hz4.frz
  go_wp2_with fail
  refine (jSeq_any q w4).mono ?_
  rintro e w5 ⟨rfl, rfl⟩
  rw [← HS.out]
  cases sq with
  | false =>
    have hk : lkK c q = 0 := if_neg (of_decide_eq_false HS.out.symm)
    have e2 : Ending.returned (.tuple #[rzV (lkR c q), .bool (lkA c q), .int .i64 (lkE c q)]) = .returned (.tuple #[rzV rz0, .bool false, .int .i64 2]) := by unfold lkR lkA lkE; rw [hk]; rfl
    have E2 : Hid _ := e2
    clear hk e2
    go_wp2
    exact ret_rz3 (x := .bool false) (y := .int .i64 2) rfl rfl rfl rfl (hz4.set rz0) rfl ⟨E2.out.symm, bel_set5 hB4⟩
  | true =>
    have hs1 := of_decide_eq_true HS.out.symm
    rcases rdE_two c with hE0 | hE0
    · obtain rfl : E = 0 := HE.out.trans hE0
      have hqe := an_eql
      have hge := an_guard
      have hself : eqR ⟨de, df, dr, dv, dn⟩ ⟨de, df, dr, dv, dn⟩ = true := eqR_iff.2 rfl
      by_cases hqn : q = N
      · have hk : lkK c q = 2 := by unfold lkK; rw [if_pos hs1, if_pos hE0, if_pos (hqn.trans HN.out)]
        have e2 : Ending.returned (.tuple #[rzV (lkR c q), .bool (lkA c q), .int .i64 (lkE c q)]) = .returned (.tuple #[rzV ⟨de, df, dr, dv, dn⟩, .bool true, .int .i64 0]) := by unfold lkR lkA lkE; rw [hk, HR.out]; rfl
        have E2 : Hid _ := e2
        have hqi : decide ((q : Int) = (N : Int)) = true := decide_eq_true (by omega)
        subst hqn
        clear hk e2 hs1 hE0
        go_wp2
        exact ret_rz3 (x := .bool true) (y := .int .i64 0) rfl rfl rfl rfl (hz4.set ⟨de, df, dr, dv, dn⟩) rfl ⟨E2.out.symm, bel_set5 hB4⟩
      · have hqi : decide ((q : Int) = (N : Int)) = false := decide_eq_false (by omega)
        have hqm : ¬ ((q : Int) = (N : Int)) := by omega
        by_cases hlt : q < N
        · have hk : lkK c q = 3 := by unfold lkK; rw [if_pos hs1, if_pos hE0, if_neg (fun e => hqn (e.trans HN.out.symm)), if_pos (by rw [← HN.out]; exact hlt)]
          have e2 : Ending.returned (.tuple #[rzV (lkR c q), .bool (lkA c q), .int .i64 (lkE c q)]) = .returned (.tuple #[rzV rz0, .bool false, .int .i64 12]) := by unfold lkR lkA lkE; rw [hk]; rfl
          have E2 : Hid _ := e2
          have hli : (q : Int) < (N : Int) := by omega
          clear hk e2 hs1 hE0
          go_wp2
          exact ret_rz3 (x := .bool false) (y := .int .i64 12) rfl rfl rfl rfl (hz4.set rz0) rfl ⟨E2.out.symm, bel_set5 hB4⟩
        · have hk : lkK c q = 4 := by unfold lkK; rw [if_pos hs1, if_pos hE0, if_neg (fun e => hqn (e.trans HN.out.symm)), if_neg (by rw [← HN.out]; exact hlt)]
          have e2 : Ending.returned (.tuple #[rzV (lkR c q), .bool (lkA c q), .int .i64 (lkE c q)]) = .returned (.tuple #[rzV rz0, .bool false, .int .i64 0]) := by unfold lkR lkA lkE; rw [hk]; rfl
          have E2 : Hid _ := e2
          have hli : (N : Int) < (q : Int) := by omega
          clear hk e2 hs1 hE0
          go_wp2
          exact ret_rz3 (x := .bool false) (y := .int .i64 0) rfl rfl rfl rfl (hz4.set rz0) rfl ⟨E2.out.symm, bel_set5 hB4⟩
    · obtain rfl : E = 4 := HE.out.trans hE0
      have hk : lkK c q = 1 := by unfold lkK; rw [if_pos hs1, if_neg (by rw [hE0]; decide)]
      have e2 : Ending.returned (.tuple #[rzV (lkR c q), .bool (lkA c q), .int .i64 (lkE c q)]) = .returned (.tuple #[rzV rz0, .bool false, .int .i64 4]) := by unfold lkR lkA lkE; rw [hk]; rfl
      have E2 : Hid _ := e2
      clear hk e2 hs1 hE0
      go_wp2
      exact ret_rz3 (x := .bool false) (y := .int .i64 4) rfl rfl rfl rfl (hz4.set rz0) rfl ⟨E2.out.symm, bel_set5 hB4⟩

end Go.Proofs.YtmgibkglbddlpaaDoor
