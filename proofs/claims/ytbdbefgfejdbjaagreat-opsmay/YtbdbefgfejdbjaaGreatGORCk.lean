/-
  The document's answers (for a program that lacks cells): may a key be, may an operation be?
  The document's small questions of ops: written by mkorck.py.
-/
import Derived.Test.YtbdbefgfejdbjaaGreatGOMod
import Derived.Test.YtbdbefgfejdbjaaGreatGOOpen
namespace Go.Proofs.YtbdbefgfejdbjaaGreat
open Go.RowKit Go.BigFrame
attribute [local go_sem] size_bstr toList_bstr

theorem op_row (o : Oq) (B : Nat) {w w' : World} {b : Nat} (h : OqB w b o) (hb : Below B w w') (hB : b < B) : OqB w' b o := (hb.block b hB).trans h

set_option maxHeartbeats 1000000 in
theorem RUser_any (k : List UInt8) (w : World) :
    Calls Tryz.prog 42 #[.string (bstr k)] w fun e w' => e = .returned (.bool (userB k)) ∧ Below w.heap.size w w' := by
  have hB : Below w.heap.size w w := Below.refl _ _
  by_cases hp : 1 ≤ k.length
  · have g : decide ((1 : Int) ≤ (k.length : Int)) = true := by rw [decide_eq_true_eq]; omega
    have hu : userB k = decide ((k.length : Int) ≤ 24) := by simp [userB, hp]; omega
    rw [hu]
    go_enter Tryz.func42, Tryz.ntmps42
    go_wp2
    go_ret
    exact ⟨rfl, hB⟩
  · have g : decide ((1 : Int) ≤ (k.length : Int)) = false := by rw [decide_eq_false_iff_not]; omega
    have hu : userB k = false := by simp [userB, hp]
    rw [hu]
    go_enter Tryz.func42, Tryz.ntmps42
    go_wp2
    go_ret
    exact ⟨rfl, hB⟩

set_option maxHeartbeats 1000000 in
theorem RStored_any (k : List UInt8) (w : World) :
    Calls Tryz.prog 44 #[.string (bstr k)] w fun e w' => e = .returned (.bool (storedB k)) ∧ Below w.heap.size w w' := by
  have hB : Below w.heap.size w w := Below.refl _ _
  have hu : storedB k = decide ((k.length : Int) ≤ 32) := by simp [storedB]; omega
  rw [hu]
  go_enter Tryz.func44, Tryz.ntmps44
  go_wp2
  go_ret
  exact ⟨rfl, hB⟩

set_option maxHeartbeats 8000000 in
set_option maxRecDepth 100000 in
theorem YMay_any (o : Oq) (w : World) : Calls Tryz.prog 74 #[oqV o] w fun e w' => e = .returned (.bool (mayO o)) ∧ Below w.heap.size w w' := by
  obtain ⟨mb, hmb⟩ : ∃ mb, mb = mayO o := ⟨_, rfl⟩
  rw [← hmb]
  obtain ⟨k, r, c, v, h, x⟩ := o
  have HMB : Hid _ := hmb
  clear hmb
  obtain ⟨w1, hw1⟩ : ∃ w1, w1 = (w.alloc (.cells (oqC ⟨k, r, c, v, h, x⟩) 24)).alloc (.cells (oqC ⟨k, r, c, [], false, []⟩) 24) := ⟨_, rfl⟩
  have hb1 : Below w.heap.size w w1 := by rw [hw1]; exact ((Below.refl _ _).alloc (Nat.le_refl _) _).alloc (by simp) _
  have x1 : OqB w1 w.heap.size ⟨k, r, c, v, h, x⟩ := by rw [hw1]; exact (Below.heap_alloc _ _ _ (by simp)).trans (heap_alloc_new w _)
  have x2 : OqB w1 (w.heap.size + 1) ⟨k, r, c, [], false, []⟩ := by
    have h := heap_alloc_new (w.alloc (.cells (oqC ⟨k, r, c, v, h, x⟩) 24)) (.cells (oqC ⟨k, r, c, [], false, []⟩) 24)
    rw [World.size_alloc] at h
    rw [hw1]
    exact h
  have HW1 : Hid _ := hw1
  clear hw1
  have hu := fun W => RUser_any r W
  have hst := fun W => RStored_any r W
  go_enter Tryz.func74, Tryz.ntmps74
  go_wp2_with fail
  rw [show #[.int .i64 k, .string (bstr r), .string (bstr c), .string (bstr v), .bool h, .string (bstr x)] = oqC ⟨k, r, c, v, h, x⟩ from rfl, show #[.int .i64 k, .string (bstr r), .string (bstr c), .string ⟨#[]⟩, .bool false, .string ⟨#[]⟩] = oqC ⟨k, r, c, [], false, []⟩ from rfl, ← HW1.out]
  refine (hu w1).mono ?_
  rintro e w2 ⟨rfl, hb2⟩
  have hb12 := below2 hb1 hb2
  have y1 := op_row _ _ x1 hb2 (blk_lt x1)
  have y2 := op_row _ _ x2 hb2 (blk_lt x2)
  clear HW1 x1 x2 hb1 hb2 hu
  obtain ⟨c0, c1, c2, c3, c4, c5⟩ := y1.facts
  obtain ⟨d0, d1, d2, d3, d4, d5⟩ := y2.facts
  simp only at c0 c1 c2 c3 c4 c5 d0 d1 d2 d3 d4 d5
  have f3 := (mcells y2).2
  go_upto_block 0 with fail
  go_cut [4] from 17 (fun s4 wx => ∃ ib : Bool, s4 = .bool ib ∧ OqB wx w.heap.size ⟨k, r, c, v, h, x⟩ ∧ Below w.heap.size w wx ∧ ((1 ≤ k ∧ k ≤ 5 ∧ ib = (if k = 5 then storedB r else userB r) ∧ OqB wx (w.heap.size + 1) (mayQ ⟨k, r, c, v, h, x⟩)) ∨ (ib = false ∧ mb = false)))
  case first =>
    by_cases k2 : k = 2
    · subst k2
      go_wp2
      go_meet
      case rel => exact ⟨_, rfl, y1, hb12, .inl ⟨by omega, by omega, rfl, y2⟩⟩
    by_cases k3 : k = 3
    · subst k3
      go_wp2
      go_meet
      case rel => exact ⟨_, rfl, y1, hb12, .inl ⟨by omega, by omega, rfl, y2⟩⟩
    by_cases k1 : k = 1
    · subst k1
      have HS : Hid _ := heap_set_same y2 (o := 3) (.string (bstr v))
      have HX : Hid _ := (heap_set_other (w := w2) (b := w.heap.size + 1) (o := 3) (i := w.heap.size) (.string (bstr v)) (by omega)).trans y1
      have HB : Hid _ := hb12.setCell (p := ⟨w.heap.size + 1, 3, none⟩) (Nat.le_succ _) (.string (bstr v))
      go_wp2
      go_meet
      case rel => exact ⟨_, rfl, HX.out, HB.out, .inl ⟨by omega, by omega, rfl, HS.out⟩⟩
    by_cases k5 : k = 5
    · subst k5
      go_wp2_with fail
      refine (hst w2).mono ?_
      rintro e w3 ⟨rfl, hb3⟩
      go_wp2
      go_meet
      case rel => exact ⟨_, rfl, op_row _ _ y1 hb3 (blk_lt y1), below2 hb12 hb3, .inl ⟨by omega, by omega, rfl, op_row _ _ y2 hb3 (blk_lt y2)⟩⟩
    by_cases k4 : k = 4
    · subst k4
      have h1 := heap_set_same y2 (o := 3) (.string (bstr v))
      have h2 := heap_set_same h1 (o := 4) (.bool h)
      have HX2 : Hid (OqB ((w2.setCell ⟨w.heap.size + 1, 3, none⟩ (.string (bstr v))).setCell ⟨w.heap.size + 1, 4, none⟩ (.bool h)) w.heap.size ⟨4, r, c, v, h, x⟩) := ((heap_set_other _ (by omega)).trans (heap_set_other _ (by omega))).trans y1
      have HB2 : Hid _ := (hb12.setCell (p := ⟨w.heap.size + 1, 3, none⟩) (Nat.le_succ _) (.string (bstr v))).setCell (p := ⟨w.heap.size + 1, 4, none⟩) (Nat.le_succ _) (.bool h)
      have H2 : Hid _ := h2
      have HS : Hid _ := heap_set_same h2 (o := 5) (.string (bstr x))
      have HX : Hid _ := (heap_set_other (b := w.heap.size + 1) (o := 5) (i := w.heap.size) (.string (bstr x)) (by omega)).trans HX2.out
      have HB : Hid _ := HB2.out.setCell (p := ⟨w.heap.size + 1, 5, none⟩) (Nat.le_succ _) (.string (bstr x))
      clear h1 h2
      cases h with
      | false =>
        go_wp2
        go_meet
        case rel => exact ⟨_, rfl, HX2.out, HB2.out, .inl ⟨by omega, by omega, rfl, H2.out⟩⟩
      | true =>
        go_wp2
        go_meet
        case rel => exact ⟨_, rfl, HX.out, HB.out, .inl ⟨by omega, by omega, rfl, HS.out⟩⟩
    · have hm : mb = false := by
        rw [HMB.out]
        unfold mayO
        rw [decide_eq_false]
        simp only
        omega
      go_wp2
      all_goals go_meet
      all_goals (try exact ⟨_, rfl, y1, hb12, .inr ⟨rfl, hm⟩⟩)
  case rest =>
    obtain ⟨ib, rfl, z1, zb, hor⟩ := hcut
    clear y1 y2 hb12 c0 c1 c2 c3 c4 c5 d0 d1 d2 d3 d4 d5 f3
    obtain ⟨c0, c1, c2, c3, c4, c5⟩ := z1.facts
    simp only at c0 c1 c2 c3 c4 c5
    cases ib with
    | false =>
      have hm : mb = false := by
        rcases hor with ⟨a, b, e, _⟩ | ⟨_, e⟩
        · rw [HMB.out, mayO_eq _ a b, ← e]; simp
        · exact e
      subst hm
      go_wp2
      go_ret
      exact ⟨rfl, zb⟩
    | true =>
      rcases hor with ⟨hk1, hk5, he, z2⟩ | ⟨e, _⟩
      · have hmay := HMB.out.trans (mayO_eq ⟨k, r, c, v, h, x⟩ hk1 hk5)
        simp only at hmay
        rw [← he] at hmay
        obtain ⟨m, hm⟩ : ∃ m, m = mayQ ⟨k, r, c, v, h, x⟩ := ⟨_, rfl⟩
        rw [← hm] at hmay z2
        clear hm HMB
        obtain ⟨k', r', c', v', h', x'⟩ := m
        obtain ⟨d0, d1, d2, d3, d4, d5⟩ := z2.facts
        simp only at d0 d1 d2 d3 d4 d5
        have hqq : ∀ W, (binOp .eql 24 (.agg #[.int .i64 k, .string (bstr r), .string (bstr c), .string (bstr v), .bool h, .string (bstr x)]) (.agg #[.int .i64 k', .string (bstr r'), .string (bstr c'), .string (bstr v'), .bool h', .string (bstr x')])).run Tryz.prog W = .ok (.bool (eqO ⟨k, r, c, v, h, x⟩ ⟨k', r', c', v', h', x'⟩)) W := fun W => op_eql _ _ _ _ _ _ _ _ _ _ _ _ W
        have hg := op_guard
        generalize eqO ⟨k, r, c, v, h, x⟩ ⟨k', r', c', v', h', x'⟩ = eb at *
        have e1 : decide (1 ≤ c.length ∧ c.length ≤ 16) = (decide ((1 : Int) ≤ (c.length : Int)) && decide ((c.length : Int) ≤ 16)) := by rw [Bool.eq_iff_iff]; simp; omega
        have e2 : decide (v.length ≤ 256) = decide ((v.length : Int) ≤ 256) := by rw [decide_eq_decide]; omega
        have e3 : decide (x.length ≤ 256) = decide ((x.length : Int) ≤ 256) := by rw [decide_eq_decide]; omega
        rw [e1, e2, e3] at hmay
        have HM : Hid _ := hmay
        clear hmay e1 e2 e3 hk1 hk5 he
        cases eb with
        | false =>
          obtain rfl : mb = false := by rw [HM.out]; rfl
          go_wp2
          go_ret
          exact ⟨rfl, zb⟩
        | true =>
          have HZ : Hid _ := zb
          clear zb z1 z2 hst
          go_wp2
          all_goals (go_ret; refine ⟨?_, HZ.out⟩; rw [HM.out]; first | (simp [*]; done) | (simp [*]; intros; omega))
      · cases e

set_option maxHeartbeats 2000000 in
theorem RCheck15_any (o : Oq) (w : World) : Calls Tryz.prog 40 #[oqV o] w fun e w' => e = .returned (.int .i64 (if mayO o then 0 else 2)) ∧ Below w.heap.size w w' := by
  obtain ⟨w1, hw1⟩ : ∃ w1, w1 = w.alloc (.cells (oqC o) 24) := ⟨_, rfl⟩
  have hb1 : Below w.heap.size w w1 := by rw [hw1]; exact (Below.refl _ _).alloc (Nat.le_refl _) _
  have HW1 : Hid _ := hw1
  clear hw1
  have hm := YMay_any o w1
  obtain ⟨mb, hmb⟩ : ∃ mb, mb = mayO o := ⟨_, rfl⟩
  rw [← hmb] at hm
  rw [← hmb]
  clear hmb
  go_enter Tryz.func40, Tryz.ntmps40
  go_wp2_with fail
  rw [show #[.int .i64 o.kind, .string (bstr o.row), .string (bstr o.col), .string (bstr o.val), .bool o.has, .string (bstr o.exp)] = oqC o from rfl, ← HW1.out]
  refine hm.mono ?_
  rintro e w2 ⟨rfl, hb2⟩
  have hb := below2 hb1 hb2
  clear hm hb1 hb2 HW1
  cases mb with
  | false =>
    go_wp2
    go_ret
    exact ⟨rfl, hb⟩
  | true =>
    go_wp2
    go_ret
    exact ⟨rfl, hb⟩

end Go.Proofs.YtbdbefgfejdbjaaGreat

namespace Go.Proofs.YtbdbefgfejdbjaaGreat
open Go.RowKit Go.BigFrame
attribute [local go_sem] size_bstr toList_bstr


set_option maxHeartbeats 4000000 in
set_option maxRecDepth 100000 in
theorem RSeq_any (n : Int) (w : World) :
    Calls Tryz.prog 39 #[.int .u64 n] w fun e w' => e = .returned (.bool (decide (1 ≤ n) && decide (n ≤ 1099511627776))) ∧ Below w.heap.size w w' := by
  go_enter Tryz.func39, Tryz.ntmps39
  go_wp2
  all_goals
    go_ret
    exact ⟨(congrArg (fun b => Ending.returned (.bool b)) (by first | rfl | (simp; done) | (simp; omega) | (simp_all; done) | (simp_all; omega))), (Below.refl _ _)⟩

set_option maxHeartbeats 4000000 in
set_option maxRecDepth 100000 in
theorem RGroup_any (n : Int) (w : World) :
    Calls Tryz.prog 43 #[.int .i64 n] w fun e w' => e = .returned (.bool (decide (0 ≤ n) && decide (n < 12))) ∧ Below w.heap.size w w' := by
  go_enter Tryz.func43, Tryz.ntmps43
  go_wp2
  all_goals
    go_ret
    exact ⟨(congrArg (fun b => Ending.returned (.bool b)) (by first | rfl | (simp; done) | (simp; omega) | (simp_all; done) | (simp_all; omega))), (Below.refl _ _)⟩

set_option maxHeartbeats 4000000 in
set_option maxRecDepth 100000 in
theorem RNode_any (n : Int) (w : World) :
    Calls Tryz.prog 47 #[.int .i64 n] w fun e w' => e = .returned (.bool (decide (0 ≤ n) && decide (n < 5))) ∧ Below w.heap.size w w' := by
  go_enter Tryz.func47, Tryz.ntmps47
  go_wp2
  all_goals
    go_ret
    exact ⟨(congrArg (fun b => Ending.returned (.bool b)) (by first | rfl | (simp; done) | (simp; omega) | (simp_all; done) | (simp_all; omega))), (Below.refl _ _)⟩

set_option maxHeartbeats 4000000 in
set_option maxRecDepth 100000 in
theorem RClient_any (n : Int) (w : World) :
    Calls Tryz.prog 38 #[.int .i64 n] w fun e w' => e = .returned (.bool (decide (0 ≤ n) && decide (n < 4))) ∧ Below w.heap.size w w' := by
  go_enter Tryz.func38, Tryz.ntmps38
  go_wp2
  all_goals
    go_ret
    exact ⟨(congrArg (fun b => Ending.returned (.bool b)) (by first | rfl | (simp; done) | (simp; omega) | (simp_all; done) | (simp_all; omega))), (Below.refl _ _)⟩

set_option maxHeartbeats 4000000 in
set_option maxRecDepth 100000 in
theorem RStep_any (c : Cm) (w : World) : Calls Tryz.prog 41 #[.agg (cmC c).toArray] w fun e w' => e = .returned (.bool (stepB c.pr c.st)) ∧ Below w.heap.size w w' := by
  have K := fun W => RSeq_any c.pr W
  have hs : stepB c.pr c.st = ((decide (1 ≤ c.pr) && decide (c.pr ≤ 1099511627776)) && decide (0 ≤ c.st) && decide (c.st ≤ 100)) := rfl
  rw [hs]
  clear hs
  generalize (decide (1 ≤ c.pr) && decide (c.pr ≤ 1099511627776)) = b at *
  obtain ⟨w1, hw1⟩ : ∃ w1, w1 = w.alloc (.cells (cmC c).toArray 28) := ⟨_, rfl⟩
  have hb1 : Below w.heap.size w w1 := by rw [hw1]; exact (Below.refl _ _).alloc (Nat.le_refl _) _
  have hx : w1.heap[w.heap.size]? = some (.cells (cmC c).toArray 28 (0, 0)) := by rw [hw1]; exact heap_alloc_new w _
  have c0 : w1.cell? ⟨w.heap.size, 10, none⟩ = some (.int .u64 c.pr) := (mcells hx).1 10
  have c1 : w1.cell? ⟨w.heap.size, 11, none⟩ = some (.int .i64 c.st) := (mcells hx).1 11
  clear hx
  generalize c.pr = p at *
  generalize c.st = s at *
  go_enter Tryz.func41, Tryz.ntmps41
  go_upto_region 1 with fail
  rw [← hw1]
  clear hw1
  go_wp2_with fail
  refine (K _).mono ?_
  rintro e w2 ⟨rfl, hb2⟩
  replace c1 := cell_below hb2 c1
  have hb := below2 hb1 hb2
  clear c0 hb1 hb2 K
  cases b
  case false =>
    go_wp2
    go_ret
    exact ⟨rfl, hb⟩
  case true =>
    by_cases h0 : 0 ≤ s
    · have e0 : decide (0 ≤ s) = true := decide_eq_true h0
      go_wp2
      go_ret
      exact ⟨by simp [h0], hb⟩
    · have e0 : decide (0 ≤ s) = false := decide_eq_false h0
      go_wp2
      go_ret
      exact ⟨by simp; omega, hb⟩

set_option maxHeartbeats 4000000 in
set_option maxRecDepth 100000 in
theorem RWant_any (x : Wt) (w : World) : Calls Tryz.prog 45 #[wtV x] w fun e w' => e = .returned (.bool (wantB x)) ∧ Below w.heap.size w w' := by
  obtain ⟨mv, g, key, i, o⟩ := x
  have K0 := fun W : World => (show Calls Tryz.prog _ _ W (fun e w' => e = .returned (.bool (groupB g)) ∧ Below W.heap.size W w') from RGroup_any g W)
  have K1 := fun W : World => (show Calls Tryz.prog _ _ W (fun e w' => e = .returned (.bool (nodeB i)) ∧ Below W.heap.size W w') from RNode_any i W)
  have K2 := fun W : World => (show Calls Tryz.prog _ _ W (fun e w' => e = .returned (.bool (nodeB o)) ∧ Below W.heap.size W w') from RNode_any o W)
  have K3 := fun W : World => RUser_any key W
  have hw : wantB ⟨mv, g, key, i, o⟩ = (groupB g && (if mv then nodeB i && nodeB o && !decide (i = o) && decide (key = []) else decide (i = 0) && decide (o = 0) && userB key)) := rfl
  rw [hw]
  clear hw
  generalize groupB g = b0 at *
  generalize nodeB i = b1 at *
  generalize nodeB o = b2 at *
  generalize userB key = b3 at *
  obtain ⟨w1, hw1⟩ : ∃ w1, w1 = w.alloc (.cells #[.bool mv, .int .i64 g, .string (bstr key), .int .i64 i, .int .i64 o] 26) := ⟨_, rfl⟩
  have hb0 : Below w.heap.size w w1 := by rw [hw1]; exact (Below.refl _ _).alloc (Nat.le_refl _) _
  have hc := (mcells (show w1.heap[w.heap.size]? = some (.cells #[.bool mv, .int .i64 g, .string (bstr key), .int .i64 i, .int .i64 o] 26 (0, 0)) by rw [hw1]; exact heap_alloc_new w _)).1
  have c0 : w1.cell? ⟨w.heap.size, 0, none⟩ = some (.bool mv) := hc 0
  have c1 : w1.cell? ⟨w.heap.size, 1, none⟩ = some (.int .i64 g) := hc 1
  have c2 : w1.cell? ⟨w.heap.size, 2, none⟩ = some (.string (bstr key)) := hc 2
  have c3 : w1.cell? ⟨w.heap.size, 3, none⟩ = some (.int .i64 i) := hc 3
  have c4 : w1.cell? ⟨w.heap.size, 4, none⟩ = some (.int .i64 o) := hc 4
  clear hc
  go_enter Tryz.func45, Tryz.ntmps45
  go_upto_region 1 with fail
  rw [← hw1]
  clear hw1
  go_wp2_with fail
  refine (K0 _).mono ?_
  rintro e w2 ⟨rfl, hb2⟩
  replace hb0 := below2 hb0 hb2
  replace c0 := cell_below hb2 c0
  replace c2 := cell_below hb2 c2
  replace c3 := cell_below hb2 c3
  replace c4 := cell_below hb2 c4
  clear hb2 c1 K0
  cases b0
  case false =>
    go_wp2
    all_goals
      go_ret
      exact ⟨rfl, hb0⟩
  case true =>
  cases mv
  case true =>
    clear K3
    by_cases h2 : key = []
    case neg =>
      have h2' : (key == ([] : List UInt8)) = false := beq_eq_false_iff_ne.2 h2
      go_wp2
      go_ret
      exact ⟨by simp, hb0⟩
    case pos =>
    subst h2
    go_wp2_with fail
    refine (K1 _).mono ?_
    rintro e w3 ⟨rfl, hb2⟩
    replace hb0 := below2 hb0 hb2
    replace c3 := cell_below hb2 c3
    replace c4 := cell_below hb2 c4
    clear hb2 c0 K1 c2
    cases b1
    case false =>
      go_wp2
      go_ret
      exact ⟨rfl, hb0⟩
    case true =>
    go_wp2_with fail
    refine (K2 _).mono ?_
    rintro e w4 ⟨rfl, hb2⟩
    replace hb0 := below2 hb0 hb2
    replace c3 := cell_below hb2 c3
    replace c4 := cell_below hb2 c4
    clear hb2 K2
    cases b2
    case false =>
      go_wp2
      go_ret
      exact ⟨rfl, hb0⟩
    case true =>
    by_cases h1 : i = o
    case pos =>
      subst h1
      go_wp2
      go_ret
      exact ⟨by simp, hb0⟩
    case neg =>
      have h1' : (i == o) = false := beq_eq_false_iff_ne.2 h1
      go_wp2
      go_ret
      exact ⟨by simp [h1, bne], hb0⟩
  case false =>
    clear K1 K2
    go_wp2_with fail
    refine (K3 _).mono ?_
    rintro e w3 ⟨rfl, hb2⟩
    replace hb0 := below2 hb0 hb2
    replace c3 := cell_below hb2 c3
    replace c4 := cell_below hb2 c4
    clear hb2 c0 c2 K3
    cases b3
    case false =>
      go_wp2
      go_ret
      exact ⟨by simp, hb0⟩
    case true =>
    by_cases h1 : i = 0
    case neg =>
      have h1' : (i == 0) = false := beq_eq_false_iff_ne.2 h1
      go_wp2
      go_ret
      exact ⟨by simp, hb0⟩
    case pos =>
    subst h1
    by_cases h2 : o = 0
    case neg =>
      have h2' : (o == 0) = false := beq_eq_false_iff_ne.2 h2
      go_wp2
      go_ret
      exact ⟨by simp, hb0⟩
    case pos =>
    subst h2
    go_wp2
    go_ret
    exact ⟨rfl, hb0⟩

end Go.Proofs.YtbdbefgfejdbjaaGreat
