/-
  The document's answer: may an operation be?
-/
import Derived.Test.YtpihdjemjfkidaaYChk
namespace Go.Proofs.Ytpihdjemjfkidaa
open Go.RowKit Go.BigFrame Go.Sort
attribute [local go_sem] size_bstr toList_bstr ls_def

set_option maxHeartbeats 8000000 in
set_option maxRecDepth 100000 in
theorem YMay_any (o : Oq) (w : World) : Calls Try.prog 16 #[oqV o] w fun e w' => e = .returned (.bool (mayO o)) ∧ Below w.heap.size w w' := by
  obtain ⟨mb, hmb⟩ : ∃ mb, mb = mayO o := ⟨_, rfl⟩
  rw [← hmb]
  obtain ⟨k, r, c, v, h, x⟩ := o
  have HMB : Hid _ := hmb
  clear hmb
  obtain ⟨w1, hw1⟩ : ∃ w1, w1 = (w.alloc (.cells (oqC ⟨k, r, c, v, h, x⟩) 23)).alloc (.cells (oqC ⟨k, r, c, [], false, []⟩) 23) := ⟨_, rfl⟩
  have hb1 : Below w.heap.size w w1 := by rw [hw1]; exact ((Below.refl _ _).alloc (Nat.le_refl _) _).alloc (by simp) _
  have x1 : OqB w1 w.heap.size ⟨k, r, c, v, h, x⟩ := by rw [hw1]; exact (Below.heap_alloc _ _ _ (by simp)).trans (heap_alloc_new w _)
  have x2 : OqB w1 (w.heap.size + 1) ⟨k, r, c, [], false, []⟩ := by
    have h := heap_alloc_new (w.alloc (.cells (oqC ⟨k, r, c, v, h, x⟩) 23)) (.cells (oqC ⟨k, r, c, [], false, []⟩) 23)
    rw [World.size_alloc] at h
    rw [hw1]
    exact h
  have HW1 : Hid _ := hw1
  clear hw1
  have hu := fun W => RUser_any r W
  have hst := fun W => RStored_any r W
  go_enter Try.func16, Try.ntmps16
  go_wp2_with fail
  rw [show #[.int .i64 k, .string (bstr r), .string (bstr c), .string (bstr v), .bool h, .string (bstr x)] = oqC ⟨k, r, c, v, h, x⟩ from rfl, show #[.int .i64 k, .string (bstr r), .string (bstr c), .string ⟨#[]⟩, .bool false, .string ⟨#[]⟩] = oqC ⟨k, r, c, [], false, []⟩ from rfl, ← HW1.out]
  refine (hu w1).mono ?_
  rintro e w2 ⟨rfl, hb2⟩
  have hb12 := below2 hb1 hb2
  have y1 := op_row _ _ x1 hb2 (blk_lt x1)
  have y2 := op_row _ _ x2 hb2 (blk_lt x2)
  clear HW1 x1 x2 hb1 hb2 hu
  obtain ⟨c0, c1, c2, c3, c4, c5⟩ := y1.facts
  obtain ⟨d0, d1, d2, d3, d4, d5⟩ := y2.facts
  simp only at c0 c1 c2 c3 c4 c5 d0 d1 d2 d3 d4 d5
  have f3 := (mcells y2).2
  go_upto_block 0 with fail
  go_cut [4] from 17 (fun s4 wx => ∃ ib : Bool, s4 = .bool ib ∧ OqB wx w.heap.size ⟨k, r, c, v, h, x⟩ ∧ Below w.heap.size w wx ∧ ((1 ≤ k ∧ k ≤ 5 ∧ ib = (if k = 5 then storedB r else userB r) ∧ OqB wx (w.heap.size + 1) (mayQ ⟨k, r, c, v, h, x⟩)) ∨ (ib = false ∧ mb = false)))
  case first =>
    by_cases k2 : k = 2
    · subst k2
      go_wp2
      go_meet
      case rel => exact ⟨_, rfl, y1, hb12, .inl ⟨by omega, by omega, rfl, y2⟩⟩
    by_cases k3 : k = 3
    · subst k3
      go_wp2
      go_meet
      case rel => exact ⟨_, rfl, y1, hb12, .inl ⟨by omega, by omega, rfl, y2⟩⟩
    by_cases k1 : k = 1
    · subst k1
      have HS : Hid _ := heap_set_same y2 (o := 3) (.string (bstr v))
      have HX : Hid _ := (heap_set_other (w := w2) (b := w.heap.size + 1) (o := 3) (i := w.heap.size) (.string (bstr v)) (by omega)).trans y1
      have HB : Hid _ := hb12.setCell (p := ⟨w.heap.size + 1, 3, none⟩) (Nat.le_succ _) (.string (bstr v))
      go_wp2
      go_meet
      case rel => exact ⟨_, rfl, HX.out, HB.out, .inl ⟨by omega, by omega, rfl, HS.out⟩⟩
    by_cases k5 : k = 5
    · subst k5
      go_wp2_with fail
      refine (hst w2).mono ?_
      rintro e w3 ⟨rfl, hb3⟩
      go_wp2
      go_meet
      case rel => exact ⟨_, rfl, op_row _ _ y1 hb3 (blk_lt y1), below2 hb12 hb3, .inl ⟨by omega, by omega, rfl, op_row _ _ y2 hb3 (blk_lt y2)⟩⟩
    by_cases k4 : k = 4
    · subst k4
      have h1 := heap_set_same y2 (o := 3) (.string (bstr v))
      have h2 := heap_set_same h1 (o := 4) (.bool h)
      have HX2 : Hid (OqB ((w2.setCell ⟨w.heap.size + 1, 3, none⟩ (.string (bstr v))).setCell ⟨w.heap.size + 1, 4, none⟩ (.bool h)) w.heap.size ⟨4, r, c, v, h, x⟩) := ((heap_set_other _ (by omega)).trans (heap_set_other _ (by omega))).trans y1
      have HB2 : Hid _ := (hb12.setCell (p := ⟨w.heap.size + 1, 3, none⟩) (Nat.le_succ _) (.string (bstr v))).setCell (p := ⟨w.heap.size + 1, 4, none⟩) (Nat.le_succ _) (.bool h)
      have H2 : Hid _ := h2
      have HS : Hid _ := heap_set_same h2 (o := 5) (.string (bstr x))
      have HX : Hid _ := (heap_set_other (b := w.heap.size + 1) (o := 5) (i := w.heap.size) (.string (bstr x)) (by omega)).trans HX2.out
      have HB : Hid _ := HB2.out.setCell (p := ⟨w.heap.size + 1, 5, none⟩) (Nat.le_succ _) (.string (bstr x))
      clear h1 h2
      cases h with
      | false =>
        go_wp2
        go_meet
        case rel => exact ⟨_, rfl, HX2.out, HB2.out, .inl ⟨by omega, by omega, rfl, H2.out⟩⟩
      | true =>
        go_wp2
        go_meet
        case rel => exact ⟨_, rfl, HX.out, HB.out, .inl ⟨by omega, by omega, rfl, HS.out⟩⟩
    · have hm : mb = false := by
        rw [HMB.out]
        unfold mayO
        rw [decide_eq_false]
        simp only
        omega
      go_wp2
      all_goals go_meet
      all_goals (try exact ⟨_, rfl, y1, hb12, .inr ⟨rfl, hm⟩⟩)
  case rest =>
    obtain ⟨ib, rfl, z1, zb, hor⟩ := hcut
    clear y1 y2 hb12 c0 c1 c2 c3 c4 c5 d0 d1 d2 d3 d4 d5 f3
    obtain ⟨c0, c1, c2, c3, c4, c5⟩ := z1.facts
    simp only at c0 c1 c2 c3 c4 c5
    cases ib with
    | false =>
      have hm : mb = false := by
        rcases hor with ⟨a, b, e, _⟩ | ⟨_, e⟩
        · rw [HMB.out, mayO_eq _ a b, ← e]; simp
        · exact e
      subst hm
      go_wp2
      go_ret
      exact ⟨rfl, zb⟩
    | true =>
      rcases hor with ⟨hk1, hk5, he, z2⟩ | ⟨e, _⟩
      · have hmay := HMB.out.trans (mayO_eq ⟨k, r, c, v, h, x⟩ hk1 hk5)
        simp only at hmay
        rw [← he] at hmay
        obtain ⟨m, hm⟩ : ∃ m, m = mayQ ⟨k, r, c, v, h, x⟩ := ⟨_, rfl⟩
        rw [← hm] at hmay z2
        clear hm HMB
        obtain ⟨k', r', c', v', h', x'⟩ := m
        obtain ⟨d0, d1, d2, d3, d4, d5⟩ := z2.facts
        simp only at d0 d1 d2 d3 d4 d5
        have hqq : ∀ W, (binOp .eql 23 (.agg #[.int .i64 k, .string (bstr r), .string (bstr c), .string (bstr v), .bool h, .string (bstr x)]) (.agg #[.int .i64 k', .string (bstr r'), .string (bstr c'), .string (bstr v'), .bool h', .string (bstr x')])).run Try.prog W = .ok (.bool (eqO ⟨k, r, c, v, h, x⟩ ⟨k', r', c', v', h', x'⟩)) W := fun W => op_eql _ _ _ _ _ _ _ _ _ _ _ _ W
        have hg := op_guard
        generalize eqO ⟨k, r, c, v, h, x⟩ ⟨k', r', c', v', h', x'⟩ = eb at *
        have e1 : decide (1 ≤ c.length ∧ c.length ≤ 16) = (decide ((1 : Int) ≤ (c.length : Int)) && decide ((c.length : Int) ≤ 16)) := by rw [Bool.eq_iff_iff]; simp; omega
        have e2 : decide (v.length ≤ 256) = decide ((v.length : Int) ≤ 256) := by rw [decide_eq_decide]; omega
        have e3 : decide (x.length ≤ 256) = decide ((x.length : Int) ≤ 256) := by rw [decide_eq_decide]; omega
        rw [e1, e2, e3] at hmay
        have HM : Hid _ := hmay
        clear hmay e1 e2 e3 hk1 hk5 he
        cases eb with
        | false =>
          obtain rfl : mb = false := by rw [HM.out]; rfl
          go_wp2
          go_ret
          exact ⟨rfl, zb⟩
        | true =>
          have HZ : Hid _ := zb
          clear zb z1 z2 hst
          go_wp2
          all_goals (go_ret; refine ⟨?_, HZ.out⟩; rw [HM.out]; first | (simp [*]; done) | (simp [*]; intros; omega))
      · cases e

end Go.Proofs.Ytpihdjemjfkidaa
