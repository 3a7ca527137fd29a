/-
  Check of an operation, and the document's.
-/
import Derived.Test.YtlkikfkchgmmhaaYFn
import Derived.Deep.Cut
import Derived.Deep.CutBlock
namespace Go.Proofs.Ytlkikfkchgmmhaa
open Go.RowKit Go.BigFrame Go.Sort
attribute [local go_sem] size_bstr toList_bstr ls_def

def eqO (a b : Oq) : Bool := decide (a.kind = b.kind) && a.row == b.row && a.col == b.col && a.val == b.val && a.has == b.has && a.exp == b.exp
theorem eqO_iff {a b : Oq} : eqO a b = true ↔ a = b := by
  cases a
  cases b
  simp [eqO, and_assoc]
theorem eqO_dec (a b : Oq) : eqO a b = decide (a = b) := by
  by_cases h : a = b
  · rw [decide_eq_true h]; exact eqO_iff.2 h
  · rw [decide_eq_false h]
    cases hx : eqO a b with
    | false => rfl
    | true => exact absurd (eqO_iff.1 hx) h
theorem eqFields_op (a b : Oq) (w : World) : (Op.equalIn 10000 32 (oqV a) (oqV b)).run Try.prog w = .ok (eqO a b) w := by
  have hS : Try.prog.underlying 32 = some (.struct (Try.prog.fieldsOf 32)) := by kernel_rfl
  have hp : Try.prog.stoodInHeld 32 = false := by kernel_rfl
  have u := Try.underlying9
  have ag := Try.isAgg9
  have sz := Try.sizeOf9
  have u2 := Try.underlying3
  have ag2 := Try.isAgg3
  have sz2 := Try.sizeOf3
  have u3 := Try.underlying4
  have ag3 := Try.isAgg4
  have sz3 := Try.sizeOf4
  rw [show (10000 : Nat) = 9999 + 1 from rfl, run_equalIn_agg w 9999 32 _ _ hS hp]
  simp only [Program.fieldsOf, Try.underlying32]
  go_simp
  obtain ⟨r, c, v, g, x, y⟩ := a
  obtain ⟨r', c', v', g', x', y'⟩ := b
  simp only [eqO]
  by_cases h1 : r = r' <;> by_cases h2 : c = c' <;> by_cases h3 : v = v' <;> by_cases h4 : g = g' <;> by_cases h5 : x = x' <;> by_cases h6 : y = y' <;> simp [h1, h2, h3, h4, h5, h6]
theorem op_eql (k : Int) (r c v : List UInt8) (h : Bool) (x : List UInt8) (k' : Int) (r' c' v' : List UInt8) (h' : Bool) (x' : List UInt8) (w : World) : (binOp .eql 32 (.agg #[.int .i64 k, .string (bstr r), .string (bstr c), .string (bstr v), .bool h, .string (bstr x)]) (.agg #[.int .i64 k', .string (bstr r'), .string (bstr c'), .string (bstr v'), .bool h', .string (bstr x')])).run Try.prog w = .ok (.bool (eqO ⟨k, r, c, v, h, x⟩ ⟨k', r', c', v', h', x'⟩)) w := by
  have := eqFields_op ⟨k, r, c, v, h, x⟩ ⟨k', r', c', v', h', x'⟩ w
  rw [run_eql_struct, this]
  rfl
theorem op_neq (k : Int) (r c v : List UInt8) (h : Bool) (x : List UInt8) (k' : Int) (r' c' v' : List UInt8) (h' : Bool) (x' : List UInt8) (w : World) : (binOp .neq 32 (.agg #[.int .i64 k, .string (bstr r), .string (bstr c), .string (bstr v), .bool h, .string (bstr x)]) (.agg #[.int .i64 k', .string (bstr r'), .string (bstr c'), .string (bstr v'), .bool h', .string (bstr x')])).run Try.prog w = .ok (.bool (!eqO ⟨k, r, c, v, h, x⟩ ⟨k', r', c', v', h', x'⟩)) w := by
  have := eqFields_op ⟨k, r, c, v, h, x⟩ ⟨k', r', c', v', h', x'⟩ w
  rw [run_neq_struct, this]
  rfl
theorem op_guard (op : BinOp) (x y : Operand) (xs ys : Array Value) (w : World) : (eqGuard op 32 x y (.agg xs) (.agg ys)).run Try.prog w = .ok () w :=
  run_eqGuard_agg w op _ x y xs ys (by kernel_rfl)
/-- An operation lies there. -/
def OqB (w : World) (b : Nat) (o : Oq) : Prop := w.heap[b]? = some (.cells (oqC o) 32 (0, 0))
theorem OqB.facts {w : World} {b : Nat} {o : Oq} (h : OqB w b o) : w.cell? ⟨b, 0, none⟩ = some (.int .i64 o.kind) ∧ w.cell? ⟨b, 1, none⟩ = some (.string (bstr o.row)) ∧ w.cell? ⟨b, 2, none⟩ = some (.string (bstr o.col)) ∧ w.cell? ⟨b, 3, none⟩ = some (.string (bstr o.val)) ∧ w.cell? ⟨b, 4, none⟩ = some (.bool o.has) ∧ w.cell? ⟨b, 5, none⟩ = some (.string (bstr o.exp)) :=
  ⟨(mcells h).1 0, (mcells h).1 1, (mcells h).1 2, (mcells h).1 3, (mcells h).1 4, (mcells h).1 5⟩

theorem mayO_eq (o : Oq) (h1 : 1 ≤ o.kind) (h5 : o.kind ≤ 5) : mayO o = (eqO o (mayQ o) && (if o.kind = 5 then storedB o.row else userB o.row) && decide (1 ≤ o.col.length ∧ o.col.length ≤ 16) && decide (o.val.length ≤ 256) && decide (o.exp.length ≤ 256)) := by
  rw [eqO_dec, Bool.eq_iff_iff]
  unfold mayO storedB userB
  by_cases hk : o.kind = 5
  · simp only [if_pos hk, Bool.and_eq_true, decide_eq_true_eq]
    constructor
    · rintro ⟨_, _, a, b, c, d, e, f⟩; exact ⟨⟨⟨⟨a, b⟩, c, d⟩, e⟩, f⟩
    · rintro ⟨⟨⟨⟨a, b⟩, c, d⟩, e⟩, f⟩; exact ⟨h1, h5, a, b, c, d, e, f⟩
  · simp only [if_neg hk, Bool.and_eq_true, decide_eq_true_eq]
    constructor
    · rintro ⟨_, _, a, b, c, d, e, f⟩; exact ⟨⟨⟨⟨a, b⟩, c, d⟩, e⟩, f⟩
    · rintro ⟨⟨⟨⟨a, b⟩, c, d⟩, e⟩, f⟩; exact ⟨h1, h5, a, b, c, d, e, f⟩

set_option maxHeartbeats 8000000 in
set_option maxRecDepth 100000 in
theorem YCheck_any (o : Oq) (w : World) : Calls Try.prog 18 #[oqV o] w fun e w' => e = .returned (.int .i64 (if mayO o then 0 else 2)) ∧ Below w.heap.size w w' := by
  obtain ⟨mb, hmb⟩ : ∃ mb, mb = mayO o := ⟨_, rfl⟩
  rw [← hmb]
  obtain ⟨k, r, c, v, h, x⟩ := o
  have HMB : Hid _ := hmb
  clear hmb
  obtain ⟨w1, hw1⟩ : ∃ w1, w1 = (w.alloc (.cells (oqC ⟨k, r, c, v, h, x⟩) 32)).alloc (.cells (oqC ⟨k, r, c, [], false, []⟩) 32) := ⟨_, rfl⟩
  have hb1 : Below w.heap.size w w1 := by rw [hw1]; exact ((Below.refl _ _).alloc (Nat.le_refl _) _).alloc (by simp) _
  have x1 : OqB w1 w.heap.size ⟨k, r, c, v, h, x⟩ := by rw [hw1]; exact (Below.heap_alloc _ _ _ (by simp)).trans (heap_alloc_new w _)
  have x2 : OqB w1 (w.heap.size + 1) ⟨k, r, c, [], false, []⟩ := by
    have h := heap_alloc_new (w.alloc (.cells (oqC ⟨k, r, c, v, h, x⟩) 32)) (.cells (oqC ⟨k, r, c, [], false, []⟩) 32)
    rw [World.size_alloc] at h
    rw [hw1]
    exact h
  have HW1 : Hid _ := hw1
  clear hw1
  obtain ⟨c0, c1, c2, c3, c4, c5⟩ := x1.facts
  obtain ⟨d0, d1, d2, d3, d4, d5⟩ := x2.facts
  simp only at c0 c1 c2 c3 c4 c5 d0 d1 d2 d3 d4 d5
  have hq := op_neq
  have hg := op_guard
  go_enter Try.func18, Try.ntmps18
  go_upto_block 0 with fail
  rw [show #[.int .i64 k, .string (bstr r), .string (bstr c), .string (bstr v), .bool h, .string (bstr x)] = oqC ⟨k, r, c, v, h, x⟩ from rfl, show #[.int .i64 k, .string (bstr r), .string (bstr c), .string ⟨#[]⟩, .bool false, .string ⟨#[]⟩] = oqC ⟨k, r, c, [], false, []⟩ from rfl, ← HW1.out]
  have f3 := (mcells x2).2
  go_cut [4] from 14 (fun s4 wx => 1 ≤ k ∧ k ≤ 5 ∧ s4 = .func (.func (if k = 5 then 36 else 35)) #[] #[] ∧ OqB wx w.heap.size ⟨k, r, c, v, h, x⟩ ∧ OqB wx (w.heap.size + 1) (mayQ ⟨k, r, c, v, h, x⟩) ∧ Below w.heap.size w wx)
  case first =>
    by_cases k2 : k = 2
    · subst k2
      go_wp2
      go_meet
      case rel => exact ⟨by omega, by omega, rfl, x1, x2, hb1⟩
    by_cases k3 : k = 3
    · subst k3
      go_wp2
      go_meet
      case rel => exact ⟨by omega, by omega, rfl, x1, x2, hb1⟩
    by_cases k1 : k = 1
    · subst k1
      have HS : Hid _ := heap_set_same x2 (o := 3) (.string (bstr v))
      have HX : Hid _ := (heap_set_other (w := w1) (b := w.heap.size + 1) (o := 3) (i := w.heap.size) (.string (bstr v)) (by omega)).trans x1
      have HB : Hid _ := hb1.setCell (p := ⟨w.heap.size + 1, 3, none⟩) (Nat.le_succ _) (.string (bstr v))
      go_wp2
      go_meet
      case rel => exact ⟨by omega, by omega, rfl, HX.out, HS.out, HB.out⟩
    by_cases k5 : k = 5
    · subst k5
      go_wp2
      go_meet
      case rel => exact ⟨by omega, by omega, rfl, x1, x2, hb1⟩
    by_cases k4 : k = 4
    · subst k4
      go_wp2_with fail
      go_region
      obtain ⟨W2, hW2⟩ : ∃ W2, W2 = ((w1.setCell ⟨w.heap.size + 1, 3, none⟩ (.string (bstr v))).setCell ⟨w.heap.size + 1, 4, none⟩ (.bool h)).drew := ⟨_, rfl⟩
      have y2 : OqB W2 (w.heap.size + 1) ⟨4, r, c, v, h, []⟩ := by rw [hW2]; exact heap_set_same (heap_set_same x2 (o := 3) (.string (bstr v))) (o := 4) (.bool h)
      have y1 : OqB W2 w.heap.size ⟨4, r, c, v, h, x⟩ := by rw [hW2]; exact ((heap_set_other _ (by omega)).trans (heap_set_other _ (by omega))).trans x1
      have yb : Below w.heap.size w W2 := by rw [hW2]; exact ((hb1.setCell (p := ⟨w.heap.size + 1, 3, none⟩) (Nat.le_succ _) _).setCell (p := ⟨w.heap.size + 1, 4, none⟩) (Nat.le_succ _) _).drew
      rw [← hW2]
      clear hW2 x1 x2 hb1 c0 c1 c2 c3 c4 c5 d0 d1 d2 d3 d4 d5 f3
      obtain ⟨c0, c1, c2, c3, c4, c5⟩ := y1.facts
      obtain ⟨d0, d1, d2, d3, d4, d5⟩ := y2.facts
      simp only at c0 c1 c2 c3 c4 c5 d0 d1 d2 d3 d4 d5
      have f3 := (mcells y2).2
      cases h with
      | false =>
        go_wp2
        go_meet
        case rel => exact ⟨by omega, by omega, rfl, y1, y2, yb⟩
      | true =>
        have HS : Hid _ := heap_set_same y2 (o := 5) (.string (bstr x))
        have HX : Hid _ := (heap_set_other (w := W2) (b := w.heap.size + 1) (o := 5) (i := w.heap.size) (.string (bstr x)) (by omega)).trans y1
        have HB : Hid _ := yb.setCell (p := ⟨w.heap.size + 1, 5, none⟩) (Nat.le_succ _) (.string (bstr x))
        go_wp2
        go_meet
        case rel => exact ⟨by omega, by omega, rfl, HX.out, HS.out, HB.out⟩
    · have hm : mb = false := by
        rw [HMB.out]
        unfold mayO
        rw [decide_eq_false]
        simp only
        omega
      subst hm
      go_wp2
      all_goals (go_ret; exact ⟨rfl, hb1⟩)
  case rest =>
    obtain ⟨hk1, hk5, rfl, y1, y2, yb⟩ := hcut
    clear x1 x2 hb1 c0 c1 c2 c3 c4 c5 d0 d1 d2 d3 d4 d5 f3 HW1
    have hmay := HMB.out.trans (mayO_eq ⟨k, r, c, v, h, x⟩ hk1 hk5)
    obtain ⟨m, hm⟩ : ∃ m, m = mayQ ⟨k, r, c, v, h, x⟩ := ⟨_, rfl⟩
    rw [← hm] at hmay y2
    clear hm HMB
    obtain ⟨k', r', c', v', h', x'⟩ := m
    have hrow : ∀ W : World, Calls Try.prog (if k = 5 then 36 else 35) #[.string (bstr r)] W fun e w' => e = .returned (.bool (if k = 5 then storedB r else userB r)) ∧ Below W.heap.size W w' := fun W => by
      by_cases h5 : k = 5
      · rw [if_pos h5, if_pos h5]; exact Stored_any r W
      · rw [if_neg h5, if_neg h5]; exact User_any r W
    have hcol := isCol_any c
    have hval := isValue_any v
    have hexp := isValue_any x
    obtain ⟨c0, c1, c2, c3, c4, c5⟩ := y1.facts
    obtain ⟨d0, d1, d2, d3, d4, d5⟩ := y2.facts
    simp only at c0 c1 c2 c3 c4 c5 d0 d1 d2 d3 d4 d5
    simp only at hmay
    have hqq : ∀ W, (binOp .neq 32 (.agg #[.int .i64 k, .string (bstr r), .string (bstr c), .string (bstr v), .bool h, .string (bstr x)]) (.agg #[.int .i64 k', .string (bstr r'), .string (bstr c'), .string (bstr v'), .bool h', .string (bstr x')])).run Try.prog W = .ok (.bool (!eqO ⟨k, r, c, v, h, x⟩ ⟨k', r', c', v', h', x'⟩)) W := fun W => op_neq _ _ _ _ _ _ _ _ _ _ _ _ W
    clear hq
    generalize eqO ⟨k, r, c, v, h, x⟩ ⟨k', r', c', v', h', x'⟩ = eb at *
    generalize (if k = 5 then storedB r else userB r) = rb at *
    generalize decide (1 ≤ c.length ∧ c.length ≤ 16) = cb at *
    generalize decide (v.length ≤ 256) = vb at *
    generalize decide (x.length ≤ 256) = xb at *
    have HM : Hid _ := hmay
    clear hmay hk1 hk5
    cases eb with
    | false =>
      have hm : mb = false := by rw [HM.out]; rfl
      subst hm
      go_wp2
      all_goals (go_ret; exact ⟨rfl, yb⟩)
    | true =>
      by_cases h5 : k = 5
      · subst h5
        rw [if_pos rfl] at hrow
        rw [if_pos rfl]
        go_wp2_with fail
        refine (hrow wc).mono ?_
        rintro e wd ⟨rfl, hbd⟩
        have yd := (hbd.block _ (blk_lt y1)).trans y1
        have ybd := below2 yb hbd
        clear c0 c1 c2 c3 c4 c5 d0 d1 d2 d3 d4 d5 hrow hqq
        obtain ⟨c0, c1, c2, c3, c4, c5⟩ := OqB.facts (o := ⟨5, r, c, v, h, x⟩) yd
        simp only at c0 c1 c2 c3 c4 c5
        clear y1 y2 hbd yb yd
        cases rb with
        | false =>
          obtain rfl : mb = false := by rw [HM.out]; rfl
          go_wp2
          go_ret
          exact ⟨rfl, ybd⟩
        | true =>
          go_wp2_with fail
          refine (hcol wd).mono ?_
          rintro e we ⟨rfl, rfl⟩
          cases cb with
          | false =>
            obtain rfl : mb = false := by rw [HM.out]; rfl
            go_wp2
            go_ret
            exact ⟨rfl, ybd⟩
          | true =>
            go_wp2_with fail
            refine (hval we).mono ?_
            rintro e wg ⟨rfl, rfl⟩
            cases vb with
            | false =>
              obtain rfl : mb = false := by rw [HM.out]; rfl
              go_wp2
              go_ret
              exact ⟨rfl, ybd⟩
            | true =>
              go_wp2_with fail
              refine (hexp wg).mono ?_
              rintro e wh ⟨rfl, rfl⟩
              cases xb with
              | false =>
                obtain rfl : mb = false := by rw [HM.out]; rfl
                go_wp2
                go_ret
                exact ⟨rfl, ybd⟩
              | true =>
                obtain rfl : mb = true := by rw [HM.out]; rfl
                go_wp2
                go_ret
                exact ⟨rfl, ybd⟩
      · rw [if_neg h5] at hrow
        rw [if_neg h5]
        go_wp2_with fail
        refine (hrow wc).mono ?_
        rintro e wd ⟨rfl, hbd⟩
        have yd := (hbd.block _ (blk_lt y1)).trans y1
        have ybd := below2 yb hbd
        clear c0 c1 c2 c3 c4 c5 d0 d1 d2 d3 d4 d5 hrow hqq
        obtain ⟨c0, c1, c2, c3, c4, c5⟩ := OqB.facts (o := ⟨k, r, c, v, h, x⟩) yd
        simp only at c0 c1 c2 c3 c4 c5
        clear y1 y2 hbd yb yd
        cases rb with
        | false =>
          obtain rfl : mb = false := by rw [HM.out]; rfl
          go_wp2
          go_ret
          exact ⟨rfl, ybd⟩
        | true =>
          go_wp2_with fail
          refine (hcol wd).mono ?_
          rintro e we ⟨rfl, rfl⟩
          cases cb with
          | false =>
            obtain rfl : mb = false := by rw [HM.out]; rfl
            go_wp2
            go_ret
            exact ⟨rfl, ybd⟩
          | true =>
            go_wp2_with fail
            refine (hval we).mono ?_
            rintro e wg ⟨rfl, rfl⟩
            cases vb with
            | false =>
              obtain rfl : mb = false := by rw [HM.out]; rfl
              go_wp2
              go_ret
              exact ⟨rfl, ybd⟩
            | true =>
              go_wp2_with fail
              refine (hexp wg).mono ?_
              rintro e wh ⟨rfl, rfl⟩
              cases xb with
              | false =>
                obtain rfl : mb = false := by rw [HM.out]; rfl
                go_wp2
                go_ret
                exact ⟨rfl, ybd⟩
              | true =>
                obtain rfl : mb = true := by rw [HM.out]; rfl
                go_wp2
                go_ret
                exact ⟨rfl, ybd⟩

theorem op_row (o : Oq) (B : Nat) {w w' : World} {b : Nat} (h : OqB w b o) (hb : Below B w w') (hB : b < B) : OqB w' b o := (hb.block b hB).trans h

end Go.Proofs.Ytlkikfkchgmmhaa
