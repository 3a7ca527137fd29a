/-
  The looks of a model: see, there, as.
-/
import Derived.Test.YtlkikfkchgmmhaaYMath
namespace Go.Proofs.Ytlkikfkchgmmhaa
open Go.RowKit Go.BigFrame Go.Sort
attribute [local go_sem] size_bstr toList_bstr

set_option maxHeartbeats 1000000 in
theorem isCol_any (s : List UInt8) (w : World) : Calls Try.prog 37 #[.string (bstr s)] w fun e w' => e = .returned (.bool (decide (1 ≤ s.length ∧ s.length ≤ 16))) ∧ w' = w := by
  rcases s with _ | ⟨x, t⟩
  · go_enter Try.func37, Try.ntmps37
    go_wp2
    go_ret
    exact ⟨rfl, rfl⟩
  · have e : decide (1 ≤ (x :: t).length ∧ (x :: t).length ≤ 16) = decide (((x :: t).length : Int) ≤ 16) := by rw [decide_eq_decide]; simp only [List.length_cons]; omega
    rw [e]
    obtain ⟨s, hs⟩ : ∃ s, s = x :: t := ⟨_, rfl⟩
    have hne : ¬ s = [] := by rw [hs]; simp
    rw [← hs]
    clear hs e
    go_enter Try.func37, Try.ntmps37
    go_wp2
    go_ret
    exact ⟨by simp [hne], rfl⟩

set_option maxHeartbeats 1000000 in
theorem isValue_any (s : List UInt8) (w : World) : Calls Try.prog 38 #[.string (bstr s)] w fun e w' => e = .returned (.bool (decide (s.length ≤ 256))) ∧ w' = w := by
  have e : decide (s.length ≤ 256) = decide ((s.length : Int) ≤ 256) := by rw [decide_eq_decide]; omega
  rw [e]
  clear e
  go_enter Try.func38, Try.ntmps38
  go_wp2
  go_ret
  exact ⟨rfl, rfl⟩

set_option maxHeartbeats 1000000 in
theorem there_any (b : Nat) (l : Lk) (w : World) (hL : LkB w b l) : Calls Try.prog 32 #[.pointer (some ⟨b, 0, none⟩)] w fun e w' => e = .returned (.bool (thereL l)) ∧ w' = w := by
  have c7 := (mcells hL).1 7
  have c5 := (mcells hL).1 5
  simp [lkC] at c7 c5
  obtain ⟨r, c, n, s⟩ := l
  cases s
  · go_enter Try.func32, Try.ntmps32
    go_wp2
    go_ret
    exact ⟨by simp [thereL], rfl⟩
  · go_enter Try.func32, Try.ntmps32
    go_wp2
    go_ret
    exact ⟨by simp [thereL], rfl⟩

theorem Kp.drewN {w w' : World} {S : Nat → Prop} {n : Nat} (h : Kp w w' S) : Kp w (w'.drewN n) S := ⟨h.os, h.tape, h.output, h.size, h.block⟩
theorem ret0 {fn : Func} (h : fn.results = #[]) {R : Ending → World → Prop} {a : Act} {w : World} (hd : a.defers = []) (hR : R (.returned (.tuple #[])) w) : bodyPost Try.prog fn R .ret a w :=
  bodyPost_ret (v := .tuple #[]) (by simp only [results, h]; simp) hd hR
theorem end0 {fn : Func} (h : fn.results = #[]) {R : Ending → World → Prop} {a : Act} {w : World} (hd : a.defers = []) (hR : R (.returned (.tuple #[])) w) : bodyPost Try.prog fn R .normal a w :=
  bodyPost_end (v := .tuple #[]) (by simp only [results, h]; simp) hd hR
theorem LkB.facts {w : World} {b : Nat} {l : Lk} (h : LkB w b l) : w.cell? ⟨b, 0, none⟩ = some (.string (bstr l.row)) ∧ w.cell? ⟨b, 1, none⟩ = some (.string (bstr l.col)) ∧ w.cell? ⟨b, 2, none⟩ = some (.string (bstr l.new.row)) ∧ w.cell? ⟨b, 3, none⟩ = some (.string (bstr l.new.col)) ∧ w.cell? ⟨b, 4, none⟩ = some (.int .u64 l.new.ver) ∧ w.cell? ⟨b, 5, none⟩ = some (.bool l.new.gone) ∧ w.cell? ⟨b, 6, none⟩ = some (.string (bstr l.new.val)) ∧ w.cell? ⟨b, 7, none⟩ = some (.bool l.seen) :=
  ⟨(mcells h).1 0, (mcells h).1 1, (mcells h).1 2, (mcells h).1 3, (mcells h).1 4, (mcells h).1 5, (mcells h).1 6, (mcells h).1 7⟩
/-- What is put into a look is what it has. -/
theorem LkB.set {w : World} {b : Nat} {l : Lk} (h : LkB w b l) (c : Cl) : LkB ((((((w.setCell ⟨b, 2, none⟩ (.string (bstr c.row))).setCell ⟨b, 3, none⟩ (.string (bstr c.col))).setCell ⟨b, 4, none⟩ (.int .u64 c.ver)).setCell ⟨b, 5, none⟩ (.bool c.gone)).setCell ⟨b, 6, none⟩ (.string (bstr c.val))).setCell ⟨b, 7, none⟩ (.bool true)) b ⟨l.row, l.col, c, true⟩ := by
  have h1 := heap_set_same h (o := 2) (.string (bstr c.row))
  have h2 := heap_set_same h1 (o := 3) (.string (bstr c.col))
  have h3 := heap_set_same h2 (o := 4) (.int .u64 c.ver)
  have h4 := heap_set_same h3 (o := 5) (.bool c.gone)
  have h5 := heap_set_same h4 (o := 6) (.string (bstr c.val))
  exact heap_set_same h5 (o := 7) (.bool true)

set_option maxHeartbeats 4000000 in
set_option maxRecDepth 100000 in
theorem see_any (b : Nat) (l : Lk) (c : Cl) (w : World) (hL : LkB w b l) : Calls Try.prog 30 #[.pointer (some ⟨b, 0, none⟩), clV c] w fun e w' => e = .returned (.tuple #[]) ∧ LkB w' b (seeL l c) ∧ Kp w w' (fun i => i = b) := by
  have hb1 : Below w.heap.size w (w.alloc (.cells #[.string (bstr c.row), .string (bstr c.col), .int .u64 c.ver, .bool c.gone, .string (bstr c.val)] 38)) := (Below.refl _ _).alloc (Nat.le_refl _) _
  have x1 := heap_alloc_new w (.cells #[.string (bstr c.row), .string (bstr c.col), .int .u64 c.ver, .bool c.gone, .string (bstr c.val)] 38)
  obtain ⟨w1, hw1⟩ : ∃ w1, w1 = w.alloc (.cells #[.string (bstr c.row), .string (bstr c.col), .int .u64 c.ver, .bool c.gone, .string (bstr c.val)] 38) := ⟨_, rfl⟩
  rw [← hw1] at hb1 x1
  have hL1 := hL.below hb1 (blk_lt hL)
  have hk1 : Kp w w1 (fun i => i = b) := Kp.of_below _ hb1
  have HW1 : Hid _ := hw1
  have hbl := blk_lt hL
  clear hw1 hb1 hL
  obtain ⟨c0, c1, c2, c3, c4, c5, c6, c7⟩ := hL1.facts
  obtain ⟨d0, d1, d2, d3, d4⟩ : w1.cell? ⟨w.heap.size, 0, none⟩ = some (.string (bstr c.row)) ∧ w1.cell? ⟨w.heap.size, 1, none⟩ = some (.string (bstr c.col)) ∧ w1.cell? ⟨w.heap.size, 2, none⟩ = some (.int .u64 c.ver) ∧ w1.cell? ⟨w.heap.size, 3, none⟩ = some (.bool c.gone) ∧ w1.cell? ⟨w.heap.size, 4, none⟩ = some (.string (bstr c.val)) := ⟨(mcells x1).1 0, (mcells x1).1 1, (mcells x1).1 2, (mcells x1).1 3, (mcells x1).1 4⟩
  have fz := (mcells hL1).2
  have HL1 : Hid _ := hL1
  have HK1 : Hid _ := hk1
  obtain ⟨lr, lc, ln, ls⟩ := l
  obtain ⟨cr, cc, cv, cg, cx⟩ := c
  simp only at c0 c1 c4 c7 d0 d1 d2 d3 d4
  clear hk1 x1
  by_cases h1 : cr = lr
  · subst h1
    by_cases h2 : cc = lc
    · subst h2
      by_cases h3 : ls = false ∨ ln.ver < cv
      · have e : seeL ⟨cr, cc, ln, ls⟩ ⟨cr, cc, cv, cg, cx⟩ = ⟨cr, cc, ⟨cr, cc, cv, cg, cx⟩, true⟩ := by unfold seeL; rw [if_pos]; exact ⟨rfl, rfl, h3⟩
        rw [e]
        clear e
        have HST : Hid (∀ n, LkB _ b ⟨cr, cc, ⟨cr, cc, cv, cg, cx⟩, true⟩) := fun n => (show LkB (w1.drewN n) b ⟨cr, cc, ln, ls⟩ from HL1.out).set ⟨cr, cc, cv, cg, cx⟩
        have HKT : Hid (∀ n, Kp w _ (fun i => i = b)) := fun n => ((((((HK1.out.drewN (n := n)).setCell (b := b) (o := 2) (.string (bstr cr)) (.inl rfl)).setCell (b := b) (o := 3) (.string (bstr cc)) (.inl rfl)).setCell (b := b) (o := 4) (.int .u64 cv) (.inl rfl)).setCell (b := b) (o := 5) (.bool cg) (.inl rfl)).setCell (b := b) (o := 6) (.string (bstr cx)) (.inl rfl)).setCell (b := b) (o := 7) (.bool true) (.inl rfl)
        have hwb : b ≠ w.heap.size := by have := HK1.out.size; have := blk_lt HL1.out; intro h; exact absurd hbl (by omega)
        cases ls with
        | false =>
          clear h3
          go_enter Try.func30, Try.ntmps30
          go_wp2_with fail
          rw [← HW1.out]
          go_quiet (fail)
          go_wp2_with fail
          go_quiet (fail)
          go_wp2
          exact end0 Try.results30 rfl ⟨rfl, HST.out _, HKT.out _⟩
        | true =>
          have h4 : ln.ver < cv := by simpa using h3
          clear h3
          go_enter Try.func30, Try.ntmps30
          go_wp2_with fail
          rw [← HW1.out]
          go_quiet (fail)
          go_wp2_with fail
          go_quiet (fail)
          go_wp2
          exact end0 Try.results30 rfl ⟨rfl, HST.out _, HKT.out _⟩
      · have e : seeL ⟨cr, cc, ln, ls⟩ ⟨cr, cc, cv, cg, cx⟩ = ⟨cr, cc, ln, ls⟩ := by unfold seeL; rw [if_neg]; intro h; exact h3 h.2.2
        rw [e]
        clear e
        obtain rfl : ls = true := by cases ls; exact absurd (.inl rfl) h3; rfl
        have h4 : ¬ ln.ver < cv := fun h => h3 (.inr h)
        clear h3
        go_enter Try.func30, Try.ntmps30
        go_wp2_with fail
        rw [← HW1.out]
        go_quiet (fail)
        go_wp2_with fail
        go_quiet (fail)
        go_wp2
        exact end0 Try.results30 rfl ⟨rfl, HL1.out, HK1.out.drewN.drewN⟩
    · have e : seeL ⟨cr, lc, ln, ls⟩ ⟨cr, cc, cv, cg, cx⟩ = ⟨cr, lc, ln, ls⟩ := by unfold seeL; rw [if_neg]; intro h; exact h2 h.2.1
      rw [e]
      clear e
      have h2b : (cc == lc) = false := by simpa using h2
      go_enter Try.func30, Try.ntmps30
      go_wp2_with fail
      rw [← HW1.out]
      go_quiet (fail)
      go_wp2
      exact ret0 Try.results30 rfl ⟨rfl, HL1.out, HK1.out.drewN⟩
  · have e : seeL ⟨lr, lc, ln, ls⟩ ⟨cr, cc, cv, cg, cx⟩ = ⟨lr, lc, ln, ls⟩ := by unfold seeL; rw [if_neg]; intro h; exact h1 h.1
    rw [e]
    clear e
    have h1b : (cr == lr) = false := by simpa using h1
    go_enter Try.func30, Try.ntmps30
    go_wp2_with fail
    rw [← HW1.out]
    go_quiet (fail)
    go_wp2
    exact ret0 Try.results30 rfl ⟨rfl, HL1.out, HK1.out.drewN⟩

end Go.Proofs.Ytlkikfkchgmmhaa
