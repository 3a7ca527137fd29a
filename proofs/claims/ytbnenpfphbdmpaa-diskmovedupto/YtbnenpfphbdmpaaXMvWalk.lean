/-
  DiskMoved: the walk.
-/
import Derived.Test.YtbnenpfphbdmpaaXKp
import Derived.Deep.QuietTactic
import Derived.BigQuiet
namespace Go.Proofs.Ytbnenpfphbdmpaa
open Go.RowKit
attribute [local go_sem] size_bstr toList_bstr append_bstr

theorem Dk.drewN {w : World} {d m fr N : Nat} {L : List Fl} (h : Dk w d m L fr N) (n : Nat) : Dk (w.drewN n) d m L fr N := h.kept fun _ _ => rfl
theorem bel_drewN {B : Nat} {a b : World} (h : Below B a b) (n : Nat) : Below B a (b.drewN n) := ⟨h.os, h.tape, h.output, h.size, h.block⟩
theorem okN_false {s : List UInt8} (h : okN s = false) : s = [] ∨ 64 < s.length := by
  unfold okN at h
  cases s with
  | nil => exact Or.inl rfl
  | cons a r =>
    right
    simp at h
    simp only [List.length_cons]
    omega

set_option maxHeartbeats 8000000 in
set_option maxRecDepth 100000 in
theorem moved_any (s0 t0 s1 t1 : List UInt8) (w : World) (hs0 : s0.length ≤ 1048576) (ht0 : t0.length ≤ 1048576) (hs1 : s1.length ≤ 1048576) (ht1 : t1.length ≤ 1048576) :
    Calls Try.prog 6 #[.agg #[.string (bstr s0), .string (bstr t0)], .agg #[.string (bstr s1), .string (bstr t1)]] w fun e w' => e = .returned (.bool true) ∧ Below w.heap.size w w' := by
  go_enter Try.func6, Try.ntmps6
  go_wp2_with fail
  have hW0 : Below w.heap.size w ((w.alloc (.cells #[.string (bstr s0), .string (bstr t0)] 56)).alloc (.cells #[.string (bstr s1), .string (bstr t1)] 56)) := ((Below.refl _ _).alloc (Nat.le_refl _) _).alloc (by simp) _
  have b0 : ((w.alloc (.cells #[.string (bstr s0), .string (bstr t0)] 56)).alloc (.cells #[.string (bstr s1), .string (bstr t1)] 56)).heap[w.heap.size]? = some (.cells #[.string (bstr s0), .string (bstr t0)] 56 (0, 0)) := ((MapKept.heap_alloc (w.alloc (.cells #[.string (bstr s0), .string (bstr t0)] 56)) _).2 w.heap.size (by simp)).trans (heap_alloc_new w _)
  have b1 : ((w.alloc (.cells #[.string (bstr s0), .string (bstr t0)] 56)).alloc (.cells #[.string (bstr s1), .string (bstr t1)] 56)).heap[w.heap.size + 1]? = some (.cells #[.string (bstr s1), .string (bstr t1)] 56 (0, 0)) := by
    have := heap_alloc_new (w.alloc (.cells #[.string (bstr s0), .string (bstr t0)] 56)) (.cells #[.string (bstr s1), .string (bstr t1)] 56 (0, 0))
    simpa using this
  generalize (w.alloc (.cells #[.string (bstr s0), .string (bstr t0)] 56)).alloc (.cells #[.string (bstr s1), .string (bstr t1)] 56) = W0 at *
  have cf : ∀ w', Below W0.heap.size W0 w' → w'.cell? ⟨w.heap.size, 0, none⟩ = some (.string (bstr s0)) ∧ w'.cell? ⟨w.heap.size, 1, none⟩ = some (.string (bstr t0)) ∧ w'.cell? ⟨w.heap.size + 1, 0, none⟩ = some (.string (bstr s1)) ∧ w'.cell? ⟨w.heap.size + 1, 1, none⟩ = some (.string (bstr t1)) := fun w' hb => by
    have k0 := (cells_block ((hb.block _ (Array.getElem?_eq_some_iff.1 b0).1).trans b0)).1
    have k1 := (cells_block ((hb.block _ (Array.getElem?_eq_some_iff.1 b1).1).trans b1)).1
    exact ⟨k0 0, k0 1, k1 0, k1 1⟩
  have hfin : ∀ w', Below W0.heap.size W0 w' → Below w.heap.size w w' := fun w' hb => hW0.trans (hb.mono hW0.size)
  clear b0 b1 hW0
  refine (works_any _).mono ?_
  rintro e w1 ⟨rfl, hb1⟩
  go_wp2_with fail
  refine (New_any 1099511627776 _).mono ?_
  rintro e w2 ⟨d, m, rfl, hD, hb, hft⟩
  have h1 : Dw W0.heap.size W0 w2 d m [] 1099511627776 0 := Dw.made (Nat.le_refl _) hb1 hD hb hft
  clear hD hb hft hb1
  obtain ⟨c0, c1, c2, c3⟩ := cf _ h1.bel
  cases hok : okN s0 with
  | false =>
    go_wp2_with fail
    refine (Append_arg s0 s1 _ h1.dk hok).mono ?_
    rintro e w3 ⟨rfl, rfl⟩
    rcases okN_false hok with rfl | hl
    · go_wp2
      go_ret
      exact ⟨by rfl, hfin _ h1.bel⟩
    · have hl1 : (64 : Int) < (s0.length : Int) := by omega
      have hl2 : (s0 == ([] : List UInt8)) = false := by
        cases s0 with
        | nil => simp at hl
        | cons a r => rfl
      go_wp2
      go_ret
      exact ⟨by rfl, hfin _ h1.bel⟩
  | true =>
    go_wp2_with fail
    refine (Append_ok s0 s1 _ h1.dk hok (by omega) (by simp [tot]; omega) (by decide) (by decide)).mono ?_
    rintro e w3 ⟨rfl, f1, n1, y1, z1, hS⟩
    replace h1 := h1.step hS
    clear hS c0 c1 c2 c3
    obtain ⟨c0, c1, c2, c3⟩ := cf _ h1.bel
    have e1 : wth f1 [] = [f1] := rfl
    rw [e1] at h1
    simp only [lk, List.find?_nil, by_, syN, List.nil_append] at y1 z1
    have hsl : s0.length ≤ maxLen := by unfold maxLen; omega
    go_wp2_with fail
    refine (Sync_any s0 _ h1.dk hsl).mono ?_
    have e2 : lk s0 [f1] = some f1 := by simp [lk, n1]
    rw [e2]
    simp only [fc]
    rintro e w4 ⟨rfl, hS⟩
    replace h1 := h1.step hS
    clear hS c0 c1 c2 c3
    obtain ⟨c0, c1, c2, c3⟩ := cf _ h1.bel
    have e3 : synL s0 [f1] = [{ f1 with syn := f1.bytes.length }] := by simp [synL, e2, wth, lt_irr]
    rw [e3] at h1
    generalize hf2 : ({ f1 with syn := f1.bytes.length } : Fl) = f2 at h1
    have n2 : f2.name = s0 := by rw [← hf2]; exact n1
    have y2 : f2.bytes = s1 := by rw [← hf2]; exact y1
    have z2 : f2.syn = s1.length := by rw [← hf2]; show f1.bytes.length = _; rw [y1]
    clear e1 e2 e3 hf2 n1 y1 z1
    have t2 : tot [f2] = s1.length := by simp [tot, y2]
    go_wp2_with fail
    refine (Append_ok s0 t1 _ h1.dk hok (by omega) (by rw [t2]; omega) (by omega) (by decide)).mono ?_
    have e2 : lk s0 [f2] = some f2 := by simp [lk, n2]
    rw [e2]
    rintro e w5 ⟨rfl, f3, n3, y3, z3, hS⟩
    replace h1 := h1.step hS
    clear hS c0 c1 c2 c3
    obtain ⟨c0, c1, c2, c3⟩ := cf _ h1.bel
    have e3 : wth f3 [f2] = [f3] := by simp [wth, n3, n2, lt_irr]
    rw [e3] at h1
    simp only [by_, syN, y2, z2] at y3 z3
    have e4 : lk s0 [f3] = some f3 := by simp [lk, n3]
    have t3 : tot [f3] = s1.length + t1.length := by simp [tot, y3]
    clear e2 e3 n2 y2 z2 t2
    have hfr : 1099511627776 - s1.length - t1.length ≤ 1099511627776 := by omega
    generalize 1099511627776 - s1.length - t1.length = fr at *
    have htl : t0.length ≤ maxLen := by unfold maxLen; omega
    have hcat : ¬ 9223372036854775807 < s1.length + t1.length := by omega
    cases hok2 : okN t0 with
    | false =>
      go_wp2_with fail
      refine (Rename_arg s0 t0 _ h1.dk hsl e4 hok2).mono ?_
      intro e w6 he
      obtain ⟨rfl, hw6⟩ := he
      rw [hw6]
      clear hw6
      have hrd := Read_any s0 w5 h1.dk hsl
      rw [e4] at hrd
      simp only [by_, fc, y3] at hrd
      go_wp2_with fail
      refine hrd.mono ?_
      intro e w7 he
      obtain ⟨rfl, hw7⟩ := he
      rw [hw7]
      clear hw7
      rcases okN_false hok2 with rfl | hl
      · go_wp2
        go_ret
        exact ⟨by rfl, hfin _ h1.bel⟩
      · have hl1 : (64 : Int) < (t0.length : Int) := by omega
        have hl2 : (t0 == ([] : List UInt8)) = false := by
          cases t0 with
          | nil => simp at hl
          | cons a r => rfl
        go_wp2
        go_ret
        exact ⟨by rfl, hfin _ h1.bel⟩
    | true =>
      by_cases hst : s0 = t0
      · subst hst
        have hr1 := Read_any s0 w5 h1.dk hsl
        have hr2 := Read_any s0 w5 h1.dk hsl
        have hr3 : ∀ n, Calls Try.prog 15 #[.pointer (some ⟨d, 0, none⟩), .string (bstr s0)] (w5.drewN n) fun e w' => e = .returned (.int .i64 (s1.length : Int)) ∧ w' = w5.drewN n := fun n => by
          have := Synced_any s0 (w5.drewN n) (h1.dk.drewN n) hsl
          rw [e4] at this
          simp only [sy, z3] at this
          exact this
        rw [e4] at hr1 hr2
        simp only [by_, fc, y3] at hr1 hr2
        have hsame : (s0 == s0) = true := by simp
        go_wp2_with fail
        refine (Rename_same s0 _ h1.dk hsl e4).mono ?_
        intro e w6 he
        obtain ⟨rfl, hw6⟩ := he
        rw [hw6]
        clear hw6
        go_wp2_with fail
        refine hr1.mono ?_
        intro e w7 he
        obtain ⟨rfl, hw7⟩ := he
        rw [hw7]
        clear hw7
        go_wp2_with fail
        refine hr2.mono ?_
        intro e w8 he
        obtain ⟨rfl, hw8⟩ := he
        rw [hw8]
        clear hw8
        go_wp2_with fail
        go_quiet (first | (go_at_call 15; refine Calls.quiet_of_same (hr3 _)))
        go_wp2
        go_ret
        exact ⟨by rfl, hfin _ (bel_drewN h1.bel _)⟩
      · have hne : (s0 == t0) = false := by simpa using hst
        go_wp2_with fail
        refine (Rename_ok s0 t0 _ h1.dk hsl e4 hst hok2 (by rw [t3]; omega) (by decide)).mono ?_
        rintro e w6 ⟨rfl, hS⟩
        replace h1 := h1.step hS
        clear hS c0 c1 c2 c3
        obtain ⟨c0, c1, c2, c3⟩ := cf _ h1.bel
        have e5 : wth { f3 with name := t0 } (wto s0 (wto t0 [f3])) = [{ f3 with name := t0 }] := by
          have a1 : wto t0 [f3] = [f3] := by simp [wto, n3, hst]
          have a2 : wto s0 [f3] = [] := by simp [wto, n3]
          rw [a1, a2]; rfl
        rw [e5] at h1
        have e6 : lk t0 [{ f3 with name := t0 }] = some { f3 with name := t0 } := by simp [lk]
        have e7 : lk s0 [{ f3 with name := t0 }] = none := by simp [lk]; exact fun e => hst e.symm
        have hr1 := Read_any t0 w6 h1.dk htl
        have hr2 := Read_any s0 w6 h1.dk hsl
        have hr3 : ∀ n, Calls Try.prog 15 #[.pointer (some ⟨d, 0, none⟩), .string (bstr t0)] (w6.drewN n) fun e w' => e = .returned (.int .i64 (s1.length : Int)) ∧ w' = w6.drewN n := fun n => by
          have := Synced_any t0 (w6.drewN n) (h1.dk.drewN n) htl
          rw [e6] at this
          simp only [sy, z3] at this
          exact this
        rw [e6] at hr1
        rw [e7] at hr2
        simp only [by_, fc, y3] at hr1 hr2
        go_wp2_with fail
        refine hr1.mono ?_
        intro e w7 he
        obtain ⟨rfl, hw7⟩ := he
        rw [hw7]
        clear hw7
        go_wp2_with fail
        refine hr2.mono ?_
        intro e w8 he
        obtain ⟨rfl, hw8⟩ := he
        rw [hw8]
        clear hw8
        go_wp2_with fail
        go_quiet (first | (go_at_call 15; refine Calls.quiet_of_same (hr3 _)))
        go_wp2
        go_ret
        exact ⟨by rfl, hfin _ (bel_drewN h1.bel _)⟩

end Go.Proofs.Ytbnenpfphbdmpaa
