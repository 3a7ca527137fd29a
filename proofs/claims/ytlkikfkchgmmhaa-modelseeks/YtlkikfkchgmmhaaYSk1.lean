/-
  rows: the iterator over a model's rows, with what it captured.
-/
import Derived.Test.YtlkikfkchgmmhaaYRow1
namespace Go.Proofs.Ytlkikfkchgmmhaa
open Go.RowKit Go.BigFrame Go.Sort
attribute [local go_sem] Oper.semAt_some
attribute [local go_sem] size_bstr toList_bstr ls_def

set_option maxHeartbeats 2000000 in
theorem rows_any (g : Nat) (low col : List UInt8) (w : World) : Calls Try.prog 40 #[.pointer (some ⟨g, 0, none⟩), .string (bstr low), .string (bstr col)] w fun e w' =>
    e = .returned (.func (.func 51) #[] #[.pointer (some ⟨w.heap.size, 0, none⟩), .pointer (some ⟨w.heap.size + 1, 0, none⟩), .pointer (some ⟨w.heap.size + 1 + 1, 0, none⟩)]) ∧
    w'.cell? ⟨w.heap.size, 0, none⟩ = some (.pointer (some ⟨g, 0, none⟩)) ∧ w'.cell? ⟨w.heap.size + 1, 0, none⟩ = some (.string (bstr low)) ∧ w'.cell? ⟨w.heap.size + 1 + 1, 0, none⟩ = some (.string (bstr col)) ∧ Below w.heap.size w w' ∧ w'.heap.size = w.heap.size + 3 := by
  have e1 := heap_alloc_new w (.cells #[.pointer (some ⟨g, 0, none⟩)] 23)
  have e2 := heap_alloc_new (w.alloc (.cells #[.pointer (some ⟨g, 0, none⟩)] 23)) (.cells #[.string (bstr low)] 9)
  have e3 := heap_alloc_new ((w.alloc (.cells #[.pointer (some ⟨g, 0, none⟩)] 23)).alloc (.cells #[.string (bstr low)] 9)) (.cells #[.string (bstr col)] 9)
  rw [World.size_alloc] at e2
  rw [World.size_alloc, World.size_alloc] at e3
  obtain ⟨w3, hw3⟩ : ∃ w3, w3 = ((w.alloc (.cells #[.pointer (some ⟨g, 0, none⟩)] 23)).alloc (.cells #[.string (bstr low)] 9)).alloc (.cells #[.string (bstr col)] 9) := ⟨_, rfl⟩
  have f1 : w3.heap[w.heap.size]? = some (.cells #[.pointer (some ⟨g, 0, none⟩)] 23 (0, 0)) := by rw [hw3]; exact (Below.heap_alloc _ _ _ (by simp; omega)).trans ((Below.heap_alloc _ _ _ (by simp)).trans e1)
  have f2 : w3.heap[w.heap.size + 1]? = some (.cells #[.string (bstr low)] 9 (0, 0)) := by rw [hw3]; exact (Below.heap_alloc _ _ _ (by simp)).trans e2
  have f3 : w3.heap[w.heap.size + 1 + 1]? = some (.cells #[.string (bstr col)] 9 (0, 0)) := by rw [hw3]; exact e3
  have hb : Below w.heap.size w w3 := by rw [hw3]; exact (((Below.refl _ _).alloc (Nat.le_refl _) _).alloc (by simp) _).alloc (by simp; omega) _
  have hs : w3.heap.size = w.heap.size + 3 := by rw [hw3]; simp
  have HW : Hid _ := hw3
  have H : Hid _ := And.intro ((mcells f1).1 0) (And.intro ((mcells f2).1 0) (And.intro ((mcells f3).1 0) (And.intro hb hs)))
  clear e1 e2 e3 f1 f2 f3 hb hs hw3
  go_enter Try.func40, Try.ntmps40
  go_wp2
  rw [← HW.out]
  go_ret
  exact ⟨rfl, H.out.1, H.out.2.1, H.out.2.2.1, H.out.2.2.2.1, H.out.2.2.2.2⟩

/-- What the law's seek has found so far: the least of the rows that were told. -/
structure SK (w : World) (P lr : Nat) (F : Mf) (low col : List UInt8) (RR : Loop) (T : List (List UInt8)) (W : World) : Prop where
  fr : ∃ L, LkB W P L ∧ ((T = [] ∧ L = ⟨[], [], zC, false⟩) ∨ ∃ r x, r ∈ T ∧ Mt F low col r ∧ F r col = some x ∧ L = ⟨r, col, x, true⟩ ∧ ∀ s ∈ T, ls s r = false)
  rz : RzB W (w.heap.size + 1) rz0
  d : W.heap[lr]? = some (.deferred (some []))
  c : W.heap[lr + 1]? = some (.loop RR)
  bl : Below w.heap.size w W
theorem SK.below {w W W' : World} {P lr B : Nat} {F : Mf} {low col : List UInt8} {RR : Loop} {T : List (List UInt8)} (h : SK w P lr F low col RR T W) (hb : Below B W W') (hP : P < B) (hl : lr + 1 < B) (hw : w.heap.size + 1 < B) : SK w P lr F low col RR T W' := by
  obtain ⟨L, h1, h2⟩ := h.fr
  exact ⟨⟨L, h1.below hb hP, h2⟩, h.rz.below hb hw, (hb.block _ (by omega)).trans h.d, (hb.block _ hl).trans h.c, ⟨hb.os.trans h.bl.os, hb.tape.trans h.bl.tape, hb.output.trans h.bl.output, Nat.le_trans h.bl.size hb.size, fun i hi => (hb.block i (by omega)).trans (h.bl.block i hi)⟩⟩

set_option maxHeartbeats 4000000 in
theorem LkB.set8 {w : World} {b : Nat} {l : Lk} (h : LkB w b l) (p : Lk) : LkB ((((((((w.setCell ⟨b, 0, none⟩ (.string (bstr p.row))).setCell ⟨b, 1, none⟩ (.string (bstr p.col))).setCell ⟨b, 2, none⟩ (.string (bstr p.new.row))).setCell ⟨b, 3, none⟩ (.string (bstr p.new.col))).setCell ⟨b, 4, none⟩ (.int .u64 p.new.ver)).setCell ⟨b, 5, none⟩ (.bool p.new.gone)).setCell ⟨b, 6, none⟩ (.string (bstr p.new.val))).setCell ⟨b, 7, none⟩ (.bool p.seen)) b p := by
  have h1 : (w.setCell ⟨b, 0, none⟩ (.string (bstr p.row))).heap[b]? = some (.cells #[.string (bstr p.row), .string (bstr l.col), .string (bstr l.new.row), .string (bstr l.new.col), .int .u64 l.new.ver, .bool l.new.gone, .string (bstr l.new.val), .bool l.seen] 72 (0, 0)) := heap_set_same h (o := 0) (.string (bstr p.row))
  have h2 : ((w.setCell ⟨b, 0, none⟩ (.string (bstr p.row))).setCell ⟨b, 1, none⟩ (.string (bstr p.col))).heap[b]? = some (.cells #[.string (bstr p.row), .string (bstr p.col), .string (bstr l.new.row), .string (bstr l.new.col), .int .u64 l.new.ver, .bool l.new.gone, .string (bstr l.new.val), .bool l.seen] 72 (0, 0)) := heap_set_same h1 (o := 1) (.string (bstr p.col))
  have h3 : (((w.setCell ⟨b, 0, none⟩ (.string (bstr p.row))).setCell ⟨b, 1, none⟩ (.string (bstr p.col))).setCell ⟨b, 2, none⟩ (.string (bstr p.new.row))).heap[b]? = some (.cells #[.string (bstr p.row), .string (bstr p.col), .string (bstr p.new.row), .string (bstr l.new.col), .int .u64 l.new.ver, .bool l.new.gone, .string (bstr l.new.val), .bool l.seen] 72 (0, 0)) := heap_set_same h2 (o := 2) (.string (bstr p.new.row))
  have h4 : ((((w.setCell ⟨b, 0, none⟩ (.string (bstr p.row))).setCell ⟨b, 1, none⟩ (.string (bstr p.col))).setCell ⟨b, 2, none⟩ (.string (bstr p.new.row))).setCell ⟨b, 3, none⟩ (.string (bstr p.new.col))).heap[b]? = some (.cells #[.string (bstr p.row), .string (bstr p.col), .string (bstr p.new.row), .string (bstr p.new.col), .int .u64 l.new.ver, .bool l.new.gone, .string (bstr l.new.val), .bool l.seen] 72 (0, 0)) := heap_set_same h3 (o := 3) (.string (bstr p.new.col))
  have h5 : (((((w.setCell ⟨b, 0, none⟩ (.string (bstr p.row))).setCell ⟨b, 1, none⟩ (.string (bstr p.col))).setCell ⟨b, 2, none⟩ (.string (bstr p.new.row))).setCell ⟨b, 3, none⟩ (.string (bstr p.new.col))).setCell ⟨b, 4, none⟩ (.int .u64 p.new.ver)).heap[b]? = some (.cells #[.string (bstr p.row), .string (bstr p.col), .string (bstr p.new.row), .string (bstr p.new.col), .int .u64 p.new.ver, .bool l.new.gone, .string (bstr l.new.val), .bool l.seen] 72 (0, 0)) := heap_set_same h4 (o := 4) (.int .u64 p.new.ver)
  have h6 : ((((((w.setCell ⟨b, 0, none⟩ (.string (bstr p.row))).setCell ⟨b, 1, none⟩ (.string (bstr p.col))).setCell ⟨b, 2, none⟩ (.string (bstr p.new.row))).setCell ⟨b, 3, none⟩ (.string (bstr p.new.col))).setCell ⟨b, 4, none⟩ (.int .u64 p.new.ver)).setCell ⟨b, 5, none⟩ (.bool p.new.gone)).heap[b]? = some (.cells #[.string (bstr p.row), .string (bstr p.col), .string (bstr p.new.row), .string (bstr p.new.col), .int .u64 p.new.ver, .bool p.new.gone, .string (bstr l.new.val), .bool l.seen] 72 (0, 0)) := heap_set_same h5 (o := 5) (.bool p.new.gone)
  have h7 : (((((((w.setCell ⟨b, 0, none⟩ (.string (bstr p.row))).setCell ⟨b, 1, none⟩ (.string (bstr p.col))).setCell ⟨b, 2, none⟩ (.string (bstr p.new.row))).setCell ⟨b, 3, none⟩ (.string (bstr p.new.col))).setCell ⟨b, 4, none⟩ (.int .u64 p.new.ver)).setCell ⟨b, 5, none⟩ (.bool p.new.gone)).setCell ⟨b, 6, none⟩ (.string (bstr p.new.val))).heap[b]? = some (.cells #[.string (bstr p.row), .string (bstr p.col), .string (bstr p.new.row), .string (bstr p.new.col), .int .u64 p.new.ver, .bool p.new.gone, .string (bstr p.new.val), .bool l.seen] 72 (0, 0)) := heap_set_same h6 (o := 6) (.string (bstr p.new.val))
  have h8 : ((((((((w.setCell ⟨b, 0, none⟩ (.string (bstr p.row))).setCell ⟨b, 1, none⟩ (.string (bstr p.col))).setCell ⟨b, 2, none⟩ (.string (bstr p.new.row))).setCell ⟨b, 3, none⟩ (.string (bstr p.new.col))).setCell ⟨b, 4, none⟩ (.int .u64 p.new.ver)).setCell ⟨b, 5, none⟩ (.bool p.new.gone)).setCell ⟨b, 6, none⟩ (.string (bstr p.new.val))).setCell ⟨b, 7, none⟩ (.bool p.seen)).heap[b]? = some (.cells #[.string (bstr p.row), .string (bstr p.col), .string (bstr p.new.row), .string (bstr p.new.col), .int .u64 p.new.ver, .bool p.new.gone, .string (bstr p.new.val), .bool p.seen] 72 (0, 0)) := heap_set_same h7 (o := 7) (.bool p.seen)
  exact h8
theorem set8_other {w : World} {b j : Nat} {p0 p1 p2 p3 p4 p5 p6 p7 : Value} (h : j ≠ b) : ((((((((w.setCell ⟨b, 0, none⟩ p0).setCell ⟨b, 1, none⟩ p1).setCell ⟨b, 2, none⟩ p2).setCell ⟨b, 3, none⟩ p3).setCell ⟨b, 4, none⟩ p4).setCell ⟨b, 5, none⟩ p5).setCell ⟨b, 6, none⟩ p6).setCell ⟨b, 7, none⟩ p7).heap[j]? = w.heap[j]? :=
  (heap_set_other _ h).trans ((heap_set_other _ h).trans ((heap_set_other _ h).trans ((heap_set_other _ h).trans ((heap_set_other _ h).trans ((heap_set_other _ h).trans ((heap_set_other _ h).trans (heap_set_other _ h)))))))
theorem LkB.frz {w : World} {b : Nat} {l : Lk} (h : LkB w b l) : ∀ i, w.frozen? ⟨b, i, none⟩ = false := (mcells h).2
/-- The least so far, with one more row. -/
theorem sk_step {F : Mf} {low col r : List UInt8} {x : Cl} {T : List (List UInt8)} {L : Lk} (hx : F r col = some x) (hm : Mt F low col r) (h : (T = [] ∧ L = ⟨[], [], zC, false⟩) ∨ ∃ r x, r ∈ T ∧ Mt F low col r ∧ F r col = some x ∧ L = ⟨r, col, x, true⟩ ∧ ∀ s ∈ T, ls s r = false) :
    ((L.seen = false ∨ ls r L.row = true) → (∃ r' x', r' ∈ T ++ [r] ∧ Mt F low col r' ∧ F r' col = some x' ∧ (⟨r, col, x, true⟩ : Lk) = ⟨r', col, x', true⟩ ∧ ∀ s ∈ T ++ [r], ls s r' = false)) ∧
    ((L.seen = true ∧ ls r L.row = false) → (∃ r' x', r' ∈ T ++ [r] ∧ Mt F low col r' ∧ F r' col = some x' ∧ L = ⟨r', col, x', true⟩ ∧ ∀ s ∈ T ++ [r], ls s r' = false)) := by
  constructor
  · intro h1
    refine ⟨r, x, List.mem_append_right _ List.mem_cons_self, hm, hx, rfl, fun s hs => ?_⟩
    rcases List.mem_append.1 hs with hs | hs
    · rcases h with ⟨rfl, _⟩ | ⟨r0, x0, _, _, _, rfl, hmin⟩
      · cases hs
      · have h0 := hmin s hs
        rcases h1 with h1 | h1
        · cases h1
        · cases hb : ls s r with
          | false => rfl
          | true =>
            have := ls_trans hb h1
            rw [h0] at this
            cases this
    · rw [List.mem_singleton.1 hs, ls_irrefl]
  · intro ⟨h1, h2⟩
    rcases h with ⟨_, rfl⟩ | ⟨r0, x0, hr0, hm0, hx0, rfl, hmin⟩
    · cases h1
    · refine ⟨r0, x0, List.mem_append_left _ hr0, hm0, hx0, rfl, fun s hs => ?_⟩
      rcases List.mem_append.1 hs with hs | hs
      · exact hmin s hs
      · rw [List.mem_singleton.1 hs]; exact h2

end Go.Proofs.Ytlkikfkchgmmhaa
