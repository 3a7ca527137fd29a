/-
  A model: New, none, put.
-/
import Derived.Test.YtlkikfkchgmmhaaYKey
namespace Go.Proofs.Ytlkikfkchgmmhaa
open Go.RowKit Go.BigFrame Go.Sort
attribute [local go_sem] size_bstr toList_bstr ls_def

theorem zeroC (w : World) : (zeroValue 38).run Try.prog w = .ok (clV zC) w := by kernel_rfl

set_option maxHeartbeats 2000000 in
theorem YNew_any (w : World) : Calls Try.prog 8 #[] w fun e w' => e = .returned (.pointer (some ⟨w.heap.size + 1, 0, none⟩)) ∧ Md w' (w.heap.size + 1) w.heap.size 0 (fun _ _ => none) ∧ Below w.heap.size w w' := by
  have hmm := @run_makeMap Try.prog
  go_enter Try.func8, Try.ntmps8
  go_wp2
  go_ret
  refine ⟨rfl, ⟨?_, .map [], ?_, fun r c _ _ => ⟨rfl, rfl⟩, fun kl hk => by cases hk⟩, ((Below.refl _ _).alloc (Nat.le_refl _) _).alloc (by simp) _⟩
  · have h := heap_alloc_new (w.alloc (.map #[] 0)) (.cells #[.map (some w.heap.size)] 58)
    rw [World.size_alloc] at h
    exact h
  · exact (World.ownsMap_made w Try.prog 60 celElem).alloc _

set_option maxHeartbeats 2000000 in
set_option maxRecDepth 100000 in
theorem none_any (g m n : Nat) (F : Mf) (w : World) (h : Md w g m n F) : Calls Try.prog 19 #[.pointer (some ⟨g, 0, none⟩)] w fun e w' => e = .returned (.bool false) ∧ w' = w := by
  have c0 := (mcells h.bx).1 0
  simp at c0
  have qT : ∀ (w : World) (r : Option Nat), (binOp .eql 56 (.map r) (.map none)).run Try.prog w = .ok (.bool r.isNone) w := fun w r => run_eql_map_nil w _ _ _ r Try.underlying56
  go_enter Try.func19, Try.ntmps19
  go_wp2
  go_ret
  exact ⟨rfl, rfl⟩

set_option maxHeartbeats 4000000 in
set_option maxRecDepth 100000 in
theorem put_any (g m n : Nat) (F : Mf) (x : Cl) (w : World) (h : Md w g m n F) (hgm : g ≠ m) (hn : n < 1000000000) (h1 : x.row.length ≤ bigL) (h2 : x.col.length ≤ bigL) : Calls Try.prog 20 #[.pointer (some ⟨g, 0, none⟩), clV x] w fun e w' => e = .returned (.tuple #[]) ∧ Md w' g m (n + 1) (putF F x) ∧ Kp w w' (fun i => i = m) := by
  have hb1 : Below w.heap.size w (w.alloc (.cells #[.string (bstr x.row), .string (bstr x.col), .int .u64 x.ver, .bool x.gone, .string (bstr x.val)] 38)) := (Below.refl _ _).alloc (Nat.le_refl _) _
  have x1 := heap_alloc_new w (.cells #[.string (bstr x.row), .string (bstr x.col), .int .u64 x.ver, .bool x.gone, .string (bstr x.val)] 38)
  obtain ⟨w1, hw1⟩ : ∃ w1, w1 = w.alloc (.cells #[.string (bstr x.row), .string (bstr x.col), .int .u64 x.ver, .bool x.gone, .string (bstr x.val)] 38) := ⟨_, rfl⟩
  rw [← hw1] at hb1 x1
  have hM1 := h.below hb1 h.lt.1 h.lt.2
  have HW1 : Hid _ := hw1
  clear hw1
  have c0 := (mcells hM1.bx).1 0
  simp at c0
  obtain ⟨d0, d1, d2, d3, d4⟩ : w1.cell? ⟨w.heap.size, 0, none⟩ = some (.string (bstr x.row)) ∧ w1.cell? ⟨w.heap.size, 1, none⟩ = some (.string (bstr x.col)) ∧ w1.cell? ⟨w.heap.size, 2, none⟩ = some (.int .u64 x.ver) ∧ w1.cell? ⟨w.heap.size, 3, none⟩ = some (.bool x.gone) ∧ w1.cell? ⟨w.heap.size, 4, none⟩ = some (.string (bstr x.val)) := ⟨(mcells x1).1 0, (mcells x1).1 1, (mcells x1).1 2, (mcells x1).1 3, (mcells x1).1 4⟩
  obtain ⟨D, hown, hMp⟩ := hM1.mp
  have hD : Maps.IsMap D := by
    obtain ⟨es, clock, _, _, _, rfl⟩ := hown
    exact ⟨_, rfl⟩
  obtain ⟨w2, hrun, hown2, hg2⟩ := hown.drew.update keyP Try.underlying56 (by unfold maxLen; omega) (key_place h1 h2) (show celElem (clV x) = some (.held (clV x), []) from rfl)
  have hM2 : Md w2 g m (n + 1) (putF F x) := ⟨(hg2.block g hM1.lt.1 (by simp; exact hgm)).trans hM1.bx, _, hown2, hMp.put hD x h1 h2⟩
  have hk2 : Kp w w2 (fun i => i = m) := (Kp.of_below (fun i => i = m) hb1).drew.trans (Kp.of_grown hg2 (S := fun i => i = m) fun k e => by cases e; rfl) fun i e => .inl e
  have HM : Hid _ := hM2
  have HK : Hid _ := hk2
  clear hM2 hk2 hown hown2 hg2 hMp hD h hb1 hM1
  go_enter Try.func20, Try.ntmps20
  go_wp2_with fail
  rw [← HW1.out]
  go_region
  exact end0 Try.results20 rfl ⟨rfl, HM.out, HK.out⟩

end Go.Proofs.Ytlkikfkchgmmhaa
