/-
  The looks of a model: change.
-/
import Derived.Test.YtlkikfkchgmmhaaYFn2
import Derived.Deep.Cut
namespace Go.Proofs.Ytlkikfkchgmmhaa
open Go.RowKit Go.BigFrame Go.Sort
attribute [local go_sem] size_bstr toList_bstr ls_def

theorem own_two (w : World) (a b : Cl) : (w.alloc (.cells #[.string (bstr a.row), .string (bstr a.col), .int .u64 a.ver, .bool a.gone, .string (bstr a.val), .string (bstr b.row), .string (bstr b.col), .int .u64 b.ver, .bool b.gone, .string (bstr b.val)] 38)).ownsRow w.heap.size 38 5 (.slice (some ⟨w.heap.size, 0, none⟩) 2 2) 2 (ccells [a, b]) :=
  World.ownsRow_lit (base := w.heap.size) (e := 38) (size := 5) w #[.string (bstr a.row), .string (bstr a.col), .int .u64 a.ver, .bool a.gone, .string (bstr a.val), .string (bstr b.row), .string (bstr b.col), .int .u64 b.ver, .bool b.gone, .string (bstr b.val)] 2 (Nat.le_refl _) (by decide) (by simp)

/-- What change has ahead of it. -/
structure Cg (N b : Nat) (l : Lk) (o : Oq) (W : World) : Prop where
  lk : LkB W b l
  op : W.heap[N]? = some (.cells (oqC o) 32 (0, 0))
  rz : RzB W (N + 1) rz0
theorem Cg.step {N b : Nat} {l : Lk} {o : Oq} {W W' : World} (h : Cg N b l o W) (hb : Below W.heap.size W W') : Cg N b l o W' := ⟨(hb.block _ (blk_lt h.lk)).trans h.lk, (hb.block _ (blk_lt h.op)).trans h.op, (hb.block _ (blk_lt h.rz)).trans h.rz⟩
theorem Cg.drew {N b : Nat} {l : Lk} {o : Oq} {W : World} (h : Cg N b l o W) : Cg N b l o W.drew := ⟨h.lk, h.op, h.rz⟩
theorem Cg.facts {N b : Nat} {l : Lk} {o : Oq} {W : World} (h : Cg N b l o W) : W.cell? ⟨b, 0, none⟩ = some (.string (bstr l.row)) ∧ W.cell? ⟨b, 1, none⟩ = some (.string (bstr l.col)) ∧ W.cell? ⟨N, 0, none⟩ = some (.int .i64 o.kind) ∧ W.cell? ⟨N, 3, none⟩ = some (.string (bstr o.val)) :=
  ⟨(mcells h.lk).1 0, (mcells h.lk).1 1, (mcells h.op).1 0, (mcells h.op).1 3⟩
theorem own_set5 {W : World} {N B e size n : Nat} {v : Value} {xs : List Value} {p q r s t : Value} (h : W.ownsRow B e size v n xs) (hN : ∀ g, v.ownBlock = some g → g ≠ N) : (((((W.setCell ⟨N, 0, none⟩ p).setCell ⟨N, 1, none⟩ q).setCell ⟨N, 2, none⟩ r).setCell ⟨N, 3, none⟩ s).setCell ⟨N, 4, none⟩ t).ownsRow B e size v n xs := by
  rcases h.2 with h0 | ⟨g, cap, cur, hv, hbg, hg, rr⟩
  · exact ⟨h.1, .inl h0⟩
  · have hne : g ≠ N := hN g (by rw [hv]; rfl)
    exact ⟨h.1, .inr ⟨g, cap, cur, hv, hbg, ((heap_set_other _ hne).trans ((heap_set_other _ hne).trans ((heap_set_other _ hne).trans ((heap_set_other _ hne).trans (heap_set_other _ hne))))).trans hg, rr⟩⟩
theorem yfresh5 (r k : List UInt8) (v : Int) (g : Bool) (x : List UInt8) (w : World) (h1 : r.length ≤ 140737488351232) (h2 : k.length ≤ 140737488351232) (h3 : x.length ≤ 140737488351232) :
    Calls Try.prog 21 #[.agg #[.string (bstr r), .string (bstr k), .int .u64 v, .bool g, .string (bstr x)]] w fun e w' => e = .returned (.agg #[.string (bstr r), .string (bstr k), .int .u64 v, .bool g, .string (bstr x)]) ∧ Below w.heap.size w w' := yfresh_any ⟨r, k, v, g, x⟩ w ⟨h1, h2, h3⟩

set_option maxHeartbeats 8000000 in
set_option maxRecDepth 100000 in
theorem change_any (b : Nat) (l : Lk) (o : Oq) (n : Nat) (w : World) (hL : LkB w b l) (hr : l.row.length ≤ 140737488351232) (hc : l.col.length ≤ 140737488351232) (hv : o.val.length ≤ 140737488351232) :
    Calls Try.prog 34 #[.pointer (some ⟨b, 0, none⟩), oqV o, .int .u64 (n : Int)] w fun e w' => ∃ v, e = .returned (.tuple #[rzV (chgR o n), v]) ∧ w'.ownsRow w.heap.size 38 5 v (chgC l o n).length (ccells (chgC l o n)) ∧ Below w.heap.size w w' := by
  obtain ⟨w1, hw1⟩ : ∃ w1, w1 = (w.alloc (.cells (oqC o) 32)).alloc (.cells #[.int .i64 0, .bool false, .string ⟨#[]⟩, .string ⟨#[]⟩, .int .u64 0] 29) := ⟨_, rfl⟩
  have hb1 : Below w.heap.size w w1 := by rw [hw1]; exact ((Below.refl _ _).alloc (Nat.le_refl _) _).alloc (by simp) _
  have x1 : w1.heap[w.heap.size]? = some (.cells (oqC o) 32 (0, 0)) := by rw [hw1]; exact (Below.heap_alloc _ _ _ (by simp)).trans (heap_alloc_new w _)
  have y1 : RzB w1 (w.heap.size + 1) rz0 := by
    have h := RzB.new (w.alloc (.cells (oqC o) 32))
    rw [World.size_alloc] at h
    rw [hw1]
    exact h
  have hL1 := hL.below hb1 (blk_lt hL)
  have HW1 : Hid _ := hw1
  clear hw1 hL
  obtain ⟨q0, q1, q2, q3, q4⟩ := y1.facts
  have fz := (mcells y1).2
  by_cases hn : 1099511627776 ≤ n
  · have hz : (1099511627776 : Int) ≤ (n : Int) := by omega
    have e1 : chgR o n = ⟨3, false, [], [], 0⟩ := by unfold chgR; rw [if_pos hz]
    have e2 : chgC l o n = [] := by unfold chgC; rw [if_pos hz]
    rw [e1, e2]
    have HR : Hid _ := y1.set ⟨3, false, [], [], 0⟩
    have HB : Hid _ := below_set5 (n := w.heap.size + 1) (.int .i64 3) (.bool false) (.string ⟨#[]⟩) (.string ⟨#[]⟩) (.int .u64 0) hb1 (Nat.le_succ _)
    go_enter Try.func34, Try.ntmps34
    go_upto_region 1 with fail
    rw [show #[.int .i64 o.kind, .string (bstr o.row), .string (bstr o.col), .string (bstr o.val), .bool o.has, .string (bstr o.exp)] = oqC o from rfl, ← HW1.out]
    go_wp2
    exact ret_rz2 Try.results34 rfl rfl HR.out rfl ⟨_, rfl, ⟨rfl, .inl ⟨rfl, rfl⟩⟩, HB.out⟩
  · have hz : ¬ (1099511627776 : Int) ≤ (n : Int) := by omega
    have e1 : chgR o n = ⟨0, !(o.kind == 1), [], [], n + 1⟩ := by unfold chgR; rw [if_neg hz]
    have e2 : chgC l o n = [⟨l.row, [], n + 1, false, []⟩, ⟨l.row, l.col, n + 1, o.kind == 3, o.val⟩] := by unfold chgC; rw [if_neg hz]
    rw [e1, e2]
    go_enter Try.func34, Try.ntmps34
    go_wp2_with fail
    rw [show #[.int .i64 o.kind, .string (bstr o.row), .string (bstr o.col), .string (bstr o.val), .bool o.has, .string (bstr o.exp)] = oqC o from rfl, ← HW1.out]
    have hC : Cg w.heap.size b l o w1 := ⟨hL1, x1, y1⟩
    clear e1 e2 HW1 hL1 x1 y1 q0 q1 q2 q3 q4 fz
    obtain ⟨c0, c1, c2, c3⟩ := hC.facts
    go_region_held3 (fun w' => w'.cell? ⟨b, 0, none⟩ = some (.string (bstr l.row)) ∧ w'.cell? ⟨b, 1, none⟩ = some (.string (bstr l.col)) ∧ w'.cell? ⟨w.heap.size, 0, none⟩ = some (.int .i64 o.kind) ∧ w'.cell? ⟨w.heap.size, 3, none⟩ = some (.string (bstr o.val))) (first | with_reducible exact ⟨c0, c1, c2, c3⟩ | go_keep)
      (first
        | (go_at_call 21; refine (yfresh5 _ _ _ _ _ _ (by first | exact hr | exact Nat.zero_le _) (by first | exact hc | exact Nat.zero_le _) (by first | exact hv | exact Nat.zero_le _)).mono ?_; rintro e wf ⟨rfl, hbf⟩; replace hb1 := below2 hb1.drew hbf; replace hC := hC.drew.step hbf; clear c0 c1 c2 c3; obtain ⟨c0, c1, c2, c3⟩ := hC.facts; clear hbf)
        | (go_at_call 21; refine (yfresh5 _ _ _ _ _ _ (by first | exact hr | exact Nat.zero_le _) (by first | exact hc | exact Nat.zero_le _) (by first | exact hv | exact Nat.zero_le _)).mono ?_; rintro e wf ⟨rfl, hbf⟩; replace hb1 := below2 hb1 hbf; replace hC := hC.step hbf; clear c0 c1 c2 c3; obtain ⟨c0, c1, c2, c3⟩ := hC.facts; clear hbf))
    obtain ⟨w6, hw6⟩ : ∃ w6, w6 = wf.alloc (.cells #[.string (bstr l.row), .string (bstr []), .int .u64 ((n : Int) + 1), .bool false, .string (bstr []), .string (bstr l.row), .string (bstr l.col), .int .u64 ((n : Int) + 1), .bool (o.kind == 3), .string (bstr o.val)] 38) := ⟨_, rfl⟩
    have hb6 : Below wf.heap.size wf w6 := by rw [hw6]; exact (Below.refl _ _).alloc (Nat.le_refl _) _
    have HO6 : w6.ownsRow wf.heap.size 38 5 (.slice (some ⟨wf.heap.size, 0, none⟩) 2 2) 2 (ccells [⟨l.row, [], n + 1, false, []⟩, ⟨l.row, l.col, n + 1, o.kind == 3, o.val⟩]) := by rw [hw6]; exact own_two wf ⟨l.row, [], n + 1, false, []⟩ ⟨l.row, l.col, n + 1, o.kind == 3, o.val⟩
    rw [← hw6]
    have hC6 := hC.step hb6
    have hbB := below2 hb1 hb6
    have hsz := hb1.size
    have HR : Hid _ := hC6.rz.set ⟨0, !(o.kind == 1), [], [], (n : Int) + 1⟩
    have HB : Hid _ := below_set5 (n := w.heap.size + 1) (.int .i64 0) (.bool (!(o.kind == 1))) (.string ⟨#[]⟩) (.string ⟨#[]⟩) (.int .u64 ((n : Int) + 1)) hbB (Nat.le_succ _)
    have hnr : w.heap.size + 1 < wf.heap.size := blk_lt hC.rz
    have hgN : ∀ g, (Value.slice (some ⟨wf.heap.size, 0, none⟩) 2 2).ownBlock = some g → g ≠ w.heap.size + 1 := by
      intro g hg
      have hgw : wf.heap.size = g := by simpa [Value.ownBlock] using hg
      omega
    have HO : Hid _ := own_set5 (p := .int .i64 0) (q := .bool (!(o.kind == 1))) (r := .string ⟨#[]⟩) (s := .string ⟨#[]⟩) (t := .int .u64 ((n : Int) + 1)) (own_mono HO6 hsz) (N := w.heap.size + 1) hgN
    obtain ⟨q0, q1, q2, q3, q4⟩ := hC6.rz.facts
    have fz := (mcells hC6.rz).2
    clear c0 c1 c2 c3
    obtain ⟨_, _, c2, c3⟩ := hC6.facts
    clear hw6 hb6 HO6 hC hC6 hbB hb1 hsz hnr hgN
    go_wp2
    exact ret_rz2 Try.results34 rfl rfl HR.out rfl ⟨_, rfl, HO.out, HB.out⟩

end Go.Proofs.Ytlkikfkchgmmhaa
