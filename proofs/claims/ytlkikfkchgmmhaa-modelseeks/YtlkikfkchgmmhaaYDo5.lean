/-
  Do, where it seeks.
-/
import Derived.Test.YtlkikfkchgmmhaaYDo
import Derived.Test.YtlkikfkchgmmhaaYSeek
namespace Go.Proofs.Ytlkikfkchgmmhaa
open Go.RowKit Go.BigFrame Go.Sort
attribute [local go_sem] Oper.semAt_some
attribute [local go_sem] size_bstr toList_bstr ls_def

set_option maxHeartbeats 8000000 in
set_option maxRecDepth 100000 in
theorem YDo5_any (g m n : Nat) (F : Mf) (o : Oq) (w : World) (h : Md w g m n F) (hF : FInv F) (hSt : ∀ r c x, F r c = some x → r.length ≤ bigL) (hk : o.kind = 5) (hmay : mayO o = true) (hcol : o.col.length ≤ bigL) :
    Calls Try.prog 10 #[.pointer (some ⟨g, 0, none⟩), oqV o] w fun e w' => ∃ z, e = .returned (rzV z) ∧ SeekOk F o.row o.col z ∧ Below w.heap.size w w' := by
  obtain ⟨w1, hw1⟩ : ∃ w1, w1 = (w.alloc (.cells (oqC o) 32)).alloc (.cells #[.int .i64 0, .bool false, .string ⟨#[]⟩, .string ⟨#[]⟩, .int .u64 0] 29) := ⟨_, rfl⟩
  have hb1 : Below w.heap.size w w1 := by rw [hw1]; exact ((Below.refl _ _).alloc (Nat.le_refl _) _).alloc (by simp) _
  have x1 : OqB w1 w.heap.size o := by rw [hw1]; exact (Below.heap_alloc _ _ _ (by simp)).trans (heap_alloc_new w _)
  have y1 : RzB w1 (w.heap.size + 1) rz0 := by
    have h := RzB.new (w.alloc (.cells (oqC o) 32))
    rw [World.size_alloc] at h
    rw [hw1]
    exact h
  have hs1 : w1.heap.size = w.heap.size + 2 := by rw [hw1]; simp
  have hM1 := h.below hb1 h.lt.1 h.lt.2
  have hnn := none_any g m n F w1 hM1
  have hq : oqV o = .agg #[.int .i64 5, .string (bstr o.row), .string (bstr o.col), .string (bstr o.val), .bool o.has, .string (bstr o.exp)] := by show Value.agg #[.int .i64 o.kind, .string (bstr o.row), .string (bstr o.col), .string (bstr o.val), .bool o.has, .string (bstr o.exp)] = _; rw [hk]
  have hck := fun X => show Calls Try.prog 18 #[.agg #[.int .i64 5, .string (bstr o.row), .string (bstr o.col), .string (bstr o.val), .bool o.has, .string (bstr o.exp)]] X fun e w' => e = .returned (.int .i64 0) ∧ Below X.heap.size X w' from by
    have h9 := YCheck_any o X
    rw [if_pos hmay] at h9
    rw [← hq]
    exact h9
  have hsk := fun X (hX : Md X g m n F) => show Calls Try.prog 22 #[.pointer (some ⟨g, 0, none⟩), .agg #[.int .i64 5, .string (bstr o.row), .string (bstr o.col), .string (bstr o.val), .bool o.has, .string (bstr o.exp)]] X fun e w' => ∃ z, e = .returned (rzV z) ∧ SeekOk F o.row o.col z ∧ Below X.heap.size X w' from by
    rw [← hq]
    exact seek_any g m n F o X hX hcol hF hSt
  have HW1 : Hid _ := hw1
  have HM1 : Hid _ := hM1
  have HX1 : Hid _ := x1
  have HY1 : Hid _ := y1
  clear hw1 h
  obtain ⟨c0, c1, c2, c3, c4, c5⟩ := x1.facts
  rw [hk] at c0
  clear x1 y1 hM1
  go_enter Try.func10, Try.ntmps10
  go_wp2_with fail
  rw [show #[.int .i64 5, .string (bstr o.row), .string (bstr o.col), .string (bstr o.val), .bool o.has, .string (bstr o.exp)] = oqC o from by rw [← hk]; rfl, ← HW1.out]
  refine hnn.mono ?_
  rintro e w2 ⟨rfl, rfl⟩
  clear HW1 hnn hq
  go_wp2_with fail
  refine (hck _).mono ?_
  rintro e w3 ⟨rfl, hb3⟩
  have hM3 := HM1.out.below hb3 HM1.out.lt.1 HM1.out.lt.2
  have hx3 := op_row o _ HX1.out hb3 (blk_lt HX1.out)
  have hy3 := RzB.below HY1.out hb3 (blk_lt HY1.out)
  have hb03 := below2 hb1 hb3
  clear c0 c1 c2 c3 c4 c5 hck
  obtain ⟨c0, c1, c2, c3, c4, c5⟩ := hx3.facts
  rw [hk] at c0
  go_wp2_with fail
  refine (hsk _ hM3).mono ?_
  rintro e w4 ⟨z, rfl, hok, hb4⟩
  have hy4 := RzB.below hy3 hb4 (blk_lt hy3)
  have hb04 := below2 hb03 hb4
  obtain ⟨q0, q1, q2, q3, q4⟩ := hy4.facts
  have fz := hy4.frz
  have HR : Hid _ := hy4.set z
  have HB : Hid _ := below_set5 (n := w.heap.size + 1) (.int .i64 z.err) (.bool z.found) (.string (bstr z.row)) (.string (bstr z.val)) (.int .u64 z.ver) hb04 (Nat.le_succ _)
  have HOK : Hid _ := hok
  clear c0 c1 c2 c3 c4 c5 hok hsk hy4 hy3 hx3 hM3 HM1 HX1 HY1
  go_wp2
  exact ret_rz Try.results10 rfl HR.out rfl ⟨z, rfl, HOK.out, HB.out⟩

end Go.Proofs.Ytlkikfkchgmmhaa
