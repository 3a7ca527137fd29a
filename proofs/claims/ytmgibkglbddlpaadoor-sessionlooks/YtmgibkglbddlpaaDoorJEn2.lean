/-
  ops.EncodeResult: a result's bytes, if it may be.
-/
import Derived.Test.YtmgibkglbddlpaaDoorJEnc
namespace Go.Proofs.YtmgibkglbddlpaaDoor
open Go.RowKit Go.BigFrame
attribute [local go_sem] size_bstr toList_bstr

theorem RzE {r : Rz} : okR r = false ∨ okR r = true := by cases okR r <;> simp
set_option maxHeartbeats 1000000 in
theorem jEncode_any (r : Rz) (w : World) :
    Calls Tryd.prog 27 #[rzV r, .func (.func 28) #[] #[], .func (.func 29) #[] #[]] w fun e w' =>
      e = .returned (.tuple #[.string (bstr (if okR r then layR r else [])), .int .i64 (if okR r then 0 else 2)]) ∧ Below w.heap.size w w' := by
  have hl := jLay_any r
  have hr := jResult_any r
  obtain ⟨ok, hok⟩ : ∃ ok, ok = okR r := ⟨_, rfl⟩
  rw [← hok] at hr hl ⊢
  clear hok
  generalize layR r = L at *
  obtain ⟨e, f, ro, va, ve⟩ := r
  go_enter Tryd.func27, Tryd.ntmps27
  obtain ⟨w1, hw1⟩ : ∃ w1, w1 = w.alloc (.cells #[.int .i64 e, .bool f, .string (bstr ro), .string (bstr va), .int .u64 (ve : Int)] 25) := ⟨_, rfl⟩
  have hb1 : Below w.heap.size w w1 := by rw [hw1]; exact (Below.refl _ _).alloc (Nat.le_refl _) _
  have hc := (mcells (show w1.heap[w.heap.size]? = some (.cells #[.int .i64 e, .bool f, .string (bstr ro), .string (bstr va), .int .u64 (ve : Int)] 25 (0, 0)) by rw [hw1]; exact heap_alloc_new w _)).1
  have c0 : w1.cell? ⟨w.heap.size, 0, none⟩ = some (.int .i64 e) := hc 0
  have c1 : w1.cell? ⟨w.heap.size, 1, none⟩ = some (.bool f) := hc 1
  have c2 : w1.cell? ⟨w.heap.size, 2, none⟩ = some (.string (bstr ro)) := hc 2
  have c3 : w1.cell? ⟨w.heap.size, 3, none⟩ = some (.string (bstr va)) := hc 3
  have c4 : w1.cell? ⟨w.heap.size, 4, none⟩ = some (.int .u64 (ve : Int)) := hc 4
  have HW : Hid _ := hw1
  clear hc hw1
  go_upto_region 1 with fail
  rw [← HW.out]
  go_wp2_with fail
  refine (hr w1).mono ?_
  rintro x w2 ⟨rfl, hb2⟩
  replace c0 := cell_below hb2 c0
  replace c1 := cell_below hb2 c1
  replace c2 := cell_below hb2 c2
  replace c3 := cell_below hb2 c3
  replace c4 := cell_below hb2 c4
  cases ok with
  | false =>
    go_wp2
    go_ret2
    exact ⟨rfl, below2 hb1 hb2⟩
  | true =>
    go_wp2_with fail
    refine (hl w2 trivial).mono ?_
    rintro x w3 ⟨rfl, hb3⟩
    go_wp2
    go_ret2
    exact ⟨rfl, below2 (below2 hb1 hb2) hb3⟩
theorem jEncodeR_any (r : Rz) (w : World) :
    Calls Tryd.prog 16 #[rzV r] w fun e w' =>
      e = .returned (.tuple #[.string (bstr (if okR r then layR r else [])), .int .i64 (if okR r then 0 else 2)]) ∧ Below w.heap.size w w' := by
  have he := jEncode_any r
  generalize (if okR r then layR r else []) = L at *
  generalize (if okR r then (0 : Int) else 2) = E at *
  obtain ⟨e, f, ro, va, ve⟩ := r
  go_enter Tryd.func16, Tryd.ntmps16
  go_wp2_with fail
  refine (he _).mono ?_
  rintro x w2 ⟨rfl, hb2⟩
  go_wp2
  go_ret2
  exact ⟨rfl, bel_call hb2 (bel_alloc (Below.refl _ _))⟩

end Go.Proofs.YtmgibkglbddlpaaDoor
