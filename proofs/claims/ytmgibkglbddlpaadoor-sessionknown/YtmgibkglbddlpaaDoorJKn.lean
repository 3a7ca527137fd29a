/-
  The law SessionKnown (a closed one: the chapter's examples), walked.
-/
import Derived.Test.YtmgibkglbddlpaaDoorJKnM
import Derived.Test.YtmgibkglbddlpaaDoorJIto
namespace Go.Proofs.YtmgibkglbddlpaaDoor
open Go.RowKit Go.BigFrame
attribute [local go_sem] size_bstr toList_bstr

theorem look_is {c : List UInt8} {q : Nat} {E : Int} (hl : c.length ≤ 65536) (h : lkR c q = rz0 ∧ lkA c q = false ∧ lkE c q = E) : ∀ w, Calls Tryd.prog 5 #[.string ⟨c.toArray⟩, .int .u64 (q : Int)] w fun e w' => e = .returned (.tuple #[rzV rz0, .bool false, .int .i64 E]) ∧ Below w.heap.size w w' := by
  intro w
  have := jLook_any c q w hl
  rw [h.1, h.2.1, h.2.2] at this
  exact this
theorem put_is {q : Nat} {r : Rz} {L : List UInt8} {E : Int} (hq : q < 18446744073709551616) (h : ptL q r = L ∧ ptE q r = E) : ∀ w, Calls Tryd.prog 10 #[.int .u64 (q : Int), rzV r] w fun e w' => e = .returned (.tuple #[.string (bstr L), .int .i64 E]) ∧ Below w.heap.size w w' := by
  intro w
  have := jPut_any q r w hq
  rw [h.1, h.2] at this
  exact this

set_option maxHeartbeats 16000000 in
set_option maxRecDepth 100000 in
theorem SKnown_any (w : World) :
    Calls Tryd.prog 4 #[] w fun e w' => e = .returned (.bool true) ∧ Below w.heap.size w w' := by
  have k1 : Hid (∀ w, Calls Tryd.prog 5 #[.string ⟨#[]⟩, .int .u64 1] w fun e w' => e = .returned (.tuple #[rzV rz0, .bool false, .int .i64 0]) ∧ Below w.heap.size w w') := look_is (by simp) (lk_new (c := []) (q := 1) (by decide) rdE_nil (by rw [rdN_nil]; decide))
  have k2 : Hid (∀ w, Calls Tryd.prog 5 #[.string ⟨#[5, 0, 0, 0, 0, 0]⟩, .int .u64 6] w fun e w' => e = .returned (.tuple #[rzV rz0, .bool false, .int .i64 0]) ∧ Below w.heap.size w w') := look_is (by simp) (lk_new (c := [5, 0, 0, 0, 0, 0]) (q := 6) (by decide) rd5.1 (by rw [rd5.2]; decide))
  have k3 : Hid (∀ w, Calls Tryd.prog 5 #[.string ⟨#[5, 0, 0, 0, 0, 0]⟩, .int .u64 4] w fun e w' => e = .returned (.tuple #[rzV rz0, .bool false, .int .i64 12]) ∧ Below w.heap.size w w') := look_is (by simp) (lk_stale (c := [5, 0, 0, 0, 0, 0]) (q := 4) (by decide) rd5.1 (by rw [rd5.2]; decide))
  have k4 : Hid (∀ w, Calls Tryd.prog 5 #[.string ⟨#[5, 0, 0, 0, 0, 0]⟩, .int .u64 0] w fun e w' => e = .returned (.tuple #[rzV rz0, .bool false, .int .i64 2]) ∧ Below w.heap.size w w') := look_is (by simp) (lk_noseq (c := [5, 0, 0, 0, 0, 0]) (q := 0) (by decide))
  have k5 : Hid (∀ w, Calls Tryd.prog 5 #[.string ⟨#[5, 0, 0, 0, 0, 0]⟩, .int .u64 1099511627777] w fun e w' => e = .returned (.tuple #[rzV rz0, .bool false, .int .i64 2]) ∧ Below w.heap.size w w') := look_is (by simp) (lk_noseq (c := [5, 0, 0, 0, 0, 0]) (q := 1099511627777) (by decide))
  have k6 : Hid (∀ w, Calls Tryd.prog 5 #[.string ⟨#[0, 0, 0, 0, 0, 0]⟩, .int .u64 1] w fun e w' => e = .returned (.tuple #[rzV rz0, .bool false, .int .i64 4]) ∧ Below w.heap.size w w') := look_is (by simp) (lk_none (c := [0, 0, 0, 0, 0, 0]) (q := 1) (by decide) rd0)
  have k7 : Hid (∀ w, Calls Tryd.prog 5 #[.string ⟨#[129, 128, 128, 128, 128, 32, 0, 0, 0, 0, 0]⟩, .int .u64 1] w fun e w' => e = .returned (.tuple #[rzV rz0, .bool false, .int .i64 4]) ∧ Below w.heap.size w w') := look_is (by simp) (lk_none (c := [129, 128, 128, 128, 128, 32, 0, 0, 0, 0, 0]) (q := 1) (by decide) rd41)
  have k8 : Hid (∀ w, Calls Tryd.prog 5 #[.string ⟨#[120]⟩, .int .u64 1] w fun e w' => e = .returned (.tuple #[rzV rz0, .bool false, .int .i64 4]) ∧ Below w.heap.size w w') := look_is (by simp) (lk_none (c := [120]) (q := 1) (by decide) rdx)
  have k9 : Hid (∀ w, Calls Tryd.prog 5 #[.string ⟨#[120]⟩, .int .u64 0] w fun e w' => e = .returned (.tuple #[rzV rz0, .bool false, .int .i64 2]) ∧ Below w.heap.size w w') := look_is (by simp) (lk_noseq (c := [120]) (q := 0) (by decide))
  have k10 : Hid (∀ w, Calls Tryd.prog 10 #[.int .u64 0, .agg #[.int .i64 0, .bool false, .string ⟨#[]⟩, .string ⟨#[]⟩, .int .u64 0]] w fun e w' => e = .returned (.tuple #[.string (bstr []), .int .i64 2]) ∧ Below w.heap.size w w') := put_is (q := 0) (r := rz0) (L := []) (E := 2) (by decide) p0
  have k11 : Hid (∀ w, Calls Tryd.prog 10 #[.int .u64 1, .agg #[.int .i64 16, .bool false, .string ⟨#[]⟩, .string ⟨#[]⟩, .int .u64 0]] w fun e w' => e = .returned (.tuple #[.string (bstr []), .int .i64 2]) ∧ Below w.heap.size w w') := put_is (q := 1) (r := ⟨16, false, [], [], 0⟩) (L := []) (E := 2) (by decide) p16
  have k12 : Hid (∀ w, Calls Tryd.prog 10 #[.int .u64 1, .agg #[.int .i64 0, .bool false, .string ⟨#[]⟩, .string (bstr (zeros 65536)), .int .u64 0]] w fun e w' => e = .returned (.tuple #[.string (bstr []), .int .i64 3]) ∧ Below w.heap.size w w') := put_is (q := 1) (r := rzZ 65536) (L := []) (E := 3) (by decide) p65536
  have k13 : Hid (∀ w, Calls Tryd.prog 10 #[.int .u64 1099511627776, .agg #[.int .i64 0, .bool false, .string ⟨#[]⟩, .string (bstr (zeros 65523)), .int .u64 0]] w fun e w' => e = .returned (.tuple #[.string (bstr (ptL 1099511627776 (rzZ 65523))), .int .i64 0]) ∧ Below w.heap.size w w') := put_is (q := 1099511627776) (r := rzZ 65523) (L := ptL 1099511627776 (rzZ 65523)) (E := 0) (by decide) ⟨rfl, p65523⟩
  have k14 : Hid (∀ w, Calls Tryd.prog 10 #[.int .u64 1099511627776, .agg #[.int .i64 0, .bool false, .string ⟨#[]⟩, .string (bstr (zeros 65524)), .int .u64 0]] w fun e w' => e = .returned (.tuple #[.string (bstr []), .int .i64 3]) ∧ Below w.heap.size w w') := put_is (q := 1099511627776) (r := rzZ 65524) (L := []) (E := 3) (by decide) p65524
  go_enter Tryd.func4, Tryd.ntmps4
  go_wp2_with fail
  refine (k1.out _).mono ?_
  rintro e w1 ⟨rfl, hb⟩
  have hB := bel_call hb (Below.refl _ _)
  clear hb
  go_wp2_with fail
  refine (k2.out _).mono ?_
  rintro e w2 ⟨rfl, hb⟩
  replace hB := bel_call hb (bel_alloc hB)
  clear hb
  go_wp2_with fail
  refine (k3.out _).mono ?_
  rintro e w3 ⟨rfl, hb⟩
  replace hB := bel_call hb (bel_alloc hB)
  clear hb
  go_wp2_with fail
  refine (k4.out _).mono ?_
  rintro e w4 ⟨rfl, hb⟩
  replace hB := bel_call hb (bel_alloc hB)
  clear hb
  go_wp2_with fail
  refine (k5.out _).mono ?_
  rintro e w5 ⟨rfl, hb⟩
  replace hB := bel_call hb (bel_alloc hB)
  clear hb
  go_wp2_with fail
  refine (k6.out _).mono ?_
  rintro e w6 ⟨rfl, hb⟩
  replace hB := bel_call hb (bel_alloc hB)
  clear hb
  go_wp2_with fail
  refine (k7.out _).mono ?_
  rintro e w7 ⟨rfl, hb⟩
  replace hB := bel_call hb (bel_alloc hB)
  clear hb
  go_wp2_with fail
  refine (k8.out _).mono ?_
  rintro e w8 ⟨rfl, hb⟩
  replace hB := bel_call hb (bel_alloc hB)
  clear hb
  go_wp2_with fail
  refine (k9.out _).mono ?_
  rintro e w9 ⟨rfl, hb⟩
  replace hB := bel_call hb (bel_alloc hB)
  clear hb
  go_wp2_with fail
  refine (k10.out _).mono ?_
  rintro e w10 ⟨rfl, hb⟩
  replace hB := bel_call hb (bel_alloc hB)
  clear hb
  go_wp2_with fail
  refine (k11.out _).mono ?_
  rintro e w11 ⟨rfl, hb⟩
  replace hB := bel_call hb hB
  clear hb
  have hm12 : ∀ W : World, (Instr.makeSlice 33 (.int .i64 65536) (.int .i64 65536)).run Tryd.prog W = .ok (.slice (some ⟨W.heap.size, 0, none⟩) 65536 65536) (W.alloc (.cells (zs 65536) 5)) := fun W => make_run .i64 65536 (by decide) W
  have hc12 := made_run 65536 (by decide)
  go_wp2_with fail
  refine (k12.out _).mono ?_
  rintro e w12 ⟨rfl, hb⟩
  replace hB := bel_call hb (bel_alloc hB)
  clear hb hm12 hc12
  have hm13 : ∀ W : World, (Instr.makeSlice 33 (.int .i64 65523) (.int .i64 65523)).run Tryd.prog W = .ok (.slice (some ⟨W.heap.size, 0, none⟩) 65523 65523) (W.alloc (.cells (zs 65523) 5)) := fun W => make_run .i64 65523 (by decide) W
  have hc13 := made_run 65523 (by decide)
  go_wp2_with fail
  refine (k13.out _).mono ?_
  rintro e w13 ⟨rfl, hb⟩
  replace hB := bel_call hb (bel_alloc hB)
  clear hb hm13 hc13
  have hm14 : ∀ W : World, (Instr.makeSlice 33 (.int .i64 65524) (.int .i64 65524)).run Tryd.prog W = .ok (.slice (some ⟨W.heap.size, 0, none⟩) 65524 65524) (W.alloc (.cells (zs 65524) 5)) := fun W => make_run .i64 65524 (by decide) W
  have hc14 := made_run 65524 (by decide)
  go_wp2_with fail
  refine (k14.out _).mono ?_
  rintro e w14 ⟨rfl, hb⟩
  replace hB := bel_call hb (bel_alloc hB)
  clear hb hm14 hc14
  go_wp2_with fail
  refine (col0 _).mono ?_
  rintro e w15 ⟨rfl, hb⟩
  replace hB := bel_call hb hB
  clear hb
  go_wp2_with fail
  refine (col3 _).mono ?_
  rintro e w16 ⟨rfl, hb⟩
  replace hB := bel_call hb hB
  clear hb
  go_wp2_with fail
  refine (col4 _).mono ?_
  rintro e w17 ⟨rfl, hb⟩
  replace hB := bel_call hb hB
  clear hb
  go_wp2_with fail
  refine (colm _).mono ?_
  rintro e w18 ⟨rfl, hb⟩
  replace hB := bel_call hb hB
  clear hb
  go_wp2_with fail
  refine (works17_any _).mono ?_
  rintro e w19 ⟨rfl, hb⟩
  replace hB := bel_call hb hB
  clear hb
  go_wp2
  go_ret
  exact ⟨rfl, hB⟩

end Go.Proofs.YtmgibkglbddlpaaDoor
