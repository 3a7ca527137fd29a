/-
  The contracts of cells.Sort and cells.Newest.
-/
import Derived.Test.YtnpjbdbhjbccbaaCSort
namespace Go.Proofs.Ytnpjbdbhjbccbaa
open Go.RowKit Go.BigFrame Go.Sort
attribute [local go_sem] size_bstr toList_bstr ls_def

theorem eqFields_plc (a b c d : List UInt8) (w : World) : (Op.equalIn 10000 63 (rngV a b) (rngV c d)).run Try.prog w = .ok (a == c && b == d) w := by
  have hS : Try.prog.underlying 63 = some (.struct (Try.prog.fieldsOf 63)) := by kernel_rfl
  have hp : Try.prog.stoodInHeld 63 = false := by kernel_rfl
  have u := Try.underlying9
  have ag := Try.isAgg9
  have sz := Try.sizeOf9
  rw [show (10000 : Nat) = 9999 + 1 from rfl, run_equalIn_agg w 9999 63 _ _ hS hp]
  simp only [Program.fieldsOf, Try.underlying63]
  go_simp
  by_cases h1 : a = c <;> by_cases h2 : b = d <;> simp [h1, h2]
theorem plc_eql (a b c d : List UInt8) (w : World) : (binOp .eql 63 (.agg #[.string (bstr a), .string (bstr b)]) (.agg #[.string (bstr c), .string (bstr d)])).run Try.prog w = .ok (.bool (a == c && b == d)) w := by
  rw [run_eql_struct, eqFields_plc]
  rfl
theorem plc_guard (op : BinOp) (x y : Operand) (xs ys : Array Value) (w : World) : (eqGuard op 63 x y (.agg xs) (.agg ys)).run Try.prog w = .ok () w :=
  run_eqGuard_agg w op _ x y xs ys (by kernel_rfl)

set_option maxHeartbeats 1000000 in
set_option maxRecDepth 100000 in
theorem placeOf_any (c : Cl) (w : World) : Calls Try.prog 49 #[clV c] w fun e w' => e = .returned (.agg #[.string (bstr c.row), .string (bstr c.col)]) ∧ RowKit.Below w.heap.size w w' := by
  obtain ⟨r, k, v, z, x⟩ := c
  have hB : RowKit.Below w.heap.size w (w.alloc (.cells #[.string (bstr r), .string (bstr k), .int .u64 v, .bool z, .string (bstr x)] 39)) := (RowKit.Below.refl _ _).alloc (Nat.le_refl _) _
  have hB2 : RowKit.Below w.heap.size w ((w.alloc (.cells #[.string (bstr r), .string (bstr k), .int .u64 v, .bool z, .string (bstr x)] 39)).alloc (.cells #[.string (bstr r), .string (bstr k)] 63)) := hB.alloc hB.size _
  have r0 := (RngAt.new2 w (.cells #[.string (bstr r), .string (bstr k), .int .u64 v, .bool z, .string (bstr x)] 39) 63 r k).c0
  have r1 := (RngAt.new2 w (.cells #[.string (bstr r), .string (bstr k), .int .u64 v, .bool z, .string (bstr x)] 39) 63 r k).c1
  go_enter Try.func49, Try.ntmps49
  go_wp2
  exact bodyPost_ret (v := rngV r k) (by simp [results, Try.results49, go_sem, r0, r1]) rfl ⟨rfl, hB2⟩

set_option maxHeartbeats 1000000 in
set_option maxRecDepth 100000 in
theorem sort1_any (a b : Cl) (w : World) : Calls Try.prog 47 #[clV a, clV b] w fun e w' => e = .returned (.bool (eqv a b)) ∧ RowKit.Below w.heap.size w w' := by
  have hcon := fun W => Cmp_any a.row a.col a.ver a.gone a.val b.row b.col b.ver b.gone b.val W
  have hev : eqv a b = (ccl a b == 0) := by unfold eqv; cases hd : (ccl a b == 0) <;> simp_all
  rw [hev]
  unfold ccl
  generalize cc a.row a.col a.ver b.row b.col b.ver = d at *
  clear hev
  obtain ⟨r, k, v, z, x⟩ := a
  obtain ⟨r', k', v', z', x'⟩ := b
  simp only at hcon
  have hB2 : RowKit.Below w.heap.size w ((w.alloc (.cells #[.string (bstr r), .string (bstr k), .int .u64 v, .bool z, .string (bstr x)] 39)).alloc (.cells #[.string (bstr r'), .string (bstr k'), .int .u64 v', .bool z', .string (bstr x')] 39)) := ((RowKit.Below.refl _ _).alloc (Nat.le_refl _) _).alloc (by simp) _
  go_enter Try.func47, Try.ntmps47
  go_wp2_with fail
  refine (hcon _).mono ?_
  rintro e w1 ⟨rfl, hb1⟩
  replace hB2 := below2 hB2 hb1
  clear hb1 hcon
  go_wp2
  go_ret
  exact ⟨rfl, hB2⟩

set_option maxHeartbeats 1000000 in
set_option maxRecDepth 100000 in
theorem newest1_any (a b : Cl) (w : World) : Calls Try.prog 48 #[clV a, clV b] w fun e w' => e = .returned (.bool (plc a b)) ∧ RowKit.Below w.heap.size w w' := by
  have hc1 := fun W => placeOf_any a W
  have hc2 := fun W => placeOf_any b W
  have heq := fun W => plc_eql a.row a.col b.row b.col W
  have hg := fun x y xs ys W => plc_guard .eql x y xs ys W
  unfold plc
  obtain ⟨r, k, v, z, x⟩ := a
  obtain ⟨r', k', v', z', x'⟩ := b
  simp only at hc1 hc2 heq ⊢
  generalize (r == r' && k == k') = d at *
  have hB2 : RowKit.Below w.heap.size w ((w.alloc (.cells #[.string (bstr r), .string (bstr k), .int .u64 v, .bool z, .string (bstr x)] 39)).alloc (.cells #[.string (bstr r'), .string (bstr k'), .int .u64 v', .bool z', .string (bstr x')] 39)) := ((RowKit.Below.refl _ _).alloc (Nat.le_refl _) _).alloc (by simp) _
  have rb := CellAt.new2 w (.cells #[.string (bstr r), .string (bstr k), .int .u64 v, .bool z, .string (bstr x)] 39) 39 r' k' v' z' x'
  have ra := (CellAt.new w 39 r k v z x).alloc (.cells #[.string (bstr r'), .string (bstr k'), .int .u64 v', .bool z', .string (bstr x')] 39)
  go_enter Try.func48, Try.ntmps48
  go_wp2_with fail
  generalize (w.alloc (.cells #[.string (bstr r), .string (bstr k), .int .u64 v, .bool z, .string (bstr x)] 39)).alloc (.cells #[.string (bstr r'), .string (bstr k'), .int .u64 v', .bool z', .string (bstr x')] 39) = W at *
  have q0 := fun d os => cell_regrown ra.c0 d os
  have p0 := fun d os => cell_regrown rb.c0 d os
  have q1 := fun d os => cell_regrown ra.c1 d os
  have p1 := fun d os => cell_regrown rb.c1 d os
  have q2 := fun d os => cell_regrown ra.c2 d os
  have p2 := fun d os => cell_regrown rb.c2 d os
  have q3 := fun d os => cell_regrown ra.c3 d os
  have p3 := fun d os => cell_regrown rb.c3 d os
  have q4 := fun d os => cell_regrown ra.c4 d os
  have p4 := fun d os => cell_regrown rb.c4 d os
  refine wp_region_quiet_below (by kernel_rfl) (by kernel_rfl) ?_
  repeat (go_big_quiet_step (first
    | (go_at_call 49; exact Calls.regrown_of (hc1 _))
    | (go_at_call 49; exact Calls.regrown_of (hc2 _))))
  refine wpQuiet_nil ?_
  intro _ hw'
  obtain ⟨⟨dq, osq⟩, hw''⟩ := hw'
  subst hw''
  replace hB2 := below2 hB2 (below_regrown W dq osq)
  go_wp2
  go_ret
  exact ⟨rfl, hB2⟩

set_option maxHeartbeats 1000000 in
set_option maxRecDepth 100000 in
theorem Sort_any (q : Option Addr) (b off cap : Nat) (cs : List Cl) (w : World) (hq : 0 < cs.length → q = some ⟨b, off, none⟩ ∧ CRow w b off cs ∧ b < w.heap.size) (hf : ∀ c ∈ cs, Fits c) (hn : cs.length * 64 ≤ 140737488351232) :
    Calls Try.prog 23 #[.slice q cs.length cap] w fun e w' => ∃ v, e = .returned v ∧ w'.ownsRow w.heap.size 39 5 v (sortL cs).length (ccells (sortL cs)) ∧ RowKit.Below w.heap.size w w' := by
  have eF : ∀ args w, (callFunc 47 args).run Try.prog w = .ok (.enter 47 args) w := enters_of Try.func47 (by kernel_rfl) rfl
  have hcon := firsts_any 47 eqv q b off cap cs w eF sort1_any hq hf hn
  go_enter Try.func23, Try.ntmps23
  go_wp2_with fail
  refine hcon.mono ?_
  rintro e w1 ⟨is, v, h1, h2, rfl, hown, hb⟩
  rw [sort_of_indices h1 h2] at hown
  clear hcon
  go_wp2
  go_ret
  exact ⟨v, rfl, hown, hb⟩

set_option maxHeartbeats 1000000 in
set_option maxRecDepth 100000 in
theorem Newest_any (q : Option Addr) (b off cap : Nat) (cs : List Cl) (w : World) (hq : 0 < cs.length → q = some ⟨b, off, none⟩ ∧ CRow w b off cs ∧ b < w.heap.size) (hf : ∀ c ∈ cs, Fits c) (hn : cs.length * 64 ≤ 140737488351232) :
    Calls Try.prog 25 #[.slice q cs.length cap] w fun e w' => ∃ v, e = .returned v ∧ w'.ownsRow w.heap.size 39 5 v (newL cs).length (ccells (newL cs)) ∧ RowKit.Below w.heap.size w w' := by
  have eF : ∀ args w, (callFunc 48 args).run Try.prog w = .ok (.enter 48 args) w := enters_of Try.func48 (by kernel_rfl) rfl
  have hcon := firsts_any 48 plc q b off cap cs w eF newest1_any hq hf hn
  go_enter Try.func25, Try.ntmps25
  go_wp2_with fail
  refine hcon.mono ?_
  rintro e w1 ⟨is, v, h1, h2, rfl, hown, hb⟩
  rw [newest_of_indices h1 h2] at hown
  clear hcon
  go_wp2
  go_ret
  exact ⟨v, rfl, hown, hb⟩

end Go.Proofs.Ytnpjbdbhjbccbaa
