/-
  The laws' there-and-back of a model.
-/
import Derived.Test.YtlkikfkchgmmhaaYDo
namespace Go.Proofs.Ytlkikfkchgmmhaa
open Go.RowKit Go.BigFrame Go.Sort
attribute [local go_sem] size_bstr toList_bstr ls_def

theorem FInv.none : FInv (fun _ _ => none) := fun _ _ _ h => by cases h
theorem FInv.puts {F : Mf} (h : FInv F) (l : List Cl) : (∀ x ∈ l, Fits x ∧ 0 ≤ x.ver) → FInv (putsF F l) := by
  induction l generalizing F with
  | nil => exact fun _ => h
  | cons a l ih =>
    intro hl
    refine ih (F := putF F a) (fun r c x hx => ?_) fun x hx => hl x (List.mem_cons_of_mem _ hx)
    unfold putF at hx
    split at hx
    · cases hx; exact hl a List.mem_cons_self
    · exact h r c x hx
theorem effC_inv {F : Mf} (h : FInv F) {o : Oq} (h1 : o.row.length ≤ bigL) (h2 : o.col.length ≤ bigL) (h3 : o.val.length ≤ bigL) : ∀ x ∈ effC o (touL F o), Fits x ∧ 0 ≤ x.ver := by
  intro x hx
  have hv := look_all (fun c => 0 ≤ c.ver) o.row [] (touL F o) (fun c hc => (touL_all h o c hc).2) (by decide)
  unfold effC at hx
  have hr := look_row o.row o.col (touL F o)
  split at hx
  · cases hx
  split at hx
  · cases hx
  split at hx
  · cases hx
  split at hx
  · cases hx
  unfold chgC at hx
  split at hx
  · cases hx
  · simp only [List.mem_cons, List.not_mem_nil, or_false] at hx
    rcases hx with rfl | rfl
    · exact ⟨⟨by rw [hr.1]; exact h1, Nat.zero_le _, Nat.zero_le _⟩, by simp only; omega⟩
    · exact ⟨⟨by rw [hr.1]; exact h1, by rw [hr.2]; exact h2, h3⟩, by simp only; omega⟩
/-- A model's cells behind an operation. -/
def doF (F : Mf) (o : Oq) : Mf := putsF F (effC o (touL F o))
def doR (F : Mf) (o : Oq) : Rz := effR o (touL F o)
theorem FInv.do {F : Mf} (h : FInv F) {o : Oq} (h1 : o.row.length ≤ bigL) (h2 : o.col.length ≤ bigL) (h3 : o.val.length ≤ bigL) : FInv (doF F o) := h.puts _ (effC_inv h h1 h2 h3)

def eqR (a b : Rz) : Bool := decide (a.err = b.err) && a.found == b.found && a.row == b.row && a.val == b.val && decide (a.ver = b.ver)
theorem eqR_iff {a b : Rz} : eqR a b = true ↔ a = b := by
  cases a
  cases b
  simp [eqR, and_assoc]
theorem eqFields_rz (a b : Rz) (w : World) : (Op.equalIn 10000 29 (rzV a) (rzV b)).run Try.prog w = .ok (eqR a b) w := by
  have hS : Try.prog.underlying 29 = some (.struct (Try.prog.fieldsOf 29)) := by kernel_rfl
  have hp : Try.prog.stoodInHeld 29 = false := by kernel_rfl
  have u := Try.underlying9
  have ag := Try.isAgg9
  have sz := Try.sizeOf9
  have u2 := Try.underlying27
  have ag2 := Try.isAgg27
  have sz2 := Try.sizeOf27
  have u3 := Try.underlying4
  have ag3 := Try.isAgg4
  have sz3 := Try.sizeOf4
  have u4 := Try.underlying26
  have ag4 := Try.isAgg26
  have sz4 := Try.sizeOf26
  rw [show (10000 : Nat) = 9999 + 1 from rfl, run_equalIn_agg w 9999 29 _ _ hS hp]
  simp only [Program.fieldsOf, Try.underlying29]
  go_simp
  obtain ⟨r, c, v, g, x⟩ := a
  obtain ⟨r', c', v', g', x'⟩ := b
  simp only [eqR]
  by_cases h1 : r = r' <;> by_cases h2 : c = c' <;> by_cases h3 : v = v' <;> by_cases h4 : g = g' <;> by_cases h5 : x = x' <;> simp [h1, h2, h3, h4, h5]
theorem rz_eql (k : Int) (g : Bool) (r v : List UInt8) (n k' : Int) (g' : Bool) (r' v' : List UInt8) (n' : Int) (w : World) : (binOp .eql 29 (.agg #[.int .i64 k, .bool g, .string (bstr r), .string (bstr v), .int .u64 n]) (.agg #[.int .i64 k', .bool g', .string (bstr r'), .string (bstr v'), .int .u64 n'])).run Try.prog w = .ok (.bool (eqR ⟨k, g, r, v, n⟩ ⟨k', g', r', v', n'⟩)) w := by
  have := eqFields_rz ⟨k, g, r, v, n⟩ ⟨k', g', r', v', n'⟩ w
  rw [run_eql_struct, this]
  rfl
theorem rz_guard (op : BinOp) (x y : Operand) (xs ys : Array Value) (w : World) : (eqGuard op 29 x y (.agg xs) (.agg ys)).run Try.prog w = .ok () w :=
  run_eqGuard_agg w op _ x y xs ys (by kernel_rfl)

set_option maxHeartbeats 2000000 in
set_option maxRecDepth 100000 in
theorem op15_any (k : Int) (r c v : List UInt8) (w : World) : Calls Try.prog 16 #[.int .i64 k, .string (bstr r), .string (bstr c), .string (bstr v)] w fun e w' => e = .returned (oqV ⟨k, r, c, v, false, []⟩) ∧ Below w.heap.size w w' := by
  have x1 := heap_alloc_new w (.cells (oqC ⟨k, r, c, v, false, []⟩) 32)
  have hb : Below w.heap.size w (w.alloc (.cells (oqC ⟨k, r, c, v, false, []⟩) 32)) := (Below.refl _ _).alloc (Nat.le_refl _) _
  obtain ⟨q0, q1, q2, q3, q4, q5⟩ := OqB.facts (o := ⟨k, r, c, v, false, []⟩) x1
  have HX : Hid _ := And.intro q0 (And.intro q1 (And.intro q2 (And.intro q3 (And.intro q4 q5))))
  have HB : Hid _ := hb
  clear x1 q0 q1 q2 q3 q4 q5 hb
  go_enter Try.func16, Try.ntmps16
  go_wp2
  rw [show #[.int .i64 k, .string (bstr r), .string (bstr c), .string (bstr v), .bool false, .string ⟨#[]⟩] = oqC ⟨k, r, c, v, false, []⟩ from rfl]
  obtain ⟨q0, q1, q2, q3, q4, q5⟩ := HX.out
  exact bodyPost_ret (v := oqV ⟨k, r, c, v, false, []⟩) (by rw [yres1 Try.results16]; simp [go_sem, q0, q1, q2, q3, q4, q5]) rfl ⟨rfl, HB.out⟩

abbrev wkO1 : Oq := ⟨1, [114], [120], [118], false, []⟩
abbrev wkO2 : Oq := ⟨2, [114], [120], [], false, []⟩
abbrev wkO3 : Oq := ⟨3, [114], [120], [], false, []⟩
def wkF0 : Mf := fun _ _ => none
def wkF1 : Mf := doF wkF0 wkO1
def wkF2 : Mf := doF wkF1 wkO2
def wkF3 : Mf := doF wkF2 wkO3
theorem wk_r1 : doR wkF0 wkO1 = ⟨0, false, [], [], 1⟩ := by kernel_rfl
theorem wk_r2 : doR wkF1 wkO2 = ⟨0, true, [], [118], 1⟩ := by kernel_rfl
theorem wk_r3 : doR wkF2 wkO3 = ⟨0, true, [], [], 2⟩ := by kernel_rfl
theorem wk_r4 : doR wkF3 wkO2 = rz0 := by kernel_rfl
theorem wk_i0 : FInv wkF0 := FInv.none
theorem wk_i1 : FInv wkF1 := wk_i0.do (by decide) (by decide) (by decide)
theorem wk_i2 : FInv wkF2 := wk_i1.do (by decide) (by decide) (by decide)
theorem wk_i3 : FInv wkF3 := wk_i2.do (by decide) (by decide) (by decide)
theorem Do_lit (g m n : Nat) (F : Mf) (k : Int) (v : List UInt8) (r : Rz) (hr : doR F ⟨k, [114], [120], v, false, []⟩ = r) (hI : FInv F) (hk : ¬ k = 5) (hn : n < 100) (hgm : g ≠ m) (w : World) (h : Md w g m n F) :
    Calls Try.prog 10 #[.pointer (some ⟨g, 0, none⟩), oqV ⟨k, [114], [120], v, false, []⟩] w fun e w' => e = .returned (rzV r) ∧ Md w' g m (n + 2) (doF F ⟨k, [114], [120], v, false, []⟩) ∧ Kp w w' (fun i => i = m) := by
  have := YDo_any g m n F ⟨k, [114], [120], v, false, []⟩ w h hgm hI (by omega) hk (show 1 ≤ bigL by decide) (show 1 ≤ bigL by decide)
  rw [show effR ⟨k, [114], [120], v, false, []⟩ (touL F ⟨k, [114], [120], v, false, []⟩) = r from hr] at this
  exact this

set_option maxHeartbeats 8000000 in
set_option maxRecDepth 100000 in
theorem works15_any (w : World) : Calls Try.prog 14 #[] w fun e w' => e = .returned (.bool true) ∧ Below w.heap.size w w' := by
  have hq := rz_eql
  have hg := rz_guard
  go_enter Try.func14, Try.ntmps14
  go_wp2_with fail
  refine (YNew_any w).mono ?_
  rintro e w0 ⟨rfl, hM0, hb0⟩
  have hM0 : Md w0 (w.heap.size + 1) w.heap.size 0 wkF0 := hM0
  go_wp2_with fail
  refine (op15_any 1 [114] [120] [118] w0).mono ?_
  rintro e x1 ⟨rfl, hx1⟩
  have hMx1 := hM0.below hx1 hM0.lt.1 hM0.lt.2
  have hbx1 := below2 hb0 hx1
  go_wp2_with fail
  refine (Do_lit (w.heap.size + 1) w.heap.size 0 wkF0 1 [118] ⟨0, false, [], [], 1⟩ wk_r1 wk_i0 (by decide) (by decide) (by omega) x1 hMx1).mono ?_
  rintro e y1 ⟨rfl, hMy1, hky1⟩
  have hby1 := bel_kp hbx1 hky1 (fun i h => by omega)
  obtain ⟨w1, hw1⟩ : ∃ w1, w1 = y1.alloc (.cells #[.int .i64 0, .bool false, .string (bstr []), .string (bstr []), .int .u64 1] 29) := ⟨_, rfl⟩
  have hz1 : Below y1.heap.size y1 w1 := by rw [hw1]; exact (Below.refl _ _).alloc (Nat.le_refl _) _
  have hM1 := hMy1.below hz1 hMy1.lt.1 hMy1.lt.2
  have hb1 := below2 hby1 hz1
  have k1_1 : RzB w1 y1.heap.size ⟨0, false, [], [], 1⟩ := by rw [hw1]; exact heap_alloc_new y1 _
  have l1 : w.heap.size < y1.heap.size := hMy1.lt.2
  have HW1 : Hid _ := hw1
  clear hw1
  go_upto_region 5 with fail
  rw [← HW1.out]
  clear HW1 hM0 hMx1 hMy1 hx1 hbx1 hky1 hby1 hz1 hb0
  go_wp2_with fail
  refine (op15_any 2 [114] [120] [] w1).mono ?_
  rintro e x2 ⟨rfl, hx2⟩
  have hMx2 := hM1.below hx2 hM1.lt.1 hM1.lt.2
  have hbx2 := below2 hb1 hx2
  have k1x2 := k1_1.below hx2 k1_1.lt
  go_wp2_with fail
  refine (Do_lit (w.heap.size + 1) w.heap.size 2 wkF1 2 [] ⟨0, true, [], [118], 1⟩ wk_r2 wk_i1 (by decide) (by decide) (by omega) x2 hMx2).mono ?_
  rintro e y2 ⟨rfl, hMy2, hky2⟩
  have hby2 := bel_kp hbx2 hky2 (fun i h => by omega)
  have k1y2 := k1x2.kept hky2 (by omega)
  obtain ⟨w2, hw2⟩ : ∃ w2, w2 = y2.alloc (.cells #[.int .i64 0, .bool true, .string (bstr []), .string (bstr [118]), .int .u64 1] 29) := ⟨_, rfl⟩
  have hz2 : Below y2.heap.size y2 w2 := by rw [hw2]; exact (Below.refl _ _).alloc (Nat.le_refl _) _
  have hM2 := hMy2.below hz2 hMy2.lt.1 hMy2.lt.2
  have hb2 := below2 hby2 hz2
  have k2_2 : RzB w2 y2.heap.size ⟨0, true, [], [118], 1⟩ := by rw [hw2]; exact heap_alloc_new y2 _
  have l2 : w.heap.size < y2.heap.size := hMy2.lt.2
  have k1_2 := k1y2.below hz2 k1y2.lt
  have HW2 : Hid _ := hw2
  clear hw2
  go_upto_region 6 with fail
  rw [← HW2.out]
  clear HW2 hM1 hMx2 hMy2 hx2 hbx2 hky2 hby2 hz2 hb1
  clear k1_1 k1x2 k1y2
  go_wp2_with fail
  refine (op15_any 3 [114] [120] [] w2).mono ?_
  rintro e x3 ⟨rfl, hx3⟩
  have hMx3 := hM2.below hx3 hM2.lt.1 hM2.lt.2
  have hbx3 := below2 hb2 hx3
  have k1x3 := k1_2.below hx3 k1_2.lt
  have k2x3 := k2_2.below hx3 k2_2.lt
  go_wp2_with fail
  refine (Do_lit (w.heap.size + 1) w.heap.size 4 wkF2 3 [] ⟨0, true, [], [], 2⟩ wk_r3 wk_i2 (by decide) (by decide) (by omega) x3 hMx3).mono ?_
  rintro e y3 ⟨rfl, hMy3, hky3⟩
  have hby3 := bel_kp hbx3 hky3 (fun i h => by omega)
  have k1y3 := k1x3.kept hky3 (by omega)
  have k2y3 := k2x3.kept hky3 (by omega)
  obtain ⟨w3, hw3⟩ : ∃ w3, w3 = y3.alloc (.cells #[.int .i64 0, .bool true, .string (bstr []), .string (bstr []), .int .u64 2] 29) := ⟨_, rfl⟩
  have hz3 : Below y3.heap.size y3 w3 := by rw [hw3]; exact (Below.refl _ _).alloc (Nat.le_refl _) _
  have hM3 := hMy3.below hz3 hMy3.lt.1 hMy3.lt.2
  have hb3 := below2 hby3 hz3
  have k3_3 : RzB w3 y3.heap.size ⟨0, true, [], [], 2⟩ := by rw [hw3]; exact heap_alloc_new y3 _
  have l3 : w.heap.size < y3.heap.size := hMy3.lt.2
  have k1_3 := k1y3.below hz3 k1y3.lt
  have k2_3 := k2y3.below hz3 k2y3.lt
  have HW3 : Hid _ := hw3
  clear hw3
  go_upto_region 7 with fail
  rw [← HW3.out]
  clear HW3 hM2 hMx3 hMy3 hx3 hbx3 hky3 hby3 hz3 hb2
  clear k1_2 k1x3 k1y3 k2_2 k2x3 k2y3
  go_wp2_with fail
  refine (op15_any 2 [114] [120] [] w3).mono ?_
  rintro e x4 ⟨rfl, hx4⟩
  have hMx4 := hM3.below hx4 hM3.lt.1 hM3.lt.2
  have hbx4 := below2 hb3 hx4
  have k1x4 := k1_3.below hx4 k1_3.lt
  have k2x4 := k2_3.below hx4 k2_3.lt
  have k3x4 := k3_3.below hx4 k3_3.lt
  go_wp2_with fail
  refine (Do_lit (w.heap.size + 1) w.heap.size 6 wkF3 2 [] rz0 wk_r4 wk_i3 (by decide) (by decide) (by omega) x4 hMx4).mono ?_
  rintro e y4 ⟨rfl, hMy4, hky4⟩
  have hby4 := bel_kp hbx4 hky4 (fun i h => by omega)
  have k1y4 := k1x4.kept hky4 (by omega)
  have k2y4 := k2x4.kept hky4 (by omega)
  have k3y4 := k3x4.kept hky4 (by omega)
  obtain ⟨w4, hw4⟩ : ∃ w4, w4 = y4.alloc (.cells #[.int .i64 0, .bool false, .string (bstr []), .string (bstr []), .int .u64 0] 29) := ⟨_, rfl⟩
  have hz4 : Below y4.heap.size y4 w4 := by rw [hw4]; exact (Below.refl _ _).alloc (Nat.le_refl _) _
  have hM4 := hMy4.below hz4 hMy4.lt.1 hMy4.lt.2
  have hb4 := below2 hby4 hz4
  have k4_4 : RzB w4 y4.heap.size rz0 := by rw [hw4]; exact heap_alloc_new y4 _
  have l4 : w.heap.size < y4.heap.size := hMy4.lt.2
  have k1_4 := k1y4.below hz4 k1y4.lt
  have k2_4 := k2y4.below hz4 k2y4.lt
  have k3_4 := k3y4.below hz4 k3y4.lt
  have HW4 : Hid _ := hw4
  clear hw4
  go_upto_region 8 with fail
  rw [← HW4.out]
  clear HW4 hM3 hMx4 hMy4 hx4 hbx4 hky4 hby4 hz4 hb3
  clear k1_3 k1x4 k1y4 k2_3 k2x4 k2y4 k3_3 k3x4 k3y4
  obtain ⟨a1, b1, c1, d1, e1⟩ := k1_4.facts
  obtain ⟨a2, b2, c2, d2, e2⟩ := k2_4.facts
  obtain ⟨a3, b3, c3, d3, e3⟩ := k3_4.facts
  obtain ⟨a4, b4, c4, d4, e4⟩ := k4_4.facts
  go_wp2
  go_ret
  exact ⟨rfl, hb4⟩

end Go.Proofs.Ytlkikfkchgmmhaa
