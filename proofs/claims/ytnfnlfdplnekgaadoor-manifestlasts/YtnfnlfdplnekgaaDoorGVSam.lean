/-
  Decode: of a state's frame the state; of what is cut or lengthened ErrForm.
  same: two states that are alike.
-/
import Derived.Test.YtnfnlfdplnekgaaDoorGVTk
import Derived.Test.YtnfnlfdplnekgaaDoorGVTak
import Derived.Test.YtnfnlfdplnekgaaDoorGQFst
import Derived.BigQuiet
namespace Go.Proofs.YtnfnlfdplnekgaaDoor
open Go.RowKit Go.BigFrame Go.Sort
attribute [local go_sem] size_bstr toList_bstr ls_def

set_option maxHeartbeats 4000000 in
set_option maxRecDepth 100000 in
theorem Decode_ok (next log : Nat) (lv : List (List Fi)) (w : World) (hS : OkS next log lv) (hT : Tabs w) :
    Calls Tryd.prog 20 #[.string (bstr (frm (stB next log lv)))] w fun e w' => ∃ v vs, e = .returned (.tuple #[.agg #[.int .u64 (next : Int), .int .u64 (log : Int), v], .int .i64 0]) ∧ LArg w' v vs lv ∧ Below w.heap.size w w' := by
  have hst := stB_len hS
  have hfl := frm_length (stB next log lv)
  obtain ⟨w0, hw0⟩ : ∃ w0, w0 = w.alloc (.cells #[.int .u64 0, .int .u64 0, .slice none 0 0] 28) := ⟨_, rfl⟩
  have hb0 : Below w.heap.size w w0 := by rw [hw0]; exact (Below.refl _ _).alloc (Nat.le_refl _) _
  have y0 : w0.heap[w.heap.size]? = some (.cells #[.int .u64 0, .int .u64 0, .slice none 0 0] 28 (0, 0)) := by rw [hw0]; exact heap_alloc_new w _
  have hop := Open_some (frm (stB next log lv)) (stB next log lv) w0 (by omega) (Tabs.below (w := w) hT hb0) (by have := opn_frm (b := stB next log lv) (by omega) []; rwa [List.append_nil] at this)
  have HW0 : Hid _ := hw0
  clear hw0
  go_enter Tryd.func20, Tryd.ntmps20
  go_wp2_with fail
  rw [← HW0.out]
  refine hop.mono ?_
  rintro e w1 ⟨rfl, hb1⟩
  have HS : Hid _ := hS
  have hszz : ¬ ((8 + ((stB next log lv).length : Int)) < ((frm (stB next log lv)).length : Int)) := by omega
  generalize hfB : frm (stB next log lv) = fB at *
  generalize hsB : stB next log lv = sB at *
  have y1 := (hb1.block _ (blk_lt y0)).trans y0
  have hb01 := below2 hb0 hb1
  have HSB : Hid _ := hsB
  clear hop hb1 y0 hfB hsB hS hb0
  go_wp2_with fail
  refine (New_any (bstr sB) w1).mono ?_
  rintro e w2 ⟨rfl, hR2, hb2⟩
  rw [← HSB.out] at hR2
  have htk := take_ok w1.heap.size next log lv w2 hR2 HS.out
  have y2 := (hb2.block _ (blk_lt y1)).trans y1
  have hb02 := below2 hb01 hb2
  have z1 := blk_lt y1
  clear hR2
  go_wp2_with fail
  refine htk.mono ?_
  rintro e w3 ⟨v, vs, rfl, hLW, hg3⟩
  have hL3 := hLW w3 (fun i _ _ => rfl)
  have hs3 := hg3.size
  have hs2 := blk_lt y2
  have y3 := (hg3.block _ (blk_lt y2) (fun e => by have := Option.some.inj e; omega)).trans y2
  have hb03 : Below w.heap.size w w3 := hb02.grown hg3 hb02.size (fun k hk => by cases hk; omega)
  obtain ⟨q, cap, rfl, hc, _⟩ := id hL3.sl
  have hb4 : Below w3.heap.size w3 (w3.alloc (.cells #[.int .u64 (next : Int), .int .u64 (log : Int), .slice q lv.length cap] 28)) := (Below.refl _ _).alloc (Nat.le_refl _) _
  have x4 := heap_alloc_new w3 (.cells #[.int .u64 (next : Int), .int .u64 (log : Int), .slice q lv.length cap] 28)
  have hck := Check_ok (.slice q lv.length cap) vs next log lv (w3.alloc (.cells #[.int .u64 (next : Int), .int .u64 (log : Int), .slice q lv.length cap] 28)) (hL3.below hb4) HS.out
  have y4 := (hb4.block _ (blk_lt y3)).trans y3
  have hL4 := hL3.below hb4
  have HB34 : Hid (w3.heap.size ≤ (w3.alloc (.cells #[.int .u64 (next : Int), .int .u64 (log : Int), .slice q lv.length cap] 28)).heap.size ∧ ∀ i, i < w3.heap.size → (w3.alloc (.cells #[.int .u64 (next : Int), .int .u64 (log : Int), .slice q lv.length cap] 28)).heap[i]? = w3.heap[i]?) := ⟨hb4.size, fun i hi => hb4.block i hi⟩
  have hb04 := below2 hb03 hb4
  clear htk hb01 hb02 hb03 hb2 hg3 y1 y2 y3 hL3 hb4
  go_wp2_with fail
  generalize w3.alloc (.cells #[.int .u64 (next : Int), .int .u64 (log : Int), .slice q lv.length cap] 28) = w4 at *
  refine hck.mono ?_
  rintro e w5 ⟨rfl, hb5⟩
  have y5 := (hb5.block _ (blk_lt y4)).trans y4
  have x5 := (hb5.block _ (blk_lt x4)).trans x4
  have hL5 := hL4.below hb5
  have hb05 := below2 hb04 hb5
  have HK5 : Hid (∀ i, i < w3.heap.size → w5.heap[i]? = w3.heap[i]?) := fun i hi => (hb5.block i (Nat.lt_of_lt_of_le hi HB34.out.1)).trans (HB34.out.2 i hi)
  have HLW : Hid _ := hLW
  clear hck y4 x4 hL4 hb04 hb5 hLW
  obtain ⟨p0, p1, p2⟩ : w5.cell? ⟨w3.heap.size, 0, none⟩ = some (.int .u64 (next : Int)) ∧ w5.cell? ⟨w3.heap.size, 1, none⟩ = some (.int .u64 (log : Int)) ∧ w5.cell? ⟨w3.heap.size, 2, none⟩ = some (.slice q lv.length cap) := ⟨(vcb x5).1 0, (vcb x5).1 1, (vcb x5).1 2⟩
  obtain ⟨q0, q1, q2⟩ : w5.cell? ⟨w.heap.size, 0, none⟩ = some (.int .u64 0) ∧ w5.cell? ⟨w.heap.size, 1, none⟩ = some (.int .u64 0) ∧ w5.cell? ⟨w.heap.size, 2, none⟩ = some (.slice none 0 0) := ⟨(vcb y5).1 0, (vcb y5).1 1, (vcb y5).1 2⟩
  obtain ⟨f0, f1, f2⟩ : w5.frozen? ⟨w.heap.size, 0, none⟩ = false ∧ w5.frozen? ⟨w.heap.size, 1, none⟩ = false ∧ w5.frozen? ⟨w.heap.size, 2, none⟩ = false := ⟨(vcb y5).2 0, (vcb y5).2 1, (vcb y5).2 2⟩
  have h1 := heap_set_same y5 (o := 0) (.int .u64 (next : Int))
  have h2 := heap_set_same h1 (o := 1) (.int .u64 (log : Int))
  have h3 := heap_set_same h2 (o := 2) (.slice q lv.length cap)
  have hbf : Below w.heap.size w (((w5.setCell ⟨w.heap.size, 0, none⟩ (.int .u64 (next : Int))).setCell ⟨w.heap.size, 1, none⟩ (.int .u64 (log : Int))).setCell ⟨w.heap.size, 2, none⟩ (.slice q lv.length cap)) := below_setv (below_setv (below_setv hb05 (Nat.le_refl _) _) (Nat.le_refl _) _) (Nat.le_refl _) _
  have hLf : LArg (((w5.setCell ⟨w.heap.size, 0, none⟩ (.int .u64 (next : Int))).setCell ⟨w.heap.size, 1, none⟩ (.int .u64 (log : Int))).setCell ⟨w.heap.size, 2, none⟩ (.slice q lv.length cap)) (.slice q lv.length cap) vs lv := HLW.out _ (fun i h1 h2 => (heap_set_other _ (by omega)).trans ((heap_set_other _ (by omega)).trans ((heap_set_other _ (by omega)).trans (HK5.out i h2))))
  have r0 : (((w5.setCell ⟨w.heap.size, 0, none⟩ (.int .u64 (next : Int))).setCell ⟨w.heap.size, 1, none⟩ (.int .u64 (log : Int))).setCell ⟨w.heap.size, 2, none⟩ (.slice q lv.length cap)).cell? ⟨w.heap.size, 0, none⟩ = some (.int .u64 (next : Int)) := (vcb h3).1 0
  have r1 : (((w5.setCell ⟨w.heap.size, 0, none⟩ (.int .u64 (next : Int))).setCell ⟨w.heap.size, 1, none⟩ (.int .u64 (log : Int))).setCell ⟨w.heap.size, 2, none⟩ (.slice q lv.length cap)).cell? ⟨w.heap.size, 1, none⟩ = some (.int .u64 (log : Int)) := (vcb h3).1 1
  have r2 : (((w5.setCell ⟨w.heap.size, 0, none⟩ (.int .u64 (next : Int))).setCell ⟨w.heap.size, 1, none⟩ (.int .u64 (log : Int))).setCell ⟨w.heap.size, 2, none⟩ (.slice q lv.length cap)).cell? ⟨w.heap.size, 2, none⟩ = some (.slice q lv.length cap) := (vcb h3).1 2
  have HR0 : Hid _ := r0
  have HR1 : Hid _ := r1
  have HR2 : Hid _ := r2
  have HLF : Hid _ := hLf
  have HBF : Hid _ := hbf
  clear r0 r1 r2 hLf hbf h1 h2 h3 y5 x5 hL5 hb05
  go_wp2
  have r0 := HR0.out
  have r1 := HR1.out
  have r2 := HR2.out
  generalize (((w5.setCell ⟨w.heap.size, 0, none⟩ (.int .u64 (next : Int))).setCell ⟨w.heap.size, 1, none⟩ (.int .u64 (log : Int))).setCell ⟨w.heap.size, 2, none⟩ (.slice q lv.length cap)) = W9 at *
  exact bodyPost_ret (v := .tuple #[.agg #[.int .u64 (next : Int), .int .u64 (log : Int), .slice q lv.length cap], .int .i64 0]) (by rw [vres2 Tryd.results20]; simp [go_sem, r0, r1, r2]) rfl ⟨_, _, rfl, HLF.out, HBF.out⟩

set_option maxHeartbeats 4000000 in
set_option maxRecDepth 100000 in
/-- Of what is no frame, or has something behind its frame: ErrForm. -/
theorem Decode_bad (s : List UInt8) (w : World) (hl : s.length ≤ 10000000) (hT : Tabs w) (hs : opn s = none ∨ ∃ b, opn s = some b ∧ b.length + 8 < s.length) :
    Calls Tryd.prog 20 #[.string (bstr s)] w fun e w' => e = .returned (.tuple #[.agg #[.int .u64 0, .int .u64 0, .slice none 0 0], .int .i64 4]) ∧ Below w.heap.size w w' := by
  obtain ⟨w0, hw0⟩ : ∃ w0, w0 = w.alloc (.cells #[.int .u64 0, .int .u64 0, .slice none 0 0] 28) := ⟨_, rfl⟩
  have hb0 : Below w.heap.size w w0 := by rw [hw0]; exact (Below.refl _ _).alloc (Nat.le_refl _) _
  have y0 : w0.heap[w.heap.size]? = some (.cells #[.int .u64 0, .int .u64 0, .slice none 0 0] 28 (0, 0)) := by rw [hw0]; exact heap_alloc_new w _
  obtain ⟨b, n, e4, hop, hbad⟩ : ∃ (b : List UInt8) (n e4 : Int), Calls Tryd.prog 35 #[.string (bstr s)] w0 (fun e w' => e = .returned (.tuple #[.string (bstr b), .int .i64 n, .int .i64 e4]) ∧ Below w0.heap.size w0 w') ∧ (e4 = 4 ∨ e4 = 0 ∧ n < (s.length : Int)) := by
    rcases hs with h | ⟨b, h, hb⟩
    · exact ⟨[], 0, 4, Open_none s w0 (by omega) (Tabs.below (w := w) hT hb0) h, .inl rfl⟩
    · exact ⟨b, 8 + (b.length : Int), 0, Open_some s b w0 (by omega) (Tabs.below (w := w) hT hb0) h, .inr ⟨rfl, by omega⟩⟩
  have HW0 : Hid _ := hw0
  clear hw0 hs
  go_enter Tryd.func20, Tryd.ntmps20
  go_wp2_with fail
  rw [← HW0.out]
  refine hop.mono ?_
  rintro e w1 ⟨rfl, hb1⟩
  have y1 := (hb1.block _ (blk_lt y0)).trans y0
  have hb01 := below2 hb0 hb1
  clear hop HW0 hb1 y0 hb0
  obtain ⟨q0, q1, q2⟩ : w1.cell? ⟨w.heap.size, 0, none⟩ = some (.int .u64 0) ∧ w1.cell? ⟨w.heap.size, 1, none⟩ = some (.int .u64 0) ∧ w1.cell? ⟨w.heap.size, 2, none⟩ = some (.slice none 0 0) := ⟨(vcb y1).1 0, (vcb y1).1 1, (vcb y1).1 2⟩
  obtain ⟨f0, f1, f2⟩ : w1.frozen? ⟨w.heap.size, 0, none⟩ = false ∧ w1.frozen? ⟨w.heap.size, 1, none⟩ = false ∧ w1.frozen? ⟨w.heap.size, 2, none⟩ = false := ⟨(vcb y1).2 0, (vcb y1).2 1, (vcb y1).2 2⟩
  have h1 := heap_set_same y1 (o := 0) (.int .u64 0)
  have h2 := heap_set_same h1 (o := 1) (.int .u64 0)
  have h3 := heap_set_same h2 (o := 2) (.slice none 0 0)
  have hbf : Below w.heap.size w (((w1.setCell ⟨w.heap.size, 0, none⟩ (.int .u64 0)).setCell ⟨w.heap.size, 1, none⟩ (.int .u64 0)).setCell ⟨w.heap.size, 2, none⟩ (.slice none 0 0)) := below_setv (below_setv (below_setv hb01 (Nat.le_refl _) _) (Nat.le_refl _) _) (Nat.le_refl _) _
  have r0 : (((w1.setCell ⟨w.heap.size, 0, none⟩ (.int .u64 0)).setCell ⟨w.heap.size, 1, none⟩ (.int .u64 0)).setCell ⟨w.heap.size, 2, none⟩ (.slice none 0 0)).cell? ⟨w.heap.size, 0, none⟩ = some (.int .u64 0) := (vcb h3).1 0
  have r1 : (((w1.setCell ⟨w.heap.size, 0, none⟩ (.int .u64 0)).setCell ⟨w.heap.size, 1, none⟩ (.int .u64 0)).setCell ⟨w.heap.size, 2, none⟩ (.slice none 0 0)).cell? ⟨w.heap.size, 1, none⟩ = some (.int .u64 0) := (vcb h3).1 1
  have r2 : (((w1.setCell ⟨w.heap.size, 0, none⟩ (.int .u64 0)).setCell ⟨w.heap.size, 1, none⟩ (.int .u64 0)).setCell ⟨w.heap.size, 2, none⟩ (.slice none 0 0)).cell? ⟨w.heap.size, 2, none⟩ = some (.slice none 0 0) := (vcb h3).1 2
  have HR0 : Hid _ := r0
  have HR1 : Hid _ := r1
  have HR2 : Hid _ := r2
  have HBF : Hid _ := hbf
  clear r0 r1 r2 hbf h1 h2 h3 y1 hb01
  rcases hbad with rfl | ⟨rfl, hlt⟩
  · go_wp2
    have r0 := HR0.out
    have r1 := HR1.out
    have r2 := HR2.out
    generalize (((w1.setCell ⟨w.heap.size, 0, none⟩ (.int .u64 0)).setCell ⟨w.heap.size, 1, none⟩ (.int .u64 0)).setCell ⟨w.heap.size, 2, none⟩ (.slice none 0 0)) = W9 at *
    exact bodyPost_ret (v := .tuple #[.agg #[.int .u64 0, .int .u64 0, .slice none 0 0], .int .i64 4]) (by rw [vres2 Tryd.results20]; simp [go_sem, r0, r1, r2]) rfl ⟨rfl, HBF.out⟩
  · go_wp2
    have r0 := HR0.out
    have r1 := HR1.out
    have r2 := HR2.out
    generalize (((w1.setCell ⟨w.heap.size, 0, none⟩ (.int .u64 0)).setCell ⟨w.heap.size, 1, none⟩ (.int .u64 0)).setCell ⟨w.heap.size, 2, none⟩ (.slice none 0 0)) = W9 at *
    exact bodyPost_ret (v := .tuple #[.agg #[.int .u64 0, .int .u64 0, .slice none 0 0], .int .i64 4]) (by rw [vres2 Tryd.results20]; simp [go_sem, r0, r1, r2]) rfl ⟨rfl, HBF.out⟩

end Go.Proofs.YtnfnlfdplnekgaaDoor

namespace Go.Proofs.YtnfnlfdplnekgaaDoor
open Go.RowKit Go.BigFrame Go.Sort
attribute [local go_sem] size_bstr toList_bstr ls_def

theorem below_drewv (W : World) (n : Nat) : Below W.heap.size W (W.drewN n) := by
  induction n with
  | zero => exact Below.refl _ _
  | succ n ih => exact ⟨ih.os, ih.tape, ih.output, ih.size, ih.block⟩
theorem file_eql4 (i j : Nat) (l l' h h' : List UInt8) (n n' : Int) (w : World) : (binOp .eql 48 (.agg #[.int .u64 (i : Int), .string (bstr l), .string (bstr h), .int .i64 n]) (.agg #[.int .u64 (j : Int), .string (bstr l'), .string (bstr h'), .int .i64 n'])).run Tryd.prog w = .ok (.bool (eqF ⟨i, l, h, n⟩ ⟨j, l', h', n'⟩)) w := file_eql ⟨i, l, h, n⟩ ⟨j, l', h', n'⟩ w
theorem file_neq4 (i j : Nat) (l l' h h' : List UInt8) (n n' : Int) (w : World) : (binOp .neq 48 (.agg #[.int .u64 (i : Int), .string (bstr l), .string (bstr h), .int .i64 n]) (.agg #[.int .u64 (j : Int), .string (bstr l'), .string (bstr h'), .int .i64 n'])).run Tryd.prog w = .ok (.bool (!eqF ⟨i, l, h, n⟩ ⟨j, l', h', n'⟩)) w := file_neq ⟨i, l, h, n⟩ ⟨j, l', h', n'⟩ w

attribute [local go_sem high] file_eql4 file_neq4 file_guard

set_option maxHeartbeats 4000000 in
set_option maxRecDepth 100000 in
theorem same_ok (va vb : Value) (vsa vsb : List Value) (next log : Nat) (lv : List (List Fi)) (w : World) (hA : LArg w va vsa lv) (hB : LArg w vb vsb lv) (hn : lv.length ≤ 7) (hm : many lv ≤ 1024) :
    Calls Tryd.prog 9 #[.agg #[.int .u64 (next : Int), .int .u64 (log : Int), va], .agg #[.int .u64 (next : Int), .int .u64 (log : Int), vb]] w fun e w' => e = .returned (.bool true) ∧ Below w.heap.size w w' := by
  obtain ⟨qa, capa, rfl, hca, _⟩ := id hA.sl
  obtain ⟨qb, capb, rfl, hcb, _⟩ := id hB.sl
  obtain ⟨W, hW⟩ : ∃ W, W = (w.alloc (.cells #[.int .u64 (next : Int), .int .u64 (log : Int), .slice qa lv.length capa] 28)).alloc (.cells #[.int .u64 (next : Int), .int .u64 (log : Int), .slice qb lv.length capb] 28) := ⟨_, rfl⟩
  have hb0 : Below w.heap.size w W := by rw [hW]; exact ((Below.refl _ _).alloc (Nat.le_refl _) _).alloc (by simp) _
  have x0 : W.heap[w.heap.size]? = some (.cells #[.int .u64 (next : Int), .int .u64 (log : Int), .slice qa lv.length capa] 28 (0, 0)) := by rw [hW]; exact (Below.heap_alloc _ _ _ (by simp)).trans (heap_alloc_new w _)
  have x1 : W.heap[w.heap.size + 1]? = some (.cells #[.int .u64 (next : Int), .int .u64 (log : Int), .slice qb lv.length capb] 28 (0, 0)) := by
    rw [hW]
    have := heap_alloc_new (w.alloc (.cells #[.int .u64 (next : Int), .int .u64 (log : Int), .slice qa lv.length capa] 28)) (.cells #[.int .u64 (next : Int), .int .u64 (log : Int), .slice qb lv.length capb] 28)
    rwa [World.size_alloc] at this
  have HA : Hid _ := hA.below hb0
  have HB : Hid _ := hB.below hb0
  have HW : Hid _ := hW
  have HX0 : Hid _ := x0
  have HX1 : Hid _ := x1
  have HB0 : Hid _ := hb0
  have hS : ∀ wr, Below W.heap.size W wr → (wr.cell? ⟨w.heap.size, 0, none⟩ = some (.int .u64 (next : Int)) ∧ wr.cell? ⟨w.heap.size, 1, none⟩ = some (.int .u64 (log : Int)) ∧ wr.cell? ⟨w.heap.size, 2, none⟩ = some (.slice qa lv.length capa)) ∧ wr.cell? ⟨w.heap.size + 1, 0, none⟩ = some (.int .u64 (next : Int)) ∧ wr.cell? ⟨w.heap.size + 1, 1, none⟩ = some (.int .u64 (log : Int)) ∧ wr.cell? ⟨w.heap.size + 1, 2, none⟩ = some (.slice qb lv.length capb) := fun wr hb => by
    have h0 := (hb.block _ (blk_lt HX0.out)).trans HX0.out
    have h1 := (hb.block _ (blk_lt HX1.out)).trans HX1.out
    exact ⟨⟨(vcb h0).1 0, (vcb h0).1 1, (vcb h0).1 2⟩, (vcb h1).1 0, (vcb h1).1 1, (vcb h1).1 2⟩
  have HSS : Hid _ := hS
  obtain ⟨⟨c0, c1, c2⟩, d0, d1, d2⟩ := hS W (Below.refl _ _)
  clear hS hA hB hW x0 x1 hb0
  go_enter Tryd.func9, Tryd.ntmps9
  go_wp2_with fail
  rw [← HW.out]
  go_wp2
  go_loopw [5] (fun s5 wr => ∃ i : Nat, s5 = .int .i64 (i : Int) ∧ i ≤ lv.length ∧ Below W.heap.size W wr) (fun s5 _ => lv.length - (intOf s5).toNat)
  case atStart => exact ⟨0, rfl, by omega, Below.refl _ _⟩
  case round =>
    clear c0 c1 c2 d0 d1 d2
    obtain ⟨i, rfl, hil, hbr⟩ := hrel
    obtain ⟨⟨c0, c1, c2⟩, d0, d1, d2⟩ := HSS.out wr hbr
    by_cases hlt : i < lv.length
    · have hiz : (i : Int) < (lv.length : Int) := by omega
      have hml := many_mem (List.getElem_mem hlt)
      obtain ⟨ba, offa, capa', ua, hqa, _, ca, hVa⟩ := (HA.out.below hbr).at_ hlt
      obtain ⟨bb, offb, capb', ub, hqb, _, cb, hVb⟩ := (HB.out.below hbr).at_ hlt
      obtain ⟨rfl, rfl⟩ : qa = some ⟨ba, offa, none⟩ ∧ capa' = capa := by
        injection hqa with h1 h2 h3
        exact ⟨h1, h3.symm⟩
      obtain ⟨rfl, rfl⟩ : qb = some ⟨bb, offb, none⟩ ∧ capb' = capb := by
        injection hqb with h1 h2 h3
        exact ⟨h1, h3.symm⟩
      obtain ⟨q1, cap1, rfl, hc1, _⟩ := id hVa.sl
      obtain ⟨q2, cap2, rfl, hc2, _⟩ := id hVb.sl
      have HVA : Hid _ := hVa
      have HVB : Hid _ := hVb
      clear hVa hVb hqa hqb
      go_wp2_with fail
      go_quiet (fail)
      have hbd := below2 hbr (below_drewv wr nq)
      have HCA : Hid (∀ wx, Below wr.heap.size wr wx → wx.cell? ⟨ba, offa + i, none⟩ = some (.slice q1 lv[i].length cap1)) := fun wx hb => by rw [hb.cell (p := ⟨ba, offa + i, none⟩) (block_lt_of_cell ca)]; exact ca
      have HCB : Hid (∀ wx, Below wr.heap.size wr wx → wx.cell? ⟨bb, offb + i, none⟩ = some (.slice q2 lv[i].length cap2)) := fun wx hb => by rw [hb.cell (p := ⟨bb, offb + i, none⟩) (block_lt_of_cell cb)]; exact cb
      have hbq := below_drewv wr nq
      generalize wr.drewN nq = wd at *
      clear ca cb c0 c1 c2 d0 d1 d2
      go_wp2
      go_loopw [6] (fun s6 wx => ∃ t : Nat, s6 = .int .i64 (t : Int) ∧ t ≤ lv[i].length ∧ Below wr.heap.size wr wx) (fun s6 _ => lv[i].length - (intOf s6).toNat)
      case atStart => exact ⟨0, rfl, by omega, hbq⟩
      case round =>
        clear hbq hbd
        rename World => wx
        obtain ⟨t, rfl, htl, hbx⟩ := hrel
        have hbW := below2 hbr hbx
        obtain ⟨⟨c0, c1, c2⟩, d0, d1, d2⟩ := HSS.out _ hbW
        have ca := HCA.out _ hbx
        have cb := HCB.out _ hbx
        by_cases hlt2 : t < lv[i].length
        · have htz : (t : Int) < (lv[i].length : Int) := by omega
          obtain ⟨q3, cap3, e3, _, hr3⟩ := (HVA.out.below hbx).sl
          obtain ⟨q4, cap4, e4, _, hr4⟩ := (HVB.out.below hbx).sl
          cases e3
          cases e4
          obtain ⟨b3, off3, rfl, _, hR3⟩ := hr3 (by omega)
          obtain ⟨b4, off4, rfl, _, hR4⟩ := hr4 (by omega)
          obtain ⟨a0, a1, a2, a3⟩ := hR3 t hlt2
          obtain ⟨g0, g1, g2, g3⟩ := hR4 t hlt2
          clear hR3 hR4 hr3 hr4
          have heq := eqF_self lv[i][t]
          generalize lv[i][t] = f at *
          obtain ⟨id, low, high, n⟩ := f
          simp only at a0 a1 a2 a3 g0 g1 g2 g3
          generalize lv[i].length = ln at *
          go_wp2_with fail
          go_quiet (fail)
          have hbn := below2 hbx (below_drewv wx nq)
          generalize wx.drewN nq = wy at *
          clear a0 a1 a2 a3 g0 g1 g2 g3 ca cb c0 c1 c2 d0 d1 d2
          go_wp2
          go_roundw
          case rel => exact ⟨t + 1, by go_num, by omega, hbn⟩
          case measure => simp [intOf]; omega
        · have htz : ¬ (t : Int) < (lv[i].length : Int) := by omega
          go_wp2
          go_roundw
          case rel => exact ⟨i + 1, by go_num, by omega, hbW⟩
          case measure => simp [intOf]; omega
    · have hiz : ¬ (i : Int) < (lv.length : Int) := by omega
      go_wp2
      go_ret
      exact ⟨rfl, below2 HB0.out hbr⟩

end Go.Proofs.YtnfnlfdplnekgaaDoor
