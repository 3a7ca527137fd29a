/-
  Where there are few cells, there is room.
  table's From and All.
  The methods of a table that is none.
-/
import Derived.Test.YtmpnofbhbglfpaaGreatDoorGTGetM
namespace Go.Proofs.YtmpnofbhbglfpaaGreatDoor
open Go.RowKit

theorem flat_few {Bs : List (List Cl)} (h : ∀ B ∈ Bs, B ≠ []) : Bs.length ≤ Bs.flatten.length := by
  induction Bs with
  | nil => simp
  | cons B Bs ih =>
    have h1 := ih fun X hX => h X (List.mem_cons_of_mem _ hX)
    have h2 := List.length_pos_iff.2 (h B List.mem_cons_self)
    rw [List.flatten_cons, List.length_append, List.length_cons]
    omega
theorem frs_few {Bs : List (List Cl)} (h : ∀ B ∈ Bs, Good B ∧ B ≠ []) : (frs Bs).length ≤ 32776 * Bs.length := by
  induction Bs with
  | nil => simp [frs, fr_nil]
  | cons B Bs ih =>
    have h1 := ih fun X hX => h X (List.mem_cons_of_mem _ hX)
    have h2 := (h B List.mem_cons_self).1.len
    rw [frs_cons, List.length_append, List.length_cons]
    show (frm (blkB B)).length + _ ≤ _
    rw [frm_length]
    omega
theorem idxF_few {Bs : List (List Cl)} (h : ∀ B ∈ Bs, Good B ∧ B ≠ []) (n : Nat) (hn : n + (frs Bs).length ≤ 4000000000) : (idxF n Bs).length ≤ 98 * Bs.length := by
  induction Bs generalizing n with
  | nil => simp [idxF]
  | cons B Bs ih =>
    have hB := h B List.mem_cons_self
    rw [frs_cons, List.length_append] at hn
    have h1 := ih (fun X hX => h X (List.mem_cons_of_mem _ hX)) (n + (frB B).length) (by omega)
    have hp := okC_len (List.all_eq_true.1 hB.1.ok _ (List.getLast_mem hB.2))
    have hl := lsP_last ([], []) hB.2
    have hg := good_len hB.1
    have u1 := Lib.uvarint_length64 (x := n) (by omega)
    have u2 := Lib.uvarint_length64 (x := (frB B).length) (by omega)
    have u3 := Lib.uvarint_length64 (x := B.length) (by omega)
    have u4 := Lib.uvarint_length64 (x := (B.getLast hB.2).row.length) (by omega)
    have u5 := Lib.uvarint_length64 (x := (B.getLast hB.2).col.length) (by omega)
    rw [idxF, List.length_append, List.length_cons, hl]
    unfold rowI txt
    simp only [List.length_append]
    omega
theorem room_few {Bs : List (List Cl)} (hG : GB Bs) (h : Bs.flatten.length ≤ 10000) : Room Bs := by
  have h1 := flat_few fun B hB => (hG.good B hB).2
  have h2 := frs_few hG.good
  have h3 := idxF_few hG.good 0 (by omega)
  have h4 := Lib.uvarint_length64 (x := Bs.length) (by omega)
  have h5 := nmsF_len ([], []) Bs.flatten
  refine ⟨?_, ?_, by omega⟩
  · unfold idx
    rw [List.length_append]
    omega
  · unfold names
    omega
theorem frs_cells {Bs : List (List Cl)} (h : ∀ B ∈ Bs, Good B) : 6 * Bs.flatten.length ≤ (frs Bs).length := by
  induction Bs with
  | nil => simp
  | cons B Bs ih =>
    have h1 := ih fun X hX => h X (List.mem_cons_of_mem _ hX)
    have h2 := body_many B (h B List.mem_cons_self).ok
    rw [frs_cons, List.length_append, List.flatten_cons, List.length_append]
    show 6 * (_ + _) ≤ (frm (blkB B)).length + _
    rw [frm_length, blkB_len]
    omega
theorem scn_tot (k : Nat) (s : List UInt8) : (fr (scn k s)).length ≤ s.length := by
  induction k generalizing s with
  | zero => simp [scn, fr_nil]
  | succ k ih =>
    cases h : opn s with
    | none => rw [scn_none h, fr_nil]; simp
    | some b =>
      rw [scn_some h, fr_cons, List.length_append, frm_length]
      have h1 := ih (s.drop (8 + b.length))
      have h2 := opn_length h
      rw [List.length_drop] at h1
      omega
theorem opB_few (s : List UInt8) : 6 * (opB s).flatten.length ≤ s.length := by
  have hg := opB_gb s
  have h1 := frs_cells fun B hB => (hg.good B hB).1
  obtain ⟨_, _, r, hr⟩ := rdB_good none (scn (s.take (bEnd s)).length (s.take (bEnd s)))
  have h2 := scn_tot (s.take (bEnd s)).length (s.take (bEnd s))
  have h3 : (frs (opB s)).length ≤ (fr (scn (s.take (bEnd s)).length (s.take (bEnd s)))).length := by
    rw [hr, fr_append, List.length_append]
    show (fr ((opB s).map blkB)).length ≤ (fr ((opB s).map blkB)).length + _
    omega
  have h4 : (s.take (bEnd s)).length ≤ s.length := by rw [List.length_take]; omega
  omega
theorem room_open {s : List UInt8} (h : s.length ≤ 60000) : Room (opB s) := room_few (opB_gb s) (by have := opB_few s; omega)
theorem room_cut {l : List Cl} {m : Int} (h : l.length ≤ 10000) (hc : chkE l m = 0) : Room (cutB l m.toNat) := by
  have h1 := chk_iff.1 hc
  obtain ⟨h2, h3⟩ := cutB_gb (l := l) (m := m.toNat) (by omega) h1.2.1 h1.2.2
  exact room_few h2 (by rw [h3]; exact h)

end Go.Proofs.YtmpnofbhbglfpaaGreatDoor

namespace Go.Proofs.YtmpnofbhbglfpaaGreatDoor
open Go.RowKit
attribute [local go_sem] size_bstr toList_bstr

/-- What From's iterator has captured. -/
structure FrX (w : World) (b pb : Nat) (pt : Option Addr) (row col : List UInt8) : Prop where
  t : w.heap[b]? = some (.cells #[.pointer pt] 30 (0, 0))
  p : w.heap[pb]? = some (.cells #[.string (bstr row), .string (bstr col)] 75 (0, 0))
theorem FrX.below {w w' : World} {b pb : Nat} {pt : Option Addr} {row col : List UInt8} (h : FrX w b pb pt row col) (hb : Below w.heap.size w w') : FrX w' b pb pt row col :=
  ⟨(hb.block _ (blk_lt h.t)).trans h.t, (hb.block _ (blk_lt h.p)).trans h.p⟩

set_option maxHeartbeats 4000000 in
set_option maxRecDepth 100000 in
theorem TFrom_any (pt : Option Addr) (row col : List UInt8) (w : World) (h1 : row.length ≤ 281474976710656) (h2 : col.length ≤ 281474976710656) :
    Calls Tryz.prog 16 #[.pointer pt, .string (bstr row), .string (bstr col)] w fun e w' => ∃ b pb, e = .returned (.func (.func 40) #[] #[.pointer (some ⟨b, 0, none⟩), .pointer (some ⟨pb, 0, none⟩)]) ∧ FrX w' b pb pt row col ∧ w.heap.size ≤ b ∧ w.heap.size ≤ pb ∧ Below w.heap.size w w' := by
  have hmf : ∀ (fn : Fn) (first cap : Array Value) (w : World), (Instr.makeFunc fn first cap).run Tryz.prog w = .ok (.func fn first cap) w := fun _ _ _ _ => rfl
  have hc1 := fun W => CClone_any row W h1
  have hc2 := fun W => CClone_any col W h2
  have hb0 : Below w.heap.size w (w.alloc (.cells #[.pointer pt] 30)) := (Below.refl _ _).alloc (Nat.le_refl _) _
  have hn0 : (w.alloc (.cells #[.pointer pt] 30)).heap[w.heap.size]? = some (.cells #[.pointer pt] 30 (0, 0)) := heap_alloc_new w _
  go_enter Tryz.func16, Tryz.ntmps16
  go_wp2_with fail
  generalize w.alloc (.cells #[.pointer pt] 30) = W0 at *
  refine (hc1 W0).mono ?_
  rintro e W1 ⟨rfl, hb1⟩
  go_wp2_with fail
  refine (hc2 W1).mono ?_
  rintro e W2 ⟨rfl, hb2⟩
  have hB2 := below2 (below2 hb0 hb1) hb2
  have hn2 : W2.heap[w.heap.size]? = some (.cells #[.pointer pt] 30 (0, 0)) := ((below2 hb1 hb2).block _ (blk_lt hn0)).trans hn0
  have hb3 : Below W2.heap.size W2 (W2.alloc (.cells #[.string (bstr row), .string (bstr col)] 75)) := (Below.refl _ _).alloc (Nat.le_refl _) _
  have hn3 := heap_alloc_new W2 (.cells #[.string (bstr row), .string (bstr col)] 75)
  clear hc1 hc2 hb0 hb1 hn0
  go_wp2_with fail
  go_ret
  exact ⟨w.heap.size, W2.heap.size, rfl, ⟨(hb3.block _ (blk_lt hn2)).trans hn2, hn3⟩, Nat.le_refl _, hB2.size, below2 hB2 hb3⟩

set_option maxHeartbeats 4000000 in
set_option maxRecDepth 100000 in
theorem TAll_any (pt : Option Addr) (w : World) :
    Calls Tryz.prog 18 #[.pointer pt] w fun e w' => ∃ b pb, e = .returned (.func (.func 40) #[] #[.pointer (some ⟨b, 0, none⟩), .pointer (some ⟨pb, 0, none⟩)]) ∧ FrX w' b pb pt [] [] ∧ w.heap.size ≤ b ∧ w.heap.size ≤ pb ∧ Below w.heap.size w w' := by
  have hfr := TFrom_any pt [] [] w (by simp) (by simp)
  go_enter Tryz.func18, Tryz.ntmps18
  go_wp2_with fail
  refine hfr.mono ?_
  rintro e W1 ⟨b, pb, rfl, hx⟩
  go_wp2_with fail
  go_ret
  exact ⟨b, pb, rfl, hx⟩

end Go.Proofs.YtmpnofbhbglfpaaGreatDoor

namespace Go.Proofs.YtmpnofbhbglfpaaGreatDoor
open Go.RowKit Go.BigFrame Go.Sort
attribute [local go_sem] size_bstr toList_bstr

set_option maxHeartbeats 4000000 in
theorem TLen_nil (w : World) : Calls Tryz.prog 20 #[.pointer none] w fun e w' => e = .returned (.int .i64 0) ∧ Below w.heap.size w w' := by
  go_enter Tryz.func20, Tryz.ntmps20
  go_wp2
  go_ret
  exact ⟨rfl, by first | exact Below.refl _ _ | exact (Below.refl _ _).drew⟩
set_option maxHeartbeats 4000000 in
theorem TBlocks_nil (w : World) : Calls Tryz.prog 21 #[.pointer none] w fun e w' => e = .returned (.int .i64 0) ∧ Below w.heap.size w w' := by
  go_enter Tryz.func21, Tryz.ntmps21
  go_wp2
  go_ret
  exact ⟨rfl, by first | exact Below.refl _ _ | exact (Below.refl _ _).drew⟩

set_option maxHeartbeats 4000000 in
set_option maxRecDepth 100000 in
theorem Get_nil (row col : List UInt8) (w : World) :
    Calls Tryz.prog 14 #[.pointer none, .string (bstr row), .string (bstr col)] w fun e w' => e = .returned (.tuple #[clV ⟨[], [], 0, false, []⟩, .bool false]) ∧ Below w.heap.size w w' := by
  obtain ⟨W0, hW0⟩ : ∃ W0, W0 = (w.alloc (.cells #[.string ⟨#[]⟩, .string ⟨#[]⟩, .int .u64 0, .bool false, .string ⟨#[]⟩] 39)).alloc (.cells #[.string (bstr row), .string (bstr col)] 75) := ⟨_, rfl⟩
  have hb0 : Below w.heap.size w W0 := by rw [hW0]; exact ((Below.refl _ _).alloc (Nat.le_refl _) _).alloc (by simp) _
  have hw1 : Rz W0 w.heap.size := by rw [hW0]; exact (Below.heap_alloc _ _ _ (by simp)).trans (heap_alloc_new w _)
  have hw2 : W0.heap[w.heap.size + 1]? = some (.cells #[.string (bstr row), .string (bstr col)] 75 (0, 0)) := by
    rw [hW0]
    have := heap_alloc_new (w.alloc (.cells #[.string ⟨#[]⟩, .string ⟨#[]⟩, .int .u64 0, .bool false, .string ⟨#[]⟩] 39)) (.cells #[.string (bstr row), .string (bstr col)] 75)
    simpa using this
  go_enter Tryz.func14, Tryz.ntmps14
  go_wp2_with fail
  rw [← hW0]
  clear hW0
  refine wp_region_quiet_below (by kernel_rfl) (by kernel_rfl) ?_
  repeat (go_big_quiet_step (fail))
  refine wpQuiet_nil ?_
  intro _ hw'
  obtain ⟨⟨dq, osq⟩, hw''⟩ := hw'
  subst hw''
  have hb1 := below_regrown W0 dq osq
  have hz := hw1.step hb1
  have hbw := below2 hb0 hb1
  generalize grow (redrawn W0 dq) osq = W2 at *
  obtain ⟨z0, z1, z2, z3, z4, f0, f1, f2, f3, f4⟩ := hz.facts
  go_wp2
  generalize hW : ((((W2.setCell ⟨w.heap.size, 0, none⟩ _).setCell ⟨w.heap.size, 1, none⟩ _).setCell ⟨w.heap.size, 2, none⟩ _).setCell ⟨w.heap.size, 3, none⟩ _).setCell ⟨w.heap.size, 4, none⟩ _ = W'
  obtain ⟨q0, q1, q2, q3, q4⟩ := set5_reads z0 z1 z2 z3 z4 hW
  refine bodyPost_ret (v := .tuple #[clV ⟨[], [], 0, false, []⟩, .bool false]) (by rw [results_cell_tmp Tryz.results14]; simp [go_sem, q0, q1, q2, q3, q4]; try rfl) rfl ⟨rfl, ?_⟩
  rw [← hW]
  exact below_set5 _ _ _ _ _ hbw (Nat.le_refl _)

set_option maxHeartbeats 4000000 in
set_option maxRecDepth 100000 in
theorem from1_nil (b pb lr : Nat) (row col : List UInt8) (w : World) (hX : FrX w b pb none row col) :
    Calls Tryz.prog 40 #[.func (.yield lr) #[] #[], .pointer (some ⟨b, 0, none⟩), .pointer (some ⟨pb, 0, none⟩)] w fun e w' => (∃ u, e = .returned u) ∧ Below w.heap.size w w' := by
  have hb0 : Below w.heap.size w (w.alloc (.cells #[.func (.yield lr) #[] #[]] 85)) := (Below.refl _ _).alloc (Nat.le_refl _) _
  have c0 : (w.alloc (.cells #[.func (.yield lr) #[] #[]] 85)).cell? ⟨b, 0, none⟩ = some (.pointer none) := (Bl.cells_block (hX.below hb0).t).1 0
  refine calls_marks Tryz.func40 rfl ?_
  simp only [Tryz.ntmps40, List.size_toArray, List.length_cons, List.length_nil, Nat.reduceAdd, Nat.reduceSub, Array.replicate_succ, Array.replicate_zero, List.push_toArray, List.append_toArray, List.nil_append, List.cons_append]
  gi_wp2_with fail
  exact ⟨_, results_none rfl _ _ _, ⟨_, rfl⟩, hb0⟩

end Go.Proofs.YtmpnofbhbglfpaaGreatDoor
