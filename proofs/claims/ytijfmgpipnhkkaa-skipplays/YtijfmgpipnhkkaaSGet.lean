/-
  The law's same and at; Len and Get.
-/
import Derived.Test.YtijfmgpipnhkkaaSLst2
import Derived.Test.YtijfmgpipnhkkaaCW0
namespace Go.Proofs.Ytijfmgpipnhkkaa
open Go.RowKit Go.BigFrame Go.Sort
attribute [local go_sem] size_bstr toList_bstr ls_def
attribute [local go_sem high] cell_eql5 cell_neq5 cell_guard

set_option maxHeartbeats 2000000 in
set_option maxRecDepth 100000 in
theorem same8_any (q q' : Option Addr) (b off cap b' off' cap' : Nat) (cs : List Cl) (w : World) (hq : 0 < cs.length → q = some ⟨b, off, none⟩ ∧ CRow w b off cs) (hq' : 0 < cs.length → q' = some ⟨b', off', none⟩ ∧ CRow w b' off' cs) (hn : cs.length ≤ 4611686018427387904) :
    Calls Try.prog 28 #[.slice q cs.length cap, .slice q' cs.length cap'] w fun e w' => e = .returned (.bool true) ∧ RowKit.Below w.heap.size w w' := by
  go_enter Try.func28, Try.ntmps28
  go_wp2
  go_loopw [5] (fun s5 wr => ∃ i : Nat, s5 = .int .i64 (i : Int) ∧ i ≤ cs.length ∧ RowKit.Below w.heap.size w wr) (fun s5 _ => cs.length - (intOf s5).toNat)
  case atStart => exact ⟨0, rfl, by omega, RowKit.Below.refl _ _⟩
  case round =>
    obtain ⟨i, rfl, hil, hbel⟩ := hrel
    by_cases hlt : i < cs.length
    · obtain ⟨rfl, hR⟩ := hq (by omega)
      obtain ⟨rfl, hR'⟩ := hq' (by omega)
      obtain ⟨c0, c1, c2, c3, c4⟩ := (hR i hlt).step hbel (hR i hlt).lt
      obtain ⟨d0, d1, d2, d3, d4⟩ := (hR' i hlt).step hbel (hR' i hlt).lt
      have heq := eqC_self cs[i]
      have hiz : (i : Int) < (cs.length : Int) := by omega
      clear hR hR'
      generalize cs[i] = c at *
      obtain ⟨r, k, v, z, x⟩ := c
      simp only at c0 c1 c2 c3 c4 d0 d1 d2 d3 d4
      go_wp2_with fail
      go_quiet (fail)
      have hbe := below_drewN hbel nq
      clear c0 c1 c2 c3 c4 d0 d1 d2 d3 d4
      go_wp2
      go_roundw
      case rel => exact ⟨i + 1, by go_num, by omega, hbe⟩
      case measure => simp [intOf]; omega
    · have hie : i = cs.length := by omega
      subst hie
      go_wp2
      go_ret
      exact ⟨rfl, hbel⟩

set_option maxHeartbeats 1000000 in
theorem at8_any (r : List UInt8) (v : Int) (w : World) :
    Calls Try.prog 27 #[.string (bstr r), .int .u64 v] w fun e w' => e = .returned (.agg #[.string (bstr r), .string ⟨#[120]⟩, .int .u64 v, .bool false, .string ⟨#[]⟩]) ∧ RowKit.Below w.heap.size w w' := by
  have hB : RowKit.Below w.heap.size w (w.alloc (.cells #[.string (bstr r), .string ⟨#[120]⟩, .int .u64 v, .bool false, .string ⟨#[]⟩] 34)) := (RowKit.Below.refl _ _).alloc (Nat.le_refl _) _
  obtain ⟨r0, r1, r2, r3, r4⟩ := CellAt.new w 34 r [120] v false []
  replace r0 : (w.alloc (.cells #[.string (bstr r), .string ⟨#[120]⟩, .int .u64 v, .bool false, .string ⟨#[]⟩] 34)).cell? ⟨w.heap.size, 0, none⟩ = some (.string (bstr r)) := r0
  replace r2 : (w.alloc (.cells #[.string (bstr r), .string ⟨#[120]⟩, .int .u64 v, .bool false, .string ⟨#[]⟩] 34)).cell? ⟨w.heap.size, 2, none⟩ = some (.int .u64 v) := r2
  replace r3 : (w.alloc (.cells #[.string (bstr r), .string ⟨#[120]⟩, .int .u64 v, .bool false, .string ⟨#[]⟩] 34)).cell? ⟨w.heap.size, 3, none⟩ = some (.bool false) := r3
  replace r1 : (w.alloc (.cells #[.string (bstr r), .string ⟨#[120]⟩, .int .u64 v, .bool false, .string ⟨#[]⟩] 34)).cell? ⟨w.heap.size, 1, none⟩ = some (.string ⟨#[120]⟩) := r1
  replace r4 : (w.alloc (.cells #[.string (bstr r), .string ⟨#[120]⟩, .int .u64 v, .bool false, .string ⟨#[]⟩] 34)).cell? ⟨w.heap.size, 4, none⟩ = some (.string ⟨#[]⟩) := r4
  go_enter Try.func27, Try.ntmps27
  go_wp2
  generalize w.alloc (.cells #[.string (bstr r), .string ⟨#[120]⟩, .int .u64 v, .bool false, .string ⟨#[]⟩] 34) = W at *
  exact bodyPost_ret (v := .agg #[.string (bstr r), .string ⟨#[120]⟩, .int .u64 v, .bool false, .string ⟨#[]⟩]) (by simp [results, Try.results27, go_sem, r0, r1, r2, r3, r4]) rfl ⟨rfl, hB⟩

theorem cnt_all {T : List Tw} (h : ∀ t ∈ T, 0 < t.h ∧ t.h ≤ 12) : cnt 0 T = T.length := by
  unfold cnt
  rw [List.countP_eq_length]
  intro t ht
  simpa using (h t ht).1

set_option maxHeartbeats 1000000 in
theorem SLen_any (l hd : Nat) (T : List Tw) (v : Value) (xs : List Value) (w : World) (h : Ls w l hd T v xs) :
    Calls Try.prog 9 #[.pointer (some ⟨l, 0, none⟩)] w fun e w' => e = .returned (.int .i64 (T.length : Int)) ∧ w' = w := by
  have hno := none_ok l hd w h.blk.head
  have ha := h.blk.above (n := 0) (by omega)
  simp only [cnt_all h.hgt, Nat.add_zero] at ha
  go_enter Try.func9, Try.ntmps9
  go_wp2_with fail
  refine hno.mono ?_
  rintro e w' ⟨rfl, rfl⟩
  go_wp2
  go_ret
  exact ⟨rfl, rfl⟩

set_option maxHeartbeats 4000000 in
set_option maxRecDepth 100000 in
theorem Get_yes (l hd : Nat) (A B : List Tw) (u : Tw) (v : Value) (xs : List Value) (row col : List UInt8) (w : World) (h : Ls w l hd (A ++ u :: B) v xs) (hA : ∀ t ∈ A, ccl t.c (plC row col) < 0) (hB : ∀ t ∈ u :: B, 0 ≤ ccl t.c (plC row col)) (hr : u.c.row = row) (hc : u.c.col = col) :
    Calls Try.prog 7 #[.pointer (some ⟨l, 0, none⟩), .string (bstr row), .string (bstr col)] w fun e w' => e = .returned (.tuple #[clV u.c, .bool true]) ∧ Below w.heap.size w w' := by
  have hb0 : Below w.heap.size w (w.alloc (.cells #[.string ⟨#[]⟩, .string ⟨#[]⟩, .int .u64 0, .bool false, .string ⟨#[]⟩] 34)) := (Below.refl _ _).alloc (Nat.le_refl _) _
  have hz0 : (w.alloc (.cells #[.string ⟨#[]⟩, .string ⟨#[]⟩, .int .u64 0, .bool false, .string ⟨#[]⟩] 34)).heap[w.heap.size]? = some (.cells #[.string ⟨#[]⟩, .string ⟨#[]⟩, .int .u64 0, .bool false, .string ⟨#[]⟩] 34 (0, 0)) := heap_alloc_new _ _
  have hL0 := h.below hb0
  generalize hw0 : w.alloc (.cells #[.string ⟨#[]⟩, .string ⟨#[]⟩, .int .u64 0, .bool false, .string ⟨#[]⟩] 34) = w0 at *
  have hno := none_ok l hd w0 hL0.blk.head
  have hfi := first_any l hd A (u :: B) row col w0 hL0.blk.head hL0.ch hA hB
  have hu0 : 0 < u.h := (h.hgt u (by simp)).1
  rw [nxt_cons_yes hu0, pt_some] at hfi
  have hmay := h.may u (by simp)
  subst hr hc
  go_enter Try.func7, Try.ntmps7
  go_wp2_with fail
  refine hno.mono ?_
  rintro e w0' ⟨rfl, rfl⟩
  go_wp2_with fail
  refine hfi.mono ?_
  rintro e w1 ⟨rfl, hb1⟩
  have hL1 := hL0.below hb1
  obtain ⟨d0, d1, d2, d3, d4⟩ := (hL1.ch.at_ (hdT hd :: A) u B rfl).cells
  have hz1 := (hb1.block _ (blk_lt hz0)).trans hz0
  have hbel := below2 hb0 hb1
  clear hno hfi hw0 hz0 hL0
  go_wp2_with fail
  refine (sfresh_any u.c w1 (may_fits hmay)).mono ?_
  rintro e w2 ⟨rfl, hb2⟩
  have hz2 := (hb2.block _ (blk_lt hz1)).trans hz1
  have hbel2 := below2 hbel hb2
  obtain ⟨r0, r1, r2, r3, r4, g0, g1, g2, g3, g4⟩ := zero_cells hz2
  clear d0 d1 d2 d3 d4 hz1
  go_wp2
  generalize hW : ((((w2.setCell ⟨w.heap.size, 0, none⟩ _).setCell ⟨w.heap.size, 1, none⟩ _).setCell ⟨w.heap.size, 2, none⟩ _).setCell ⟨w.heap.size, 3, none⟩ _).setCell ⟨w.heap.size, 4, none⟩ _ = W'
  obtain ⟨x0, x1, x2, x3, x4⟩ := set5_reads r0 r1 r2 r3 r4 hW
  refine bodyPost_ret (v := .tuple #[clV u.c, .bool true]) (by simp [results, Try.results7, go_sem, x0, x1, x2, x3, x4]) rfl ⟨rfl, ?_⟩
  rw [← hW]
  exact below_set5 _ _ _ _ _ hbel2 (Nat.le_refl _)

end Go.Proofs.Ytijfmgpipnhkkaa
