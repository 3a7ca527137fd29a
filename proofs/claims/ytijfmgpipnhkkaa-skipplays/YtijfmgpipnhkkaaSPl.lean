/-
  SkipPlays, walked.
-/
import Derived.Test.YtijfmgpipnhkkaaSRnd
import Derived.Sort.BigQuietIn
namespace Go.Proofs.Ytijfmgpipnhkkaa
open Go.RowKit Go.BigFrame Go.Sort
attribute [local go_sem] size_bstr toList_bstr ls_def
attribute [local go_sem] Oper.semAt_some
attribute [local go_sem high] cell_eql5 cell_neq5 cell_guard

set_option maxHeartbeats 4000000 in
set_option maxRecDepth 100000 in
theorem Plays_any (q : Option Addr) (b off cap : Nat) (ds : List Dst) (w : World) (hq : 0 < ds.length → q = some ⟨b, off, none⟩ ∧ DRow w b off ds ∧ b < w.heap.size) (hf : ∀ d ∈ ds, Fits d.c) (hn : ds.length ≤ 4611686018427387904) :
    Calls Try.prog 3 #[.slice q ds.length cap] w fun e w' => e = .returned (.bool true) ∧ Below w.heap.size w w' := by
  have hbr : Below w.heap.size w (w.alloc (.cells #[.bool false] 4)) := (Below.refl _ _).alloc (Nat.le_refl _) _
  have hrn : (w.alloc (.cells #[.bool false] 4)).heap[w.heap.size]? = some (.cells #[.bool false] 4 (0, 0)) := heap_alloc_new _ _
  have hrs : (w.alloc (.cells #[.bool false] 4)).heap.size = w.heap.size + 1 := by simp
  refine calls_marks Try.func3 rfl ?_
  simp only [Try.ntmps3, List.size_toArray, List.length_cons, List.length_nil, Nat.reduceAdd, Nat.reduceSub, Array.replicate_succ, Array.replicate_zero, List.push_toArray, List.append_toArray, List.nil_append, List.cons_append]
  refine wpIn_wide.2 ?_
  go_wp2_with fail
  generalize w.alloc (.cells #[.bool false] 4) = w0 at *
  refine (New_any w0).mono ?_
  rintro e w1 ⟨rfl, hL1, hb1⟩
  have hP0 : PS w (w0.heap.size + 1) w0.heap.size w1.heap.size [] (.slice none 0 0) none 0 0 none 0 0 (w1.alloc (.cells #[.slice none 0 0, .slice none 0 0] 28)) := by
    have hb2 : Below w1.heap.size w1 (w1.alloc (.cells #[.slice none 0 0, .slice none 0 0] 28)) := (Below.refl _ _).alloc (Nat.le_refl _) _
    have hb3 := below2 hb1 hb2
    refine ⟨hL1.below hb2, ⟨fun h => absurd h (by simp [chT]), fun h => absurd h (by simp [chT]), by simp [chT], by simp [chT], fun _ => ⟨rfl, rfl, rfl, rfl⟩⟩, heap_alloc_new _ _, (hb3.block _ (by omega)).trans hrn, ?_, below2 hbr hb3, fun h => absurd h (by simp), by have := hb1.size; omega⟩
    rintro i (h | h | ⟨t, ht, _⟩ | h)
    · omega
    · omega
    · cases ht
    · cases h
  have h01 : w0.heap.size < w1.heap.size := by have := hL1.lt (Or.inl rfl); omega
  clear hbr hrn
  have HRS : Hid _ := hrs
  have HW0 : Hid _ := hb1
  clear hrs hb1 hL1
  generalize hl : w0.heap.size + 1 = l at *
  generalize hhd : w0.heap.size = hd at *
  go_wp2
  go_loopw [5] (fun s5 wr => ∃ (i : Nat) (T : List Tw) (v : Value) (qc : Option Addr) (gc cc : Nat) (qh : Option Addr) (gh ch : Nat), s5 = .int .i64 (i : Int) ∧ i ≤ ds.length ∧ i ≤ 200 ∧ T.length ≤ i ∧ PS w l hd w1.heap.size T v qc gc cc qh gh ch wr) (fun s5 _ => ds.length - (intOf s5).toNat)
  case atStart => exact ⟨0, [], _, none, 0, 0, none, 0, 0, rfl, by omega, by omega, by simp, hP0⟩
  case round =>
    obtain ⟨i, T, v, qc, gc, cc, qh, gh, ch, rfl, hil, hi2, hTi, hP⟩ := hrel
    by_cases hlt : i < ds.length ∧ i < 200
    · obtain ⟨rfl, hR, hgl⟩ := hq (by omega)
      have hz1 : (i : Int) < (ds.length : Int) := by omega
      have hz2 : (i : Int) < 200 := by omega
      have hdf := hf _ (List.getElem_mem hlt.1)
      obtain ⟨hA5, hAh, hAl⟩ := hR i hlt.1
      have hbw : b < wr.heap.size := Nat.lt_of_lt_of_le hgl hP.kp.size
      replace hA5 := hA5.step hP.kp hgl
      replace hAh := kcS (RowKit.Below.refl _ _) hP.kp hAh
      replace hAl := kcS (RowKit.Below.refl _ _) hP.kp hAl
      clear hR
      generalize ds[i] = d at *
      have m0 : wr.cell? ⟨w1.heap.size, 0, none⟩ = some (.slice qc T.length cc) := (cells_block hP.mb).1 0
      have m1 : wr.cell? ⟨w1.heap.size, 1, none⟩ = some (.slice qh T.length ch) := (cells_block hP.mb).1 1
      have hTn : T.length ≤ 1000 := by omega
      have hF2 : ∀ W, RowKit.Below wr.heap.size wr W → Calls Try.prog 5 #[.agg #[.slice qc T.length cc, .slice qh T.length ch], .agg #[.string (bstr d.c.row), .string (bstr d.c.col), .int .u64 d.c.ver, .bool d.c.gone, .string (bstr d.c.val)], .int .i64 d.h] W fun e w' => ∃ qc' gc' cc' qh' gh' ch', e = .returned (.tuple #[.agg #[.slice qc' (stL d (chT T)).length cc', .slice qh' (stL d (chT T)).length ch'], .int .i64 (stE d)]) ∧ DA w' (stL d (chT T)) qc' gc' cc' qh' gh' ch' ∧ Below W.heap.size W w' ∧ (0 < (stL d (chT T)).length → (gc' = gc ∧ gh' = gh ∧ 0 < T.length) ∨ (W.heap.size ≤ gc' ∧ W.heap.size ≤ gh')) := by
        intro W hbW
        have := RPut_both d (chT T) qc gc cc qh gh ch W (hP.da.below hbW) (by rw [chT_length]; omega)
        simp only [dV, chT_length] at this
        exact this
      obtain ⟨c0, c1, c2, c3, c4⟩ := hA5
      go_wp2_with fail
      go_cut [6, 7] from 33 to 120 (fun s6 s7 wx => ∃ (nB : Nat) (qc' : Option Addr) (gc' cc' : Nat) (qh' : Option Addr) (gh' ch' : Nat), s6 = .pointer (some ⟨nB, 0, none⟩) ∧ s7 = .int .i64 (stE d) ∧ R8 wr T.length (stL d (chT T)) gc gh nB qc' gc' cc' qh' gh' ch' wx)
      case rest =>
        obtain ⟨nB, qc', gc', cc', qh', gh', ch', rfl, rfl, hR8⟩ := hcut
        have hLc := hP.ls.below hR8.be
        replace c0 := kcS (RowKit.Below.refl _ _) hR8.be c0
        replace c1 := kcS (RowKit.Below.refl _ _) hR8.be c1
        replace c2 := kcS (RowKit.Below.refl _ _) hR8.be c2
        replace c3 := kcS (RowKit.Below.refl _ _) hR8.be c3
        replace c4 := kcS (RowKit.Below.refl _ _) hR8.be c4
        replace hAh := kcS (RowKit.Below.refl _ _) hR8.be hAh
        replace hAl := kcS (RowKit.Below.refl _ _) hR8.be hAl
        have hnb : ¬ Ow l hd T v b := fun h => by have := hP.lo _ h; omega
        have hF9 : ∀ W, RowKit.Below wc.heap.size wc W → Calls Try.prog 6 #[.pointer (some ⟨l, 0, none⟩), .agg #[.string (bstr d.c.row), .string (bstr d.c.col), .int .u64 d.c.ver, .bool d.c.gone, .string (bstr d.c.val)], .int .i64 d.h] W fun e w' => e = .returned (.int .i64 (stE d)) ∧ ∃ T' v', R9 wc l hd T v d T' v' w' := by
          intro W hbW
          refine (Put_both d l hd T v W (hLc.below hbW) (by omega)).mono ?_
          rintro e w' ⟨rfl, T', v', h1, h2, h3, h4, h5⟩
          refine ⟨rfl, T', v', h1, h2, h3, (Kp.of_below _ hbW).trans h4 (fun _ h => .inl h), fun i hi => (h5 i hi).imp id fun h => Nat.le_trans hbW.size h⟩
        clear m0 m1 hF2
        have HP : Hid _ := hP
        have HR8 : Hid _ := hR8
        clear hP hR8
        go_wp2_with fail
        go_region_held3 (fun w' => w'.cell? ⟨b, off + i * 7, none⟩ = some (.string (bstr d.c.row)) ∧ w'.cell? ⟨b, off + i * 7 + 1, none⟩ = some (.string (bstr d.c.col)) ∧ w'.cell? ⟨b, off + i * 7 + 2, none⟩ = some (.int .u64 d.c.ver) ∧ w'.cell? ⟨b, off + i * 7 + 3, none⟩ = some (.bool d.c.gone) ∧ w'.cell? ⟨b, off + i * 7 + 4, none⟩ = some (.string (bstr d.c.val)) ∧ w'.cell? ⟨b, off + i * 7 + 5, none⟩ = some (.int .i64 d.h)) (first | with_reducible exact ⟨c0, c1, c2, c3, c4, hAh⟩ | go_keep)
          ((go_at_call 6; refine (hF9 _ (by repeat (first | exact RowKit.Below.refl _ _ | refine RowKit.Below.drew ?_ | refine RowKit.Below.alloc ?_ (by simp) _))).mono ?_; rintro e wf ⟨rfl, T', v', hR9⟩; have d0 := kcK hR9.kp c0 hnb; have d1 := kcK hR9.kp c1 hnb; have d2 := kcK hR9.kp c2 hnb; have d3 := kcK hR9.kp c3 hnb; have d4 := kcK hR9.kp c4 hnb; have d5 := kcK hR9.kp hAh hnb; have d6 := kcK hR9.kp hAl hnb))
        obtain ⟨fn, fm⟩ := R9.facts HP.out HR8.out hR9
        have hP2 := PS.stepped HP.out HR8.out hR9
        have hlen : (stL d (chT T)).length = T'.length := by rw [← hR9.ch, chT_length]
        rw [hlen] at fn hP2
        have n0 : wf.cell? ⟨nB, 0, none⟩ = some (.slice qc' T'.length cc') := (cells_block fn).1 0
        have n1 : wf.cell? ⟨nB, 1, none⟩ = some (.slice qh' T'.length ch') := (cells_block fn).1 1
        have x0 : wf.cell? ⟨w1.heap.size, 0, none⟩ = some (.slice qc T.length cc) := (cells_block fm).1 0
        have x1 : wf.cell? ⟨w1.heap.size, 1, none⟩ = some (.slice qh T.length ch) := (cells_block fm).1 1
        have f0 : wf.frozen? ⟨w1.heap.size, 0, none⟩ = false := (cells_block fm).2 0
        have f1 : wf.frozen? ⟨w1.heap.size, 1, none⟩ = false := (cells_block fm).2 1
        have hbm : b ≠ w1.heap.size := by have := HP.out.ml; omega
        have hTl : T'.length ≤ i + 1 := by have := hR9.le; omega
        obtain ⟨Wm, hWm⟩ : ∃ Wm, Wm = (wf.setCell ⟨w1.heap.size, 0, none⟩ (.slice qc' T'.length cc')).setCell ⟨w1.heap.size, 1, none⟩ (.slice qh' T'.length ch') := ⟨_, rfl⟩
        have hmb : Wm.heap[b]? = wf.heap[b]? := by rw [hWm]; exact (heap_set_other _ hbm).trans (heap_set_other _ hbm)
        have hcell : ∀ o, Wm.cell? ⟨b, o, none⟩ = wf.cell? ⟨b, o, none⟩ := fun o => World.cell?_of_block (a := ⟨b, o, none⟩) hmb
        have k0 := (hcell _).trans d0
        have k1 := (hcell _).trans d1
        have k6 := (hcell _).trans d6
        have hbM : b < Wm.heap.size := World.block_lt_of_cell? Wm _ k0
        rw [← hWm] at hP2
        have HWM : Hid _ := hWm
        have HTL : Hid _ := hTl
        clear hWm d0 d1 d2 d3 d4 d5 d6 fn fm hcell hmb hR9 hlen c0 c1 c2 c3 c4 hAh hAl hF9 hLc hnb hTl
        generalize stE d = E at *
        go_wp2_with fail
        rw [← HWM.out]
        clear n0 n1 x0 x1 f0 f1
        go_quiet (fail)
        have hP3 := hP2.below (below_drewN (RowKit.Below.refl _ _) nq)
        replace k6 : (Wm.drewN nq).cell? ⟨b, off + i * 7 + 6, none⟩ = _ := k6
        replace hbM : b < (Wm.drewN nq).heap.size := hbM
        clear hP2 k0 k1 HWM
        generalize Wm.drewN nq = wd at *
        have hG := Get_both l hd T' v' [] d.c.row d.c.col wd hP3.ls
        have hG2 : ∀ W, RowKit.Below wd.heap.size wd W → Calls Try.prog 8 #[.agg #[.slice qc' T'.length cc', .slice qh' T'.length ch'], .string (bstr d.c.row), .string (bstr d.c.col)] W fun e w' => e = .returned (getV (getR (T'.map fun t => t.c) d.c.row d.c.col)) ∧ Below W.heap.size W w' := by
          intro W hbW
          have := RGet_any (chT T') qc' gc' cc' qh' gh' ch' d.c.row d.c.col W (hP3.da.below hbW) (by rw [chT_length]; have := HTL.out; omega)
          rw [chT_cells] at this
          simp only [dV, chT_length] at this
          exact this
        rw [getV_eq] at hG
        simp only [getV_eq] at hG2
        generalize (getR (T'.map fun t => t.c) d.c.row d.c.col).isSome = is at *
        generalize (getR (T'.map fun t => t.c) d.c.row d.c.col).getD zC = cx at *
        obtain ⟨r, k, vv, z, x⟩ := cx
        have hm0 : wd.cell? ⟨w1.heap.size, 0, none⟩ = some (.slice qc' T'.length cc') := (cells_block hP3.mb).1 0
        have hm1 : wd.cell? ⟨w1.heap.size, 1, none⟩ = some (.slice qh' T'.length ch') := (cells_block hP3.mb).1 1
        go_wp2_with fail
        refine hG.mono ?_
        rintro e w4 ⟨rfl, hb4⟩
        have hb5 : RowKit.Below wd.heap.size wd (w4.alloc (.cells #[.string (bstr r), .string (bstr k), .int .u64 vv, .bool z, .string (bstr x)] 34)) := hb4.alloc hb4.size _
        have hA5 : (w4.alloc (.cells #[.string (bstr r), .string (bstr k), .int .u64 vv, .bool z, .string (bstr x)] 34)).heap[w4.heap.size]? = some (.cells #[.string (bstr r), .string (bstr k), .int .u64 vv, .bool z, .string (bstr x)] 34 (0, 0)) := heap_alloc_new _ _
        replace hm0 := kcS (RowKit.Below.refl _ _) hb5 hm0
        replace hm1 := kcS (RowKit.Below.refl _ _) hb5 hm1
        replace k6 := kcS (RowKit.Below.refl _ _) hb5 k6
        have hG3 := hG2 _ hb5
        clear hG hG2 hb4
        go_wp2_with fail
        generalize w4.alloc (.cells #[.string (bstr r), .string (bstr k), .int .u64 vv, .bool z, .string (bstr x)] 34) = w5 at *
        refine hG3.mono ?_
        rintro e w6 ⟨rfl, hb6⟩
        have hb7 : RowKit.Below w5.heap.size w5 (w6.alloc (.cells #[.string (bstr r), .string (bstr k), .int .u64 vv, .bool z, .string (bstr x)] 34)) := hb6.alloc hb6.size _
        have hA7 : (w6.alloc (.cells #[.string (bstr r), .string (bstr k), .int .u64 vv, .bool z, .string (bstr x)] 34)).heap[w6.heap.size]? = some (.cells #[.string (bstr r), .string (bstr k), .int .u64 vv, .bool z, .string (bstr x)] 34 (0, 0)) := heap_alloc_new _ _
        have hP7 := hP3.below (below2 hb5 hb7)
        replace hA5 := (hb7.block _ (blk_lt hA5)).trans hA5
        replace hm0 := kcS (RowKit.Below.refl _ _) hb7 hm0
        replace hm1 := kcS (RowKit.Below.refl _ _) hb7 hm1
        replace k6 := kcS (RowKit.Below.refl _ _) hb7 k6
        clear hG3 hb7 hb6 hb5 hP3
        have hcb : ¬ Ow l hd T' v' w4.heap.size := hP7.ls.other hA5 (by decide)
        have hdb : ¬ Ow l hd T' v' w6.heap.size := hP7.ls.other hA7 (by decide)
        have hmbn : ¬ Ow l hd T' v' w1.heap.size := hP7.ls.other hP7.mb (by decide)
        have hbn : ¬ Ow l hd T' v' b := fun h => by have := hP7.lo _ h; omega
        have k0 : World.cell? _ _ = some (.string (bstr r)) := (cells_block hA5).1 0
        have k1 : World.cell? _ _ = some (.string (bstr k)) := (cells_block hA5).1 1
        have k2 : World.cell? _ _ = some (.int .u64 vv) := (cells_block hA5).1 2
        have k3 : World.cell? _ _ = some (.bool z) := (cells_block hA5).1 3
        have k4 : World.cell? _ _ = some (.string (bstr x)) := (cells_block hA5).1 4
        have j0 : World.cell? _ _ = some (.string (bstr r)) := (cells_block hA7).1 0
        have j1 : World.cell? _ _ = some (.string (bstr k)) := (cells_block hA7).1 1
        have j2 : World.cell? _ _ = some (.int .u64 vv) := (cells_block hA7).1 2
        have j3 : World.cell? _ _ = some (.bool z) := (cells_block hA7).1 3
        have j4 : World.cell? _ _ = some (.string (bstr x)) := (cells_block hA7).1 4
        go_wp2_with fail
        generalize w6.alloc (.cells #[.string (bstr r), .string (bstr k), .int .u64 vv, .bool z, .string (bstr x)] 34) = w7 at *
        generalize w6.heap.size = dB at *
        generalize w4.heap.size = cB at *
        obtain ⟨A, B, hAB, hA, hB⟩ := tparts (c := plC d.c.row d.c.col) hP7.ls.asc
        have hT1 : T'.length ≤ 1000000 := by have := HTL.out; omega
        have hLen : ∀ W, RowKit.Below w7.heap.size w7 W → Calls Try.prog 9 #[.pointer (some ⟨l, 0, none⟩)] W fun e w' => e = .returned (.int .i64 (T'.length : Int)) ∧ w' = W := fun W hb => SLen_any l hd T' v' [] W (hP7.ls.below hb)
        have hFrm := from_ps d.c.row d.c.col hP7 hAB hA hB hT1
        have hTel := tells_ps d.c.row d.c.col d.lv hP7 hAB hA hB hT1 hdf.1 hdf.2.1
        have heq := eqC_self ⟨r, k, vv, z, x⟩
        have hmx : Try.prog.follows .mixedOrders = true := by kernel_rfl
        have HP7 : Hid _ := hP7
        have hbz : RowKit.Below w7.heap.size w7 w7 := RowKit.Below.refl _ _
        clear hP7 hA7 hA5 hAB hA hB hT1
        generalize B.map (fun t => t.c) = RB at *
        generalize B.length = bl at *
        go_region_held3 (fun w' => w'.cell? ⟨w1.heap.size, 0, none⟩ = some (.slice qc' T'.length cc') ∧ w'.cell? ⟨w1.heap.size, 1, none⟩ = some (.slice qh' T'.length ch') ∧ w'.cell? ⟨b, off + i * 7 + 6, none⟩ = some (.int .i64 d.lv) ∧ w'.cell? ⟨cB, 0, none⟩ = some (.string (bstr r)) ∧ w'.cell? ⟨cB, 1, none⟩ = some (.string (bstr k)) ∧ w'.cell? ⟨cB, 2, none⟩ = some (.int .u64 vv) ∧ w'.cell? ⟨cB, 3, none⟩ = some (.bool z) ∧ w'.cell? ⟨cB, 4, none⟩ = some (.string (bstr x)) ∧ w'.cell? ⟨dB, 0, none⟩ = some (.string (bstr r)) ∧ w'.cell? ⟨dB, 1, none⟩ = some (.string (bstr k)) ∧ w'.cell? ⟨dB, 2, none⟩ = some (.int .u64 vv) ∧ w'.cell? ⟨dB, 3, none⟩ = some (.bool z) ∧ w'.cell? ⟨dB, 4, none⟩ = some (.string (bstr x))) (first | with_reducible exact ⟨hm0, hm1, k6, k0, k1, k2, k3, k4, j0, j1, j2, j3, j4⟩ | go_keep)
          (first
            | (go_at_call 9; refine (hLen _ (by repeat (first | with_reducible exact hbz | exact RowKit.Below.refl _ _ | refine RowKit.Below.drew ?_))).mono ?_; rintro e W2 ⟨rfl, rfl⟩)
            | (go_at_call 11; refine (hFrm _ (by repeat (first | with_reducible exact hbz | exact RowKit.Below.refl _ _ | refine RowKit.Below.drew ?_))).mono ?_; rintro e wf ⟨qw, ow, cw, rfl, hrow, hbf⟩; obtain ⟨X, hX⟩ : ∃ X, RowKit.Below w7.heap.size w7 X ∧ RowKit.Below X.heap.size X wf := ⟨_, (by repeat (first | with_reducible exact hbz | exact RowKit.Below.refl _ _ | refine RowKit.Below.drew ?_)), hbf⟩; have a0 := kcS hX.1 hX.2 hm0; have a1 := kcS hX.1 hX.2 hm1; have a2 := kcS hX.1 hX.2 k6; have a3 := kcS hX.1 hX.2 k0; have a4 := kcS hX.1 hX.2 k1; have a5 := kcS hX.1 hX.2 k2; have a6 := kcS hX.1 hX.2 k3; have a7 := kcS hX.1 hX.2 k4; have a8 := kcS hX.1 hX.2 j0; have a9 := kcS hX.1 hX.2 j1; have a10 := kcS hX.1 hX.2 j2; have a11 := kcS hX.1 hX.2 j3; have a12 := kcS hX.1 hX.2 j4; have hbz2 := below2 hX.1 hX.2; clear hbz; have hbz := hbz2; clear hbz2 hX hbf)
            | (go_at_call 10; refine (hTel _ _ _ _ (by repeat (first | with_reducible exact hbz | exact RowKit.Below.refl _ _ | refine RowKit.Below.drew ?_)) hrow).mono ?_; rintro e wt ⟨rfl, v2, hR15⟩; have b0 := kcK hR15.kp hm0 hmbn; have b1 := kcK hR15.kp hm1 hmbn; have b2 := kcK hR15.kp k6 hbn; have b3 := kcK hR15.kp k0 hcb; have b4 := kcK hR15.kp k1 hcb; have b5 := kcK hR15.kp k2 hcb; have b6 := kcK hR15.kp k3 hcb; have b7 := kcK hR15.kp k4 hcb; have b8 := kcK hR15.kp j0 hdb; have b9 := kcK hR15.kp j1 hdb; have b10 := kcK hR15.kp j2 hdb; have b11 := kcK hR15.kp j3 hdb; have b12 := kcK hR15.kp j4 hdb))
        clear a0 a1 a2 a3 a4 a5 a6 a7 a8 a9 a10 a11 a12 b0 b1 b2 b3 b4 b5 b6 b7 b8 b9 b10 b11 b12 k0 k1 k2 k3 k4 k6 j0 j1 j2 j3 j4 hm0 hm1 heq hmx hLen hFrm hTel hrow
        go_wp2
        go_roundw
        case rel => exact ⟨i + 1, T', v2, qc', gc', cc', qh', gh', ch', by go_num, by omega, by omega, HTL.out, HP7.out.told hR15.ls hR15.kp hR15.fo⟩
        case measure => simp [intOf]; omega
      have e0 := World.new_ne wr _ c0
      have e9 := World.new_ne wr _ m0
      go_region_held3 (fun w' => w'.cell? ⟨w1.heap.size, 0, none⟩ = some (.slice qc T.length cc) ∧ w'.cell? ⟨w1.heap.size, 1, none⟩ = some (.slice qh T.length ch) ∧ w'.cell? ⟨b, off + i * 7, none⟩ = some (.string (bstr d.c.row)) ∧ w'.cell? ⟨b, off + i * 7 + 1, none⟩ = some (.string (bstr d.c.col)) ∧ w'.cell? ⟨b, off + i * 7 + 2, none⟩ = some (.int .u64 d.c.ver) ∧ w'.cell? ⟨b, off + i * 7 + 3, none⟩ = some (.bool d.c.gone) ∧ w'.cell? ⟨b, off + i * 7 + 4, none⟩ = some (.string (bstr d.c.val)) ∧ w'.cell? ⟨b, off + i * 7 + 5, none⟩ = some (.int .i64 d.h)) (first | with_reducible exact ⟨m0, m1, c0, c1, c2, c3, c4, hAh⟩ | go_keep)
        ((go_at_call 5; refine (hF2 _ (by repeat (first | exact RowKit.Below.refl _ _ | refine RowKit.Below.drew ?_ | refine RowKit.Below.alloc ?_ (by simp) _))).mono ?_; rintro e wf ⟨qc', gc', cc', qh', gh', ch', rfl, hD', hbf, hgg⟩; obtain ⟨X, hX⟩ : ∃ X, RowKit.Below wr.heap.size wr X ∧ RowKit.Below X.heap.size X wf := ⟨_, (by repeat (first | exact RowKit.Below.refl _ _ | refine RowKit.Below.drew ?_ | refine RowKit.Below.alloc ?_ (by simp) _)), hbf⟩; have d0 := kcS hX.1 hX.2 m0; have d1 := kcS hX.1 hX.2 m1; have d2 := kcS hX.1 hX.2 c0; have d3 := kcS hX.1 hX.2 c1; have d4 := kcS hX.1 hX.2 c2; have d5 := kcS hX.1 hX.2 c3; have d6 := kcS hX.1 hX.2 c4; have d7 := kcS hX.1 hX.2 hAh; have hbz := below2 hX.1 hX.2; have hbz0 := hX.1.size; have e1 := World.new_ne wf _ d0; have e2 := World.new_ne wf _ d2; (first | (have b0 : Z2 wf wr.heap.size := atS1 (wr := wr) (z := (Obj.cells #[.slice none 0 0, .slice none 0 0] 28 (0, 0))) hbf rfl; obtain ⟨z0, z1, f0, f1⟩ := b0.facts; have e5 : wr.heap.size < wf.heap.size := blk_lt b0; have B0 : Hid _ := b0; clear b0) | skip); have HD' : Hid _ := hD'; have HG : Hid _ := hgg; clear hX hD' hgg))
      · go_wp2
        go_meet
        case rel => exact ⟨_, qc', gc', cc', qh', gh', ch', rfl, rfl, R8.late HD'.out hbz HG.out⟩
      · go_wp2
        go_meet
        case rel => exact ⟨_, qc', gc', cc', qh', gh', ch', rfl, rfl, R8.early HD'.out hbz B0.out (fun h0 => (HG.out h0).imp id (fun h => by simp at h; omega)) (fun h0 => ⟨(hP.da.c (by rw [chT_length]; exact h0)).2.2, (hP.da.h (by rw [chT_length]; exact h0)).2.2⟩)⟩
    · have hbn : RowKit.Below wr.heap.size wr (wr.alloc (.cells #[.int .i64 0] 3)) := (RowKit.Below.refl _ _).alloc (Nat.le_refl _) _
      have hnn : (wr.alloc (.cells #[.int .i64 0] 3)).heap[wr.heap.size]? = some (.cells #[.int .i64 ((0 : Nat) : Int)] 3 (0, 0)) := heap_alloc_new _ _
      have hns : (wr.alloc (.cells #[.int .i64 0] 3)).heap.size = wr.heap.size + 1 := by simp
      have HNS : Hid _ := hns
      have hTn : T.length ≤ 1000 := by omega
      clear hns
      have hxx : ((i : Int) < (ds.length : Int) ∧ ¬ (i : Int) < 200) ∨ (¬ (i : Int) < (ds.length : Int) ∧ True) := by
        by_cases hx : i < ds.length
        · exact .inl ⟨by omega, by omega⟩
        · exact .inr ⟨by omega, trivial⟩
      rcases hxx with ⟨hz1, hz2⟩ | ⟨hz1, hz2⟩
      all_goals
        go_wp2_with fail
        generalize wr.alloc (.cells #[.int .i64 0] 3) = wn at *
        refine (All_any (some ⟨l, 0, none⟩) wn).mono ?_
        rintro e w2 ⟨rfl, hbx, hb2⟩
        have hns := HNS.out
        have hnb2 := (hb2.block _ (by omega)).trans hnn
        have hb02 := below2 hbn hb2
        have hs2 := hb2.size
        rw [hns] at hbx hs2
        go_wp2_with fail
        refine (wpIn_wide (n := 3)).1 ?_
        refine wp_range2 (by omega) rfl (enters_of Try.func37 (by kernel_rfl) rfl) ?_
        intro RR hRR
        have hbW : RowKit.Below w2.heap.size w2 ((w2.alloc (.deferred (some []))).alloc (.loop RR)) := ((RowKit.Below.refl _ _).alloc (Nat.le_refl _) _).alloc (by simp) _
        have hW1 : ((w2.alloc (.deferred (some []))).alloc (.loop RR)).heap[w2.heap.size + 1]? = some (.loop RR) := by
          have := World.alloc_heap_new (w2.alloc (.deferred (some []))) (.loop RR)
          rwa [World.size_alloc] at this
        have hW2 : ((w2.alloc (.deferred (some []))).alloc (.loop RR)).heap[w2.heap.size]? = some (.deferred (some [])) := (Below.heap_alloc _ _ _ (by simp)).trans (World.alloc_heap_new w2 _)
        obtain ⟨W1, hWW⟩ : ∃ W1, W1 = (w2.alloc (.deferred (some []))).alloc (.loop RR) := ⟨_, rfl⟩
        rw [← hWW] at hbW hW1 hW2 ⊢
        clear hWW
        have hb3 : RowKit.Below wr.heap.size wr W1 := below2 hb02 hbW
        have hL1 : Ls W1 l hd ([] ++ T) v [] := hP.ls.below hb3
        have hbx1 := hbx.step hbW
        obtain ⟨J, hJ⟩ : ∃ J : List Tw → (Nat → Prop) → Nat → World → Prop, J = fun T' F j W => TK wr l hd T v wr.heap.size w2.heap.size RR j T' F W := ⟨_, rfl⟩
        obtain ⟨Jx, hJx⟩ : ∃ Jx : List Tw → (Nat → Prop) → World → Prop, Jx = fun T' F W => False := ⟨_, rfl⟩
        have hab : Abd J := by
          rw [hJ]
          intro T' F F' j W W' h hK hF
          exact h.abd hK hF
        have habx : Abx Jx := by
          rw [hJx]
          intro T' F F' W W' h hK hF
          exact h
        have hJ0 : J ([] ++ T) (Ow l hd ([] ++ T) v) 0 W1 := by
          rw [hJ]
          refine ⟨rfl, Kp.of_below _ hb3, fun i hi => Or.inl hi, hW1, hW2, fun hf => ?_, fun hf => ?_, fun hf => ?_, (hbW.block _ (by omega)).trans hnb2⟩
          · have := hP.ls.lt hf; omega
          · have := hP.ls.lt hf; omega
          · have := hP.ls.lt hf; omega
        have hfr := from1_any l hd (wr.heap.size + 1) (w2.heap.size + 1) [] T v [] [] W1 J Jx hab habx hbx1 hL1 (fun t ht => by cases ht) (fun t ht => ccl_first (hP.ls.may t ht)) ?_ hJ0
        · show Calls _ _ #[Value.func (Fn.yield (w2.heap.size + 1)) #[] #[], Value.pointer (some ⟨wr.heap.size + 1, 0, none⟩), Value.pointer (some ⟨wr.heap.size + 1 + 1, 0, none⟩), Value.pointer (some ⟨wr.heap.size + 1 + 1 + 1, 0, none⟩)] _ _
          refine hfr.mono ?_
          clear hfr hJ0 hL1 hab habx hbx1
          rintro e W2 ⟨⟨u, rfl⟩, T', v2, hL', hj | hj⟩
          · rw [hJ] at hj
            refine ⟨⟨_, rfl⟩, Or.inl ⟨hj.rc, ?_⟩⟩
            have hT' := hj.eT
            subst hT'
            have hP3 : PS w l hd w1.heap.size T' v2 qc gc cc qh gh ch (W2.putObj (w2.heap.size + 1) (.loop { RR with state := .exhausted })) := hP.told (hL'.kept fun i hi => World.putObj_heap_other (fun e => hj.nl (e ▸ hi))) (hj.kp.put _ (Or.inr (by omega))) hj.fo
            have hn3 : (W2.putObj (w2.heap.size + 1) (.loop { RR with state := .exhausted })).heap[wr.heap.size]? = some (.cells #[.int .i64 (T'.length : Int)] 3 (0, 0)) := (World.putObj_heap_other (by omega)).trans hj.nn
            have hd3 : (W2.putObj (w2.heap.size + 1) (.loop { RR with state := .exhausted })).heap[w2.heap.size]? = some (.deferred (some [])) := (World.putObj_heap_other (by omega)).trans hj.df
            generalize W2.putObj (w2.heap.size + 1) (.loop { RR with state := .exhausted }) = W3 at *
            clear hj hL' hJ hJx hRR hW1 hW2 hbW hb3
            go_wp2_with fail
            refine (Heights_any l hd T' v2 [] W3 hP3.ls).mono ?_
            rintro e w4 ⟨rH, rfl, hown, hb4⟩
            obtain ⟨gH, capH, rfl, hgl, hHB⟩ := own_hts hown
            have hP4 := hP3.below hb4
            have hgH := hHB.lt
            have m0 : w4.cell? ⟨w1.heap.size, 0, none⟩ = some (.slice qc T'.length cc) := (cells_block hP4.mb).1 0
            have m1 : w4.cell? ⟨w1.heap.size, 1, none⟩ = some (.slice qh T'.length ch) := (cells_block hP4.mb).1 1
            have hCt := RCounts_any (chT T') qc gc cc qh gh ch w4 hP4.da (by rw [chT_length]; omega) (fun x hx => by
              obtain ⟨t, ht, rfl⟩ := List.mem_map.1 hx
              exact (hP4.ls.hgt t ht).2)
            simp only [dV, chT_length] at hCt
            clear hown
            go_wp2_with fail
            refine hCt.mono ?_
            rintro e w5 ⟨rfl, hwt, hb5⟩
            have hL12 : L12 W3 T' gH (w4.heap.size + 1) 0 w5 := ⟨hHB.kept (hb5.block _ hgH), hwt, below2 hb4 hb5⟩
            have hne : w4.heap.size + 1 ≠ gH := by omega
            have hgW : w.heap.size ≠ w4.heap.size + 1 := by have := blk_lt hP4.rb; omega
            have n5 : w5.cell? ⟨wr.heap.size, 0, none⟩ = some (.int .i64 (T'.length : Int)) := (cells_block ((below2 hb4 hb5).block _ (blk_lt hn3) |>.trans hn3)).1 0
            replace m0 := kcS (RowKit.Below.refl _ _) hb5 m0
            clear hCt m1 hP4 hHB hwt hb5 hb4
            generalize w4.heap.size + 1 = gW at *
            go_wp2_with fail
            clear n5 m0
            go_loopw [18] (fun s18 W => ∃ i : Nat, s18 = .int .i64 (i : Int) ∧ i ≤ 12 ∧ L12 W3 T' gH gW i W) (fun s18 _ => 12 - (intOf s18).toNat)
            case atStart => exact ⟨0, rfl, by omega, hL12⟩
            case round =>
              obtain ⟨i2, rfl, hi2', hL⟩ := hrel
              by_cases hlt2 : i2 < 12
              · have hz3 : (i2 : Int) < 12 := by omega
                obtain ⟨p0, p2⟩ := hL.hb.at hlt2
                have p1 := hL.want hlt2
                generalize cnt i2 T' = N at *
                go_wp2_with fail
                go_quiet (fail)
                have hL' := hL.drewN nq
                replace p0 : (wr.drewN nq).cell? ⟨gH, i2, none⟩ = _ := p0
                replace p2 : (wr.drewN nq).frozen? ⟨gH, i2, none⟩ = _ := p2
                clear p1 hL
                generalize wr.drewN nq = wq at *
                go_wp2
                go_roundw
                case rel => exact ⟨i2 + 1, by go_num, by omega, hL'.set _ hne hgl⟩
                case measure => simp [intOf]; omega
              · obtain rfl : i2 = 12 := by omega
                have hz3 : ¬ ((12 : Nat) : Int) < 12 := by omega
                have hP5 := hP3.below hL.be
                have hd5 := (hL.be.block _ (blk_lt hd3)).trans hd3
                have hw5 : ∀ j, j < 12 → wr.cell? ⟨gW, j, none⟩ = some (.int .i64 (cnt j T' : Int)) := fun j hj => hL.want hj
                have hw50 := hw5 0 (by omega)
                clear hL hw5 hP3 hd3 hn3 hL12
                go_wp2_with fail
                refine (Heights_any l hd T' v2 [] wr hP5.ls).mono ?_
                rintro e w6 ⟨rH, rfl, hown, hb6⟩
                obtain ⟨gH2, capH2, rfl, hgl2, hHB2⟩ := own_hts hown
                have hP6 := hP5.below hb6
                have hd6 := (hb6.block _ (blk_lt hd5)).trans hd5
                obtain ⟨p0, p2⟩ := hHB2.at (by omega : 0 < 12)
                have p1 := kcS (RowKit.Below.refl _ _) hb6 hw50
                generalize cnt 0 T' = N at *
                have r0 : w6.cell? ⟨w.heap.size, 0, none⟩ = some (.bool false) := (cells_block hP6.rb).1 0
                have r1 : w6.frozen? ⟨w.heap.size, 0, none⟩ = false := (cells_block hP6.rb).2 0
                have e1 : w.heap.size ≠ gH2 := by have := blk_lt hP5.rb; omega
                clear hown hb6 hHB2 hw50 hP5 hd5 p2
                go_wp2_with fail
                go_region_held3 (fun w' => w'.cell? ⟨gH2, 0, none⟩ = some (.int .i64 (N : Int)) ∧ w'.cell? ⟨gW, 0, none⟩ = some (.int .i64 (N : Int))) (first | with_reducible exact ⟨p0, p1⟩ | go_keep)
                  ((go_at_call 15; refine (works8_any _).mono ?_; rintro e wf ⟨rfl, hbf⟩; have hX : RowKit.Below w6.heap.size w6 wf := below2 (w := w6) (by repeat (first | exact RowKit.Below.refl _ _ | refine RowKit.Below.drew ?_)) hbf; have d0 := kcS (RowKit.Below.refl _ _) hX p0; have d1 := kcS (RowKit.Below.refl _ _) hX p1; have hP7 := hP6.below hX; have hd7 := (hX.block _ (blk_lt hd6)).trans hd6; have d2 : wf.cell? ⟨w.heap.size, 0, none⟩ = some (.bool false) := (cells_block hP7.rb).1 0; have d3 : wf.frozen? ⟨w.heap.size, 0, none⟩ = false := (cells_block hP7.rb).2 0))
                have q0 : w2.heap.size ≠ w.heap.size := fun e => by have := hP7.rb; rw [← e, hd7] at this; cases this
                have q1 : (wf.setCell ⟨w.heap.size, 0, none⟩ (.bool true)).heap[w2.heap.size]? = some (.deferred (some [])) := (heap_set_other _ q0).trans hd7
                have q2 : (wf.setCell ⟨w.heap.size, 0, none⟩ (.bool true)).heap[w.heap.size]? = some (.cells #[.bool true] 4 (0, 0)) := heap_set_same hP7.rb (o := 0) (.bool true)
                have hbe : RowKit.Below w.heap.size w (wf.setCell ⟨w.heap.size, 0, none⟩ (.bool true)) := hP7.kp.setCell (Nat.le_refl _) _
                have q3 : w.heap.size ≤ w2.heap.size := by have := hP.kp.size; omega
                clear d0 d1 d2 d3 hd7 hP7 hX hbf r0 r1 p0 p1 hd6 hP6 hgl2 e1
                generalize wf.setCell ⟨w.heap.size, 0, none⟩ (.bool true) = wz at *
                go_wp2
                refine leaves_marks2 (W0 := wz) (S := fun i => i = w2.heap.size) (v := .bool true) (fun W' hk => ?_) (fun W' hk => ?_) [w2.heap.size] wz (by simp) (fun d hd => by
                  obtain rfl : d = w2.heap.size := by simpa using hd
                  exact ⟨rfl, q1⟩) (Kp.refl _ _)
                · have c5 : W'.cell? ⟨w.heap.size, 0, none⟩ = some (.bool true) := (cells_block ((hk.block _ (blk_lt q2) (fun e => q0 e.symm)).trans q2)).1 0
                  simp [results, Try.results3, go_sem, c5]
                · have h2 : RowKit.Below w.heap.size wz W' := hk.below hbe.size (fun i hi => by subst hi; exact q3)
                  exact ⟨rfl, h2.os.trans hbe.os, h2.tape.trans hbe.tape, h2.output.trans hbe.output, Nat.le_trans hbe.size h2.size, fun k hk => (h2.block k hk).trans (hbe.block k hk)⟩
          · rw [hJx] at hj
            exact hj.elim
        · clear hJ0 hL1 hb3 hW1 hW2 hbW hab habx hbx1
          intro mm k X T' F j c W hc hm hX hS hj
          rw [hJ] at hj
          have key : ∀ RP : Ending → World → Prop, Hid (∀ W', Stt l hd k T' F ((T.map (fun t => t.c)).drop (j + 1)) W' → J T' (Un F X) (j + 1) W' → (∀ i, X i → ¬ F i ∧ W'.heap[i]? = W.heap[i]?) → RP (.returned (.bool true)) W') → YieldAt Fence.wide mm Try.prog (w2.heap.size + 1) #[clV c] W RP := by
            intro RP hY
            have hb : RowKit.Below W.heap.size W (W.alloc (.cells #[.string (bstr c.row), .string (bstr c.col), .int .u64 c.ver, .bool c.gone, .string (bstr c.val)] 34)) := (RowKit.Below.refl _ _).alloc (Nat.le_refl _) _
            have hda : (W.alloc (.cells #[.string (bstr c.row), .string (bstr c.col), .int .u64 c.ver, .bool c.gone, .string (bstr c.val)] 34)).heap[W.heap.size]? = some (.cells #[.string (bstr c.row), .string (bstr c.col), .int .u64 c.ver, .bool c.gone, .string (bstr c.val)] 34 (0, 0)) := heap_alloc_new _ _
            refine yield_round2 hj.rc hRR rfl ?_
            have HC : Hid _ := hc
            have HJ : Hid _ := hJ
            have HQ : Hid _ := hq
            clear hc hJ hJx hq hz1 hz2 hlt
            gi_wp2
            generalize hWa : W.alloc (.cells #[.string (bstr c.row), .string (bstr c.col), .int .u64 c.ver, .bool c.gone, .string (bstr c.val)] 34) = Wa at *
            have hra := (hb.block _ (blk_lt hj.rc)).trans hj.rc
            refine ⟨_, run_beginRound hra hRR.s, ?_⟩
            have hjl : j < T.length := by
              rcases Nat.lt_or_ge j T.length with a | a
              · exact a
              · have hcc := HC.out
                rw [List.getElem?_eq_none (by rw [List.length_map]; exact a)] at hcc; cases hcc
            have hne : W.heap.size ≠ w2.heap.size + 1 := by have := blk_lt hj.rc; omega
            have hKb : Kp W (Wa.putObj (w2.heap.size + 1) (.loop { RR with state := .busy })) (fun i => i = w2.heap.size + 1) := (Kp.of_below _ hb).put _ (Or.inl rfl)
            have hdb := (World.putObj_heap_other (w := Wa) (o := .loop { RR with state := .busy }) hne).trans hda
            have hrb : (Wa.putObj (w2.heap.size + 1) (.loop { RR with state := .busy })).heap[w2.heap.size + 1]? = some (.loop { RR with state := .busy }) := World.putObj_heap_same (blk_lt hra)
            generalize Wa.putObj (w2.heap.size + 1) (.loop { RR with state := .busy }) = Wb at *
            have hfx : ∀ i, i < wr.heap.size → ¬ Ow l hd T v i → Wb.heap[i]? = wr.heap[i]? := fun i hi hn => (hKb.block i (by have := hj.kp.size; omega) (by omega)).trans (hj.kp.block i hi hn)
            have bq := (hfx _ (blk_lt hP.mb) (hP.ls.other hP.mb (by decide))).trans hP.mb
            have bn := (hKb.block _ (blk_lt hj.nn) (by omega)).trans hj.nn
            have hT0 : 0 < (chT T).length := by rw [chT_length]; omega
            obtain ⟨hqc, hgR, hgl⟩ := hP.da.c hT0
            rw [chT_cells] at hgR
            rw [hqc] at bq
            have hg1 : Wb.heap[gc]? = wr.heap[gc]? := hfx gc hgl (hP.gn (by omega)).1
            have hgR' : CRow Wb gc 0 (T.map fun t => t.c) := hgR.block hg1
            have hjm : j < (T.map fun t => t.c).length := by rw [List.length_map]; exact hjl
            have hLj : (T.map fun t => t.c)[j] = c := by
              have hcc := HC.out
              rw [List.getElem?_eq_getElem hjm] at hcc
              simpa using hcc
            obtain ⟨g0, g1, g2, g3, g4⟩ := hgR' j hjm
            rw [hLj] at g0 g1 g2 g3 g4
            rw [Nat.zero_add] at g0 g1 g2 g3 g4
            have heq := eqC_self c
            have cn : Wb.cell? ⟨wr.heap.size, 0, none⟩ = some (.int .i64 (j : Int)) := (cells_block bn).1 0
            have cbb : Wb.cell? ⟨w1.heap.size, 0, none⟩ = some (.slice (some ⟨gc, 0, none⟩) T.length cc) := (cells_block bq).1 0
            have hjz : (j : Int) < (T.length : Int) := by omega
            have hjd : decide ((T.length : Int) ≤ (j : Int)) = false := by simp; omega
            have d0 : Wb.cell? ⟨W.heap.size, 0, none⟩ = some (.string (bstr c.row)) := (cells_block hdb).1 0
            have d1 : Wb.cell? ⟨W.heap.size, 1, none⟩ = some (.string (bstr c.col)) := (cells_block hdb).1 1
            have d2 : Wb.cell? ⟨W.heap.size, 2, none⟩ = some (.int .u64 c.ver) := (cells_block hdb).1 2
            have d3 : Wb.cell? ⟨W.heap.size, 3, none⟩ = some (.bool c.gone) := (cells_block hdb).1 3
            have d4 : Wb.cell? ⟨W.heap.size, 4, none⟩ = some (.string (bstr c.val)) := (cells_block hdb).1 4
            have hmx : Try.prog.follows .mixedOrders = true := by kernel_rfl
            clear hLj hgR' hgR hWa hjm hg1
            gi_wp2
            have hjn0 : ¬ T.length ≤ j := by omega
            have hjd2 : decide (T.length ≤ j) = false := by simpa using hjl
            have HPP : Hid _ := hP
            have HJJ : Hid _ := hj
            have HSS : Hid _ := hS
            have HXX : Hid _ := hX
            have HRR0 : Hid _ := hRR
            have HKB : Hid _ := hKb
            have HDB : Hid _ := hdb
            have HRB : Hid _ := hrb
            have HFX : Hid _ := hfx
            have HBQ : Hid _ := bq
            have HBN : Hid _ := bn
            have HB : Hid _ := hb
            have HDA : Hid _ := hda
            have HRA : Hid _ := hra
            have HMM : Hid _ := hm
            have HB02 : Hid _ := hb02
            have HS2 : Hid _ := hs2
            have HNB2 : Hid _ := hnb2
            have HB2 : Hid _ := hb2
            have HNN : Hid _ := hnn
            have HBNN : Hid _ := hbn
            have HBX : Hid _ := hbx
            have HTN : Hid _ := hTn
            have HQC : Hid _ := hqc
            have HGL : Hid _ := hgl
            have HT0 : Hid _ := hT0
            have HNE : Hid _ := hne
            have HJL : Hid _ := hjl
            clear hP hj hS hX hRR hKb hdb hrb hfx bq bn hb hda hra hm hb02 hs2 hnb2 hb2 hnn hbn hbx hTn hqc hgl hT0 hne hjl hf hn hil hi2 hTi h01 hP0
            refine wpIn_quiet_round rfl (by kernel_rfl) (by kernel_rfl) (by kernel_rfl) ?_
            repeat (gi_big_quiet_step (fail))
            refine wpQuietIn_nil ?_
            intro _ hw'
            obtain ⟨nq, hw''⟩ := hw'
            subst hw''
            have hP := HPP.out
            have hj := HJJ.out
            have hS : Stt l hd k T' F ((T.map (fun t => t.c)).drop (j + 1)) W := HSS.out
            have hX := HXX.out
            have hRR := HRR0.out
            have hKb := HKB.out
            have hdb := HDB.out
            have hrb := HRB.out
            have hfx := HFX.out
            have bq := HBQ.out
            have bn := HBN.out
            have hb := HB.out
            have hda := HDA.out
            have hra := HRA.out
            have hm := HMM.out
            have hb02 := HB02.out
            have hs2 := HS2.out
            have hnb2 := HNB2.out
            have hb2 := HB2.out
            have hnn := HNN.out
            have hbn := HBNN.out
            have hbx := HBX.out
            have hTn := HTN.out
            have hqc := HQC.out
            have hgl := HGL.out
            have hT0 := HT0.out
            have hne := HNE.out
            have hjl := HJL.out
            clear g0 g1 g2 g3 g4 d0 d1 d2 d3 d4 hjd heq cbb cn hmx
            have bnc : (Wb.drewN nq).heap[wr.heap.size]? = _ := bn
            have hrc : (Wb.drewN nq).heap[w2.heap.size + 1]? = _ := hrb
            have hKc : Kp W (Wb.drewN nq) (fun i => i = w2.heap.size + 1) := ⟨hKb.os, hKb.tape, hKb.output, hKb.size, hKb.block⟩
            clear bq bn hrb hKb hdb hfx
            generalize Wb.drewN nq = Wc at *
            have hUn : ∀ i, Un F X i → i < W.heap.size ∧ ¬ (i = w2.heap.size + 1 ∨ i = wr.heap.size) := fun i hi => by
              refine ⟨?_, ?_⟩
              · rcases hi with hi | hi
                · obtain ⟨_, _, _, _, _, hSS⟩ := hS
                  exact hSS.lt i hi
                · exact (hX i hi).1
              · rintro (rfl | rfl)
                · exact hj.nl hi
                · exact hj.nbf hi
            have fin : ∀ LR : Loop, Stt l hd k T' F ((T.map (fun t => t.c)).drop (j + 1)) ((Wc.setCell ⟨wr.heap.size, 0, none⟩ (.int .i64 ((j : Int) + 1))).putObj (w2.heap.size + 1) (.loop LR)) ∧ TK wr l hd T v wr.heap.size w2.heap.size LR (j + 1) T' (Un F X) ((Wc.setCell ⟨wr.heap.size, 0, none⟩ (.int .i64 ((j : Int) + 1))).putObj (w2.heap.size + 1) (.loop LR)) ∧ (∀ i, X i → ¬ F i ∧ ((Wc.setCell ⟨wr.heap.size, 0, none⟩ (.int .i64 ((j : Int) + 1))).putObj (w2.heap.size + 1) (.loop LR)).heap[i]? = W.heap[i]?) := by
              intro LR
              have hKd : Kp W Wc (fun i => i = w2.heap.size + 1 ∨ i = wr.heap.size) := hKc.mono fun i hi => Or.inl (Or.inl hi)
              have hK5 : Kp W ((Wc.setCell ⟨wr.heap.size, 0, none⟩ (.int .i64 ((j : Int) + 1))).putObj (w2.heap.size + 1) (.loop LR)) (fun i => i = w2.heap.size + 1 ∨ i = wr.heap.size) := (hKd.setCell _ (Or.inl (Or.inr rfl))).put _ (Or.inl (Or.inl rfl))
              refine ⟨hS.kept hK5.size fun i hi => hK5.block i (hUn i (Or.inl hi)).1 (hUn i (Or.inl hi)).2, ⟨hj.eT, hj.kp.trans hK5 (fun i hi => Or.inr (by omega)), hj.fo, World.putObj_heap_same ?_, (hK5.block _ (blk_lt hj.df) (by omega)).trans hj.df, hj.nl, hj.nd, hj.nbf, ?_⟩, fun i hi => ⟨(hX i hi).2, hK5.block i (hUn i (Or.inr hi)).1 (hUn i (Or.inr hi)).2⟩⟩
              · exact blk_lt ((heap_set_other (w := Wc) (b := wr.heap.size) (o := 0) (.int .i64 ((j : Int) + 1)) (by omega)).trans hrc)
              · rw [World.putObj_heap_other (by omega), heap_set_same bnc]
                rfl
            have FIN : Hid _ := fin
            have hrd : (Wc.setCell ⟨wr.heap.size, 0, none⟩ (.int .i64 ((j : Int) + 1))).heap[w2.heap.size + 1]? = some (.loop { RR with state := .busy }) := (heap_set_other _ (by omega)).trans hrc
            have cn : Wc.cell? ⟨wr.heap.size, 0, none⟩ = some (.int .i64 (j : Int)) := (cells_block bnc).1 0
            have fn : Wc.frozen? ⟨wr.heap.size, 0, none⟩ = false := (cells_block bnc).2 0
            have e5 : ({ state := if (none : Option Code).isNone = true then LoopState.ready else LoopState.done, pending := none, fn := RR.fn, tmps := RR.tmps, params := RR.params, assign := RR.assign, body := RR.body, defers := RR.defers } : Loop) = RR := by
              have e1 := hRR.s
              have e2 := hRR.e
              cases RR
              simp_all
            have hjn : ¬ T.length ≤ j := by omega
            have hwp : wrap64 ((j : Int) + 1) = (j : Int) + 1 := by unfold wrap64; omega
            have HE5 : Hid _ := e5
            have HRD : Hid _ := hrd
            have HHR : Hid _ := hRR
            clear fin hUn hS hX hKc bnc hrc hrd e5 hb hda hra hj hne hgl hm hjz hRR hjl hqc hT0 hP hTn hb02 hs2 hnb2 hb2 hnn hbn HNS hbx HC HPP HJJ HSS HXX HRR0 HKB HDB HRB HFX HBQ HBN HB HDA HRA HMM HB02 HS2 HNB2 HB2 HNN HBNN HBX HTN HQC HGL HT0 HNE HJL
            gi_wp2
            refine ⟨_, _, run_endRound (r := { RR with state := .busy }) none HRD.out, ?_⟩
            show RP _ (World.putObj _ _ (Obj.loop _))
            rw [HE5.out]
            obtain ⟨y1, y2, y3⟩ := FIN.out RR
            refine hY.out _ y1 ?_ y3
            rw [HJ.out]
            exact y2
          exact key _ (fun W' h1 h2 h3 => Or.inl ⟨rfl, T', F, h1, h2, h3⟩)

end Go.Proofs.Ytijfmgpipnhkkaa
