/-
  Decode once more, with the blocks that its answer lies in: new ones.
  Save, Load, and a loss of power, on the law's disk.
  The law ManifestLasts: its arguments, and what it keeps.
-/
import Derived.Test.YtnfnlfdplnekgaaDoorGVSam
import Derived.Test.YtnfnlfdplnekgaaDoorVSt
import Derived.Test.YtnfnlfdplnekgaaDoorGVWks
namespace Go.Proofs.YtnfnlfdplnekgaaDoor
open Go.RowKit Go.BigFrame Go.Sort
attribute [local go_sem] size_bstr toList_bstr ls_def

set_option maxHeartbeats 4000000 in
set_option maxRecDepth 100000 in
theorem Decode_own (next log : Nat) (lv : List (List Fi)) (w : World) (hS : OkS next log lv) (hT : Tabs w) :
    Calls Tryd.prog 20 #[.string (bstr (frm (stB next log lv)))] w fun e w' => ∃ v vs, e = .returned (.tuple #[.agg #[.int .u64 (next : Int), .int .u64 (log : Int), v], .int .i64 0]) ∧ (∀ W : World, (∀ i, w.heap.size < i → i < w'.heap.size → W.heap[i]? = w'.heap[i]?) → LArg W v vs lv) ∧ Below w.heap.size w w' := by
  have hst := stB_len hS
  have hfl := frm_length (stB next log lv)
  obtain ⟨w0, hw0⟩ : ∃ w0, w0 = w.alloc (.cells #[.int .u64 0, .int .u64 0, .slice none 0 0] 28) := ⟨_, rfl⟩
  have hb0 : Below w.heap.size w w0 := by rw [hw0]; exact (Below.refl _ _).alloc (Nat.le_refl _) _
  have y0 : w0.heap[w.heap.size]? = some (.cells #[.int .u64 0, .int .u64 0, .slice none 0 0] 28 (0, 0)) := by rw [hw0]; exact heap_alloc_new w _
  have hop := Open_some (frm (stB next log lv)) (stB next log lv) w0 (by omega) (Tabs.below (w := w) hT hb0) (by have := opn_frm (b := stB next log lv) (by omega) []; rwa [List.append_nil] at this)
  have HW0 : Hid _ := hw0
  clear hw0
  go_enter Tryd.func20, Tryd.ntmps20
  go_wp2_with fail
  rw [← HW0.out]
  refine hop.mono ?_
  rintro e w1 ⟨rfl, hb1⟩
  have HS : Hid _ := hS
  have hszz : ¬ ((8 + ((stB next log lv).length : Int)) < ((frm (stB next log lv)).length : Int)) := by omega
  generalize hfB : frm (stB next log lv) = fB at *
  generalize hsB : stB next log lv = sB at *
  have y1 := (hb1.block _ (blk_lt y0)).trans y0
  have hb01 := below2 hb0 hb1
  have HSB : Hid _ := hsB
  clear hop hb1 y0 hfB hsB hS hb0
  go_wp2_with fail
  refine (New_any (bstr sB) w1).mono ?_
  rintro e w2 ⟨rfl, hR2, hb2⟩
  rw [← HSB.out] at hR2
  have htk := take_ok w1.heap.size next log lv w2 hR2 HS.out
  have y2 := (hb2.block _ (blk_lt y1)).trans y1
  have hb02 := below2 hb01 hb2
  have z1 := blk_lt y1
  clear hR2
  go_wp2_with fail
  refine htk.mono ?_
  rintro e w3 ⟨v, vs, rfl, hLW, hg3⟩
  have hL3 := hLW w3 (fun i _ _ => rfl)
  have hs3 := hg3.size
  have HS02 : Hid (w.heap.size < w2.heap.size) := blk_lt y2
  have hs2 := blk_lt y2
  have y3 := (hg3.block _ (blk_lt y2) (fun e => by have := Option.some.inj e; omega)).trans y2
  have hb03 : Below w.heap.size w w3 := hb02.grown hg3 hb02.size (fun k hk => by cases hk; omega)
  obtain ⟨q, cap, rfl, hc, _⟩ := id hL3.sl
  have hb4 : Below w3.heap.size w3 (w3.alloc (.cells #[.int .u64 (next : Int), .int .u64 (log : Int), .slice q lv.length cap] 28)) := (Below.refl _ _).alloc (Nat.le_refl _) _
  have x4 := heap_alloc_new w3 (.cells #[.int .u64 (next : Int), .int .u64 (log : Int), .slice q lv.length cap] 28)
  have hck := Check_ok (.slice q lv.length cap) vs next log lv (w3.alloc (.cells #[.int .u64 (next : Int), .int .u64 (log : Int), .slice q lv.length cap] 28)) (hL3.below hb4) HS.out
  have y4 := (hb4.block _ (blk_lt y3)).trans y3
  have hL4 := hL3.below hb4
  have HB34 : Hid (w3.heap.size ≤ (w3.alloc (.cells #[.int .u64 (next : Int), .int .u64 (log : Int), .slice q lv.length cap] 28)).heap.size ∧ ∀ i, i < w3.heap.size → (w3.alloc (.cells #[.int .u64 (next : Int), .int .u64 (log : Int), .slice q lv.length cap] 28)).heap[i]? = w3.heap[i]?) := ⟨hb4.size, fun i hi => hb4.block i hi⟩
  have hb04 := below2 hb03 hb4
  clear htk hb01 hb02 hb03 hb2 hg3 y1 y2 y3 hL3 hb4
  go_wp2_with fail
  generalize w3.alloc (.cells #[.int .u64 (next : Int), .int .u64 (log : Int), .slice q lv.length cap] 28) = w4 at *
  refine hck.mono ?_
  rintro e w5 ⟨rfl, hb5⟩
  have y5 := (hb5.block _ (blk_lt y4)).trans y4
  have x5 := (hb5.block _ (blk_lt x4)).trans x4
  have hL5 := hL4.below hb5
  have hb05 := below2 hb04 hb5
  have HK5 : Hid (∀ i, i < w3.heap.size → w5.heap[i]? = w3.heap[i]?) := fun i hi => (hb5.block i (Nat.lt_of_lt_of_le hi HB34.out.1)).trans (HB34.out.2 i hi)
  have HLW : Hid _ := hLW
  have HSZ5 : Hid (w3.heap.size ≤ w5.heap.size) := Nat.le_trans HB34.out.1 hb5.size
  clear hck y4 x4 hL4 hb04 hb5 hLW
  obtain ⟨p0, p1, p2⟩ : w5.cell? ⟨w3.heap.size, 0, none⟩ = some (.int .u64 (next : Int)) ∧ w5.cell? ⟨w3.heap.size, 1, none⟩ = some (.int .u64 (log : Int)) ∧ w5.cell? ⟨w3.heap.size, 2, none⟩ = some (.slice q lv.length cap) := ⟨(vcb x5).1 0, (vcb x5).1 1, (vcb x5).1 2⟩
  obtain ⟨q0, q1, q2⟩ : w5.cell? ⟨w.heap.size, 0, none⟩ = some (.int .u64 0) ∧ w5.cell? ⟨w.heap.size, 1, none⟩ = some (.int .u64 0) ∧ w5.cell? ⟨w.heap.size, 2, none⟩ = some (.slice none 0 0) := ⟨(vcb y5).1 0, (vcb y5).1 1, (vcb y5).1 2⟩
  obtain ⟨f0, f1, f2⟩ : w5.frozen? ⟨w.heap.size, 0, none⟩ = false ∧ w5.frozen? ⟨w.heap.size, 1, none⟩ = false ∧ w5.frozen? ⟨w.heap.size, 2, none⟩ = false := ⟨(vcb y5).2 0, (vcb y5).2 1, (vcb y5).2 2⟩
  have h1 := heap_set_same y5 (o := 0) (.int .u64 (next : Int))
  have h2 := heap_set_same h1 (o := 1) (.int .u64 (log : Int))
  have h3 := heap_set_same h2 (o := 2) (.slice q lv.length cap)
  have hbf : Below w.heap.size w (((w5.setCell ⟨w.heap.size, 0, none⟩ (.int .u64 (next : Int))).setCell ⟨w.heap.size, 1, none⟩ (.int .u64 (log : Int))).setCell ⟨w.heap.size, 2, none⟩ (.slice q lv.length cap)) := below_setv (below_setv (below_setv hb05 (Nat.le_refl _) _) (Nat.le_refl _) _) (Nat.le_refl _) _
  have hLf : ∀ W : World, (∀ i, w.heap.size < i → i < ((((w5.setCell ⟨w.heap.size, 0, none⟩ (.int .u64 (next : Int))).setCell ⟨w.heap.size, 1, none⟩ (.int .u64 (log : Int))).setCell ⟨w.heap.size, 2, none⟩ (.slice q lv.length cap))).heap.size → W.heap[i]? = ((((w5.setCell ⟨w.heap.size, 0, none⟩ (.int .u64 (next : Int))).setCell ⟨w.heap.size, 1, none⟩ (.int .u64 (log : Int))).setCell ⟨w.heap.size, 2, none⟩ (.slice q lv.length cap))).heap[i]?) → LArg W (.slice q lv.length cap) vs lv := fun W hW => HLW.out W (fun i h1 h2 => (hW i (by have := HS02.out; omega) (by have := HSZ5.out; simp only [World.size_setCell]; omega)).trans ((heap_set_other _ (by have := HS02.out; omega)).trans ((heap_set_other _ (by have := HS02.out; omega)).trans ((heap_set_other _ (by have := HS02.out; omega)).trans (HK5.out i h2)))))
  have r0 : (((w5.setCell ⟨w.heap.size, 0, none⟩ (.int .u64 (next : Int))).setCell ⟨w.heap.size, 1, none⟩ (.int .u64 (log : Int))).setCell ⟨w.heap.size, 2, none⟩ (.slice q lv.length cap)).cell? ⟨w.heap.size, 0, none⟩ = some (.int .u64 (next : Int)) := (vcb h3).1 0
  have r1 : (((w5.setCell ⟨w.heap.size, 0, none⟩ (.int .u64 (next : Int))).setCell ⟨w.heap.size, 1, none⟩ (.int .u64 (log : Int))).setCell ⟨w.heap.size, 2, none⟩ (.slice q lv.length cap)).cell? ⟨w.heap.size, 1, none⟩ = some (.int .u64 (log : Int)) := (vcb h3).1 1
  have r2 : (((w5.setCell ⟨w.heap.size, 0, none⟩ (.int .u64 (next : Int))).setCell ⟨w.heap.size, 1, none⟩ (.int .u64 (log : Int))).setCell ⟨w.heap.size, 2, none⟩ (.slice q lv.length cap)).cell? ⟨w.heap.size, 2, none⟩ = some (.slice q lv.length cap) := (vcb h3).1 2
  have HR0 : Hid _ := r0
  have HR1 : Hid _ := r1
  have HR2 : Hid _ := r2
  have HLF : Hid _ := hLf
  have HBF : Hid _ := hbf
  clear r0 r1 r2 hLf hbf h1 h2 h3 y5 x5 hL5 hb05
  go_wp2
  have r0 := HR0.out
  have r1 := HR1.out
  have r2 := HR2.out
  generalize (((w5.setCell ⟨w.heap.size, 0, none⟩ (.int .u64 (next : Int))).setCell ⟨w.heap.size, 1, none⟩ (.int .u64 (log : Int))).setCell ⟨w.heap.size, 2, none⟩ (.slice q lv.length cap)) = W9 at *
  exact bodyPost_ret (v := .tuple #[.agg #[.int .u64 (next : Int), .int .u64 (log : Int), .slice q lv.length cap], .int .i64 0]) (by rw [vres2 Tryd.results20]; simp [go_sem, r0, r1, r2]) rfl ⟨_, _, rfl, HLF.out, HBF.out⟩

end Go.Proofs.YtnfnlfdplnekgaaDoor

namespace Go.Proofs.YtnfnlfdplnekgaaDoor
open Go.RowKit Go.BigFrame Go.Sort
attribute [local go_sem] size_bstr toList_bstr append_bstr ls_def

set_option maxHeartbeats 1000000 in
theorem isNone_any {w : World} {B d m R N : Nat} {o : Option (List UInt8)} (h : MDk w B d m o R N) :
    Calls Tryd.prog 12 #[.pointer (some ⟨d, 0, none⟩)] w fun e w' => e = .returned (.bool false) ∧ w' = w := by
  obtain ⟨L, fr, hD, _, hO, _⟩ := h.ex
  have hr := Ds.Read_any [] w hD (by decide)
  rw [hO.lkN.2] at hr
  have hE3 : (⟨#[]⟩ : ByteArray) = bstr [] := rfl
  go_enter Tryd.func12, Tryd.ntmps12
  go_wp2_with fail
  refine hr.mono ?_
  rintro e w1 ⟨rfl, rfl⟩
  go_wp2
  go_ret
  exact ⟨rfl, rfl⟩

set_option maxHeartbeats 4000000 in
set_option maxRecDepth 100000 in
theorem Save_any {w : World} {B d m R N : Nat} {o : Option (List UInt8)} (v : Value) (vs : List Value) (next log : Nat) (lv : List (List Fi)) (hL : LArg w v vs lv) (hS : OkS next log lv) (hT : Tabs w) (h : MDk w B d m o R N) (hB : B ≤ w.heap.size) (hR : R ≤ 9223372036854775807) (hN : N < 1000000) :
    Calls Tryd.prog 6 #[.pointer (some ⟨d, 0, none⟩), .string (bstr nM), .agg #[.int .u64 (next : Int), .int .u64 (log : Int), v]] w fun e w' => ∃ o', ((e = .returned (.int .i64 0) ∧ o' = some (frm (stB next log lv))) ∨ (e = .returned (.int .i64 7) ∧ o' = o)) ∧ MDk w' B d m o' R (N + 2) ∧ Lft w w' B := by
  obtain ⟨q, cap, hv, _, _⟩ := id hL.sl
  subst hv
  have hst := stB_len hS
  have hfl := frm_length (stB next log lv)
  obtain ⟨w1, hw1⟩ : ∃ w1, w1 = w.alloc (.cells #[.int .u64 (next : Int), .int .u64 (log : Int), .slice q lv.length cap] 28) := ⟨_, rfl⟩
  have hb1 : Below w.heap.size w w1 := by rw [hw1]; exact (Below.refl _ _).alloc (Nat.le_refl _) _
  have x0 : w1.heap[w.heap.size]? = some (.cells #[.int .u64 (next : Int), .int .u64 (log : Int), .slice q lv.length cap] 28 (0, 0)) := by rw [hw1]; exact heap_alloc_new w _
  have a0 : w1.cell? ⟨w.heap.size, 0, none⟩ = some (.int .u64 (next : Int)) := (vcb x0).1 0
  have a1 : w1.cell? ⟨w.heap.size, 1, none⟩ = some (.int .u64 (log : Int)) := (vcb x0).1 1
  have a2 : w1.cell? ⟨w.heap.size, 2, none⟩ = some (.slice q lv.length cap) := (vcb x0).1 2
  have henc := Encode_ok (.slice q lv.length cap) vs next log lv w1 (hL.below hb1) hS (hT.below hb1)
  have HW1 : Hid _ := hw1
  obtain ⟨t, ht⟩ : ∃ t, t = frm (stB next log lv) := ⟨_, rfl⟩
  rw [← ht] at henc hfl ⊢
  clear hw1 x0 ht hS hL
  have hE3 : (⟨#[]⟩ : ByteArray) = bstr [] := rfl
  have hE1 : (⟨#[109]⟩ : ByteArray) = bstr [109] := rfl
  have hE2 : (⟨#[46, 110, 101, 119]⟩ : ByteArray) = bstr [46, 110, 101, 119] := rfl
  go_enter Tryd.func6, Tryd.ntmps6
  go_wp2_with fail
  rw [← HW1.out]
  refine henc.mono ?_
  rintro e w2 ⟨rfl, hb2⟩
  have hb12 := below2 hb1 hb2
  have hM2 := h.below hb12
  clear henc HW1 a0 a1 a2 hb1 hb2
  go_wp2_with fail
  refine (isNone_any hM2).mono ?_
  rintro e w3 ⟨rfl, rfl⟩
  obtain ⟨L, fr, hD, hfr, hO, hft⟩ := hM2.ex
  have hB3 : B ≤ w3.heap.size := Nat.le_trans hB hb12.size
  have hrem := Ds.Remove_any nN w3 hD (by decide) (by omega)
  rw [hO.lkN.1, Ds.wto_none hO.lkN.1] at hrem
  have hlf := Lft.of hb12 hB
  clear hM2
  go_wp2_with fail
  refine hrem.mono ?_
  rintro e w4 ⟨rfl, hs4⟩
  have hs4 : Ds.Stp w3 w4 d m L L fr N := hs4
  have hf4 := ft_of_stp hs4 hft hB3
  have hlf4 := hlf.trans (Lft.of_stp hD hs4 hft hB3)
  have hB4 : B ≤ w4.heap.size := Nat.le_trans hB3 hs4.kp.size
  have hD4 := hs4.dk
  clear hrem hs4
  have hE4 : (5 : Int) = Ds.fc none := rfl
  by_cases hroom : fr < t.length
  · have hap := Ds.Append_full nN t w4 hD4 (by decide) (by omega)
    go_wp2_with fail
    refine hap.mono ?_
    rintro e w5 ⟨rfl, rfl⟩
    go_wp2
    go_ret
    exact ⟨o, .inr ⟨rfl, rfl⟩, ⟨L, fr, hD4.mono (by omega), hfr, hO, hf4⟩, hlf4⟩
  · have hap := Ds.Append_new nN t w4 hD4 hO.lkN.1 (by decide) (by omega) (by omega) (by omega) (by unfold maxLen; omega)
    go_wp2_with fail
    refine hap.mono ?_
    rintro e w5 ⟨rfl, v5, hs5⟩
    obtain ⟨p1, p2, p3, p4, p5, p6, p7⟩ := hO.spare t w4.heap.size v5
    have hf5 := ft_of_stp hs5 hf4 hB4
    have hlf5 := hlf4.trans (Lft.of_stp hD4 hs5 hf4 hB4)
    have hB5 : B ≤ w5.heap.size := Nat.le_trans hB4 hs5.kp.size
    have hsy := Ds.Sync_any nN w5 hs5.dk (by decide)
    rw [p1, p2] at hsy
    have hsy : Calls Tryd.prog 15 #[.pointer (some ⟨d, 0, none⟩), .string (bstr nN)] w5 fun e w' => e = .returned (.int .i64 0) ∧ Ds.Stp w5 w' d m (Ds.wth ⟨nN, t, 0, w4.heap.size, v5⟩ L) (Ds.wth ⟨nN, t, t.length, w4.heap.size, v5⟩ L) (fr - t.length) (N + 1) := hsy
    clear hap hD4
    go_wp2_with fail
    refine hsy.mono ?_
    rintro e w6 ⟨rfl, hs6⟩
    have hf6 := ft_of_stp hs6 hf5 hB5
    have hlf6 := hlf5.trans (Lft.of_stp hs5.dk hs6 hf5 hB5)
    have hB6 : B ≤ w6.heap.size := Nat.le_trans hB5 hs6.kp.size
    have hre := Ds.Rename_ok nN nM w6 hs6.dk (by decide) p3 (by decide) (by decide) (by rw [p6]; rw [p7] at hfr; omega) (by unfold maxLen; omega)
    simp only [p4, p5] at hre
    have HT : Hid _ := And.intro p6 p7
    clear hsy p1 p2 p3 p4 p5 p6 p7
    go_wp2_with fail
    refine hre.mono ?_
    rintro e w7 ⟨rfl, hs7⟩
    have hf7 := ft_of_stp hs7 hf6 hB6
    have hlf7 := hlf6.trans (Lft.of_stp hs6.dk hs7 hf6 hB6)
    have hfin : fr - t.length + (o.getD []).length + t.length = R := by
      have := HT.out.2
      omega
    go_wp2
    go_ret
    exact ⟨some t, .inl ⟨rfl, rfl⟩, ⟨_, _, hs7.dk, by simpa [Ds.tot] using hfin, ⟨_, _, rfl⟩, hf7⟩, hlf7⟩

set_option maxHeartbeats 1000000 in
theorem Load_none {w : World} {B d m R N : Nat} (h : MDk w B d m none R N) :
    Calls Tryd.prog 8 #[.pointer (some ⟨d, 0, none⟩), .string (bstr nM)] w fun e w' => e = .returned (.tuple #[.agg #[.int .u64 0, .int .u64 0, .slice none 0 0], .int .i64 5]) ∧ Below w.heap.size w w' := by
  obtain ⟨w1, hw1⟩ : ∃ w1, w1 = w.alloc (.cells #[.int .u64 0, .int .u64 0, .slice none 0 0] 28) := ⟨_, rfl⟩
  have hb1 : Below w.heap.size w w1 := by rw [hw1]; exact (Below.refl _ _).alloc (Nat.le_refl _) _
  have x0 : w1.heap[w.heap.size]? = some (.cells #[.int .u64 0, .int .u64 0, .slice none 0 0] 28 (0, 0)) := by rw [hw1]; exact heap_alloc_new w _
  obtain ⟨L, fr, hD, _, hO, _⟩ := (h.below hb1).ex
  have hr := Ds.Read_any nM w1 hD (by decide)
  rw [hO.rd.1, hO.rd.2] at hr
  have hr : Calls Tryd.prog 19 #[.pointer (some ⟨d, 0, none⟩), .string (bstr nM)] w1 fun e w' => e = .returned (.tuple #[.string (bstr []), .int .i64 5]) ∧ w' = w1 := hr
  have HW1 : Hid _ := hw1
  clear hw1
  have hE3 : (⟨#[]⟩ : ByteArray) = bstr [] := rfl
  have y0 : w1.cell? ⟨w.heap.size, 0, none⟩ = some (.int .u64 0) := (vcb x0).1 0
  have y1 : w1.cell? ⟨w.heap.size, 1, none⟩ = some (.int .u64 0) := (vcb x0).1 1
  have y2 : w1.cell? ⟨w.heap.size, 2, none⟩ = some (.slice none 0 0) := (vcb x0).1 2
  have f0 := (vcb x0).2 0
  have f1 := (vcb x0).2 1
  have f2 := (vcb x0).2 2
  have h1 := heap_set_same x0 (o := 0) (.int .u64 0)
  have h2 := heap_set_same h1 (o := 1) (.int .u64 0)
  have h3 := heap_set_same h2 (o := 2) (Value.slice none 0 0)
  have HB : Hid _ := below_setv (below_setv (below_setv hb1 (Nat.le_refl _) (o := 0) (.int .u64 0)) (Nat.le_refl _) (o := 1) (.int .u64 0)) (Nat.le_refl _) (o := 2) (Value.slice none 0 0)
  have HR : Hid _ := And.intro ((vcb h3).1 0) (And.intro ((vcb h3).1 1) ((vcb h3).1 2))
  clear x0 h1 h2 h3
  go_enter Tryd.func8, Tryd.ntmps8
  go_wp2_with fail
  rw [← HW1.out]
  refine hr.mono ?_
  rintro e w2 ⟨rfl, rfl⟩
  clear HW1 hr
  go_wp2
  obtain ⟨r0, r1, r2⟩ := HR.out
  exact bodyPost_ret (v := .tuple #[.agg #[.int .u64 0, .int .u64 0, .slice none 0 0], .int .i64 5]) (by rw [vres2 Tryd.results8]; simp [go_sem, r0, r1, r2]) rfl ⟨rfl, HB.out⟩

set_option maxHeartbeats 2000000 in
set_option maxRecDepth 100000 in
theorem Load_some {w : World} {B d m R N : Nat} (next log : Nat) (lv : List (List Fi)) (hS : OkS next log lv) (hT : Tabs w) (h : MDk w B d m (some (frm (stB next log lv))) R N) :
    Calls Tryd.prog 8 #[.pointer (some ⟨d, 0, none⟩), .string (bstr nM)] w fun e w' => ∃ v vs, e = .returned (.tuple #[.agg #[.int .u64 (next : Int), .int .u64 (log : Int), v], .int .i64 0]) ∧ LArg w' v vs lv ∧ Below w.heap.size w w' := by
  obtain ⟨w1, hw1⟩ : ∃ w1, w1 = w.alloc (.cells #[.int .u64 0, .int .u64 0, .slice none 0 0] 28) := ⟨_, rfl⟩
  have hb1 : Below w.heap.size w w1 := by rw [hw1]; exact (Below.refl _ _).alloc (Nat.le_refl _) _
  have x0 : w1.heap[w.heap.size]? = some (.cells #[.int .u64 0, .int .u64 0, .slice none 0 0] 28 (0, 0)) := by rw [hw1]; exact heap_alloc_new w _
  obtain ⟨L, fr, hD, _, hO, _⟩ := (h.below hb1).ex
  have hr := Ds.Read_any nM w1 hD (by decide)
  rw [hO.rd.1, hO.rd.2] at hr
  have hr : Calls Tryd.prog 19 #[.pointer (some ⟨d, 0, none⟩), .string (bstr nM)] w1 fun e w' => e = .returned (.tuple #[.string (bstr (frm (stB next log lv))), .int .i64 0]) ∧ w' = w1 := hr
  have hde := Decode_own next log lv w1 hS (hT.below hb1)
  have HW1 : Hid _ := hw1
  clear hw1 hS hT
  generalize frm (stB next log lv) = t at *
  go_enter Tryd.func8, Tryd.ntmps8
  go_wp2_with fail
  rw [← HW1.out]
  refine hr.mono ?_
  rintro e w2 ⟨rfl, rfl⟩
  clear HW1 hr
  go_wp2_with fail
  refine hde.mono ?_
  rintro e w3 ⟨v, vs, rfl, hLW, hb3⟩
  have hL3 := hLW w3 (fun i _ _ => rfl)
  obtain ⟨q, cap, rfl, _, _⟩ := id hL3.sl
  have x3 := (hb3.block _ (lt_of_block x0)).trans x0
  have hb13 := below2 hb1 hb3
  have y0 : w3.cell? ⟨w.heap.size, 0, none⟩ = some (.int .u64 0) := (vcb x3).1 0
  have y1 : w3.cell? ⟨w.heap.size, 1, none⟩ = some (.int .u64 0) := (vcb x3).1 1
  have y2 : w3.cell? ⟨w.heap.size, 2, none⟩ = some (.slice none 0 0) := (vcb x3).1 2
  have f0 := (vcb x3).2 0
  have f1 := (vcb x3).2 1
  have f2 := (vcb x3).2 2
  have h1 := heap_set_same x3 (o := 0) (.int .u64 (next : Int))
  have h2 := heap_set_same h1 (o := 1) (.int .u64 (log : Int))
  have h3 := heap_set_same h2 (o := 2) (Value.slice q lv.length cap)
  have HB : Hid _ := below_setv (below_setv (below_setv hb13 (Nat.le_refl _) (o := 0) (.int .u64 (next : Int))) (Nat.le_refl _) (o := 1) (.int .u64 (log : Int))) (Nat.le_refl _) (o := 2) (Value.slice q lv.length cap)
  have HR : Hid _ := And.intro ((vcb h3).1 0) (And.intro ((vcb h3).1 1) ((vcb h3).1 2))
  have hlt := lt_of_block x0
  have HO : Hid (LArg (((w3.setCell ⟨w.heap.size, 0, none⟩ (.int .u64 (next : Int))).setCell ⟨w.heap.size, 1, none⟩ (.int .u64 (log : Int))).setCell ⟨w.heap.size, 2, none⟩ (Value.slice q lv.length cap)) (.slice q lv.length cap) vs lv) := hLW _ (fun i h1 h2 => (heap_set_other _ (by omega)).trans ((heap_set_other _ (by omega)).trans (heap_set_other _ (by omega))))
  clear x0 x3 h1 h2 h3 hb3 hb13 hL3 hde hLW hlt
  go_wp2
  obtain ⟨r0, r1, r2⟩ := HR.out
  refine bodyPost_ret (v := .tuple #[.agg #[.int .u64 (next : Int), .int .u64 (log : Int), .slice q lv.length cap], .int .i64 0]) (by rw [vres2 Tryd.results8]; simp [go_sem, r0, r1, r2]) rfl ⟨_, _, rfl, HO.out, HB.out⟩

/-- A loss of power leaves what is synced. -/
theorem Crash_one {w : World} {B d m R N : Nat} {o : Option (List UInt8)} (q : Option Addr) (cap : Nat) (ks : List Int) (h : MDk w B d m o R N) (hN : N ≤ 1000000) (hB : B ≤ w.heap.size) (hq : 0 < ks.length → ∃ b off, q = some ⟨b, off, none⟩ ∧ b < B ∧ ∀ i (h : i < ks.length), w.cell? ⟨b, off + i, none⟩ = some (.int .i64 ks[i])) (hR : R ≤ 9223372036854775807) (ho : (o.getD []).length ≤ 1000000000) :
    Calls Tryd.prog 7 #[.pointer (some ⟨d, 0, none⟩), .slice q ks.length cap] w fun e w' => e = .returned (.tuple #[]) ∧ MDk w' B d m o R N ∧ Lft w w' B := by
  obtain ⟨L, fr, hD, hfr, hO, hft⟩ := h.ex
  have ht := (hO.spare [] 0 (.slice none 0 0)).2.2.2.2.2.2
  refine (Ds.Crash_any q cap ks w hD (by omega) (fun h0 => ?_) (by omega) (by omega)).mono ?_
  · obtain ⟨b, off, e, hb, hc⟩ := hq h0
    exact ⟨b, off, e, by omega, fun hf => by have := hft b hf; omega, hc⟩
  · rintro e w' ⟨rfl, L', fr', hcr, hfr', hs⟩
    refine ⟨rfl, ⟨L', fr', hs.dk, by omega, ?_, ft_of_stp hs hft hB⟩, Lft.of_stp hD hs hft hB⟩
    cases o with
    | none =>
      have hO : L = [] := hO
      subst hO
      exact List.eq_nil_of_length_eq_zero hcr.len
    | some b =>
      obtain ⟨g, v, rfl⟩ := hO
      have hl : L'.length = 1 := hcr.len
      match L', hl, hcr with
      | [x], _, hcr =>
        obtain ⟨v', e⟩ := hcr.old 0 (by simp) (by simp)
        have e : x = Ds.crF (Ds.kAt ks 0) ⟨nM, b, b.length, g, v⟩ v' := e
        have hk : Ds.kn (Ds.kAt ks 0) (b.length - b.length) = 0 := by
          have := Ds.kn_le (Ds.kAt ks 0) (b.length - b.length)
          omega
        refine ⟨g, v', ?_⟩
        rw [e]
        unfold Ds.crF
        simp only [hk]
        simp

end Go.Proofs.YtnfnlfdplnekgaaDoor

namespace Go.Proofs.YtnfnlfdplnekgaaDoor
open Go.RowKit Go.BigFrame Go.Sort
attribute [local go_sem] size_bstr toList_bstr ls_def

/-- A save, as an argument. -/
structure SvV where
  lq : Option Addr
  lc : Nat
  xs : List Nat
  log : Nat
  kq : Option Addr
  kc : Nat
  ks : List Int
structure At3 (w : World) (b o : Nat) (x : SvV) : Prop where
  c0 : w.cell? ⟨b, o, none⟩ = some (.slice x.lq x.xs.length x.lc)
  c1 : w.cell? ⟨b, o + 1, none⟩ = some (.int .u32 (x.log : Int))
  c2 : w.cell? ⟨b, o + 2, none⟩ = some (.slice x.kq x.ks.length x.kc)
def SvRow (w : World) (b off : Nat) (l : List SvV) : Prop := ∀ i (h : i < l.length), At3 w b (off + i * 3) l[i]
structure SvOk (w : World) (x : SvV) : Prop where
  lv : 0 < x.xs.length → ∃ b off, x.lq = some ⟨b, off, none⟩ ∧ ByRow w b off x.xs ∧ b < w.heap.size
  u8 : ∀ y ∈ x.xs, y < 256
  lg : x.log < 4294967296
  kp : 0 < x.ks.length → ∃ b off, x.kq = some ⟨b, off, none⟩ ∧ b < w.heap.size ∧ ∀ i (h : i < x.ks.length), w.cell? ⟨b, off + i, none⟩ = some (.int .i64 x.ks[i])
  kl : x.ks.length ≤ x.kc
/-- A struct of files in a block. -/
def FsB (w : World) (b : Nat) (n g : Int) (v : Value) : Prop := w.heap[b]? = some (.cells #[.int .u64 n, .int .u64 g, v] 28 (0, 0))
theorem FsB.facts {w : World} {b : Nat} {n g : Int} {v : Value} (h : FsB w b n g v) : w.cell? ⟨b, 0, none⟩ = some (.int .u64 n) ∧ w.cell? ⟨b, 1, none⟩ = some (.int .u64 g) ∧ w.cell? ⟨b, 2, none⟩ = some v := ⟨(vcb h).1 0, (vcb h).1 1, (vcb h).1 2⟩
theorem FsB.frz {w : World} {b : Nat} {n g : Int} {v : Value} (h : FsB w b n g v) : ∀ i, w.frozen? ⟨b, i, none⟩ = false := (vcb h).2
theorem FsB.set {w : World} {b : Nat} {n g : Int} {v : Value} (h : FsB w b n g v) (n' g' : Int) (v' : Value) : FsB (((w.setCell ⟨b, 0, none⟩ (.int .u64 n')).setCell ⟨b, 1, none⟩ (.int .u64 g')).setCell ⟨b, 2, none⟩ v') b n' g' v' := by
  have h1 := heap_set_same h (o := 0) (.int .u64 n')
  have h2 := heap_set_same h1 (o := 1) (.int .u64 g')
  exact heap_set_same h2 (o := 2) v'
theorem FsB.left {w w' : World} {B b : Nat} {n g : Int} {v : Value} (h : FsB w b n g v) (hk : Lft w w' B) : FsB w' b n g v := (hk.ty b _ _ _ h (by decide)).trans h
theorem FsB.below {w w' : World} {B b : Nat} {n g : Int} {v : Value} (h : FsB w b n g v) (hb : Below B w w') (hB : b < B) : FsB w' b n g v := (hb.block b hB).trans h
/-- What was saved last. -/
def kOf (xs : List Nat) : Nat := min xs.length 7
def frF (xs : List Nat) (log : Nat) : List UInt8 := frm (stB (mdN xs (kOf xs)) (1 + log) (mdS xs (kOf xs)))
theorem frF_ok (xs : List Nat) (log : Nat) (hl : log < 4294967296) : OkS (mdN xs (kOf xs)) (1 + log) (mdS xs (kOf xs)) := mdS_ok xs (kOf xs) (Nat.min_le_right _ _) log hl
theorem frF_len (xs : List Nat) (log : Nat) (hl : log < 4294967296) : (frF xs log).length ≤ 1000000 := by
  have h1 := stB_len (frF_ok xs log hl)
  have h2 := frm_length (stB (mdN xs (kOf xs)) (1 + log) (mdS xs (kOf xs)))
  unfold frF
  omega
def LstF (w : World) (bl : Nat) (o : Option (List UInt8)) (sm : Bool) : Prop :=
  (sm = false ∧ o = none ∧ FsB w bl 0 0 (.slice none 0 0)) ∨
  (sm = true ∧ ∃ (xs : List Nat) (log B' : Nat) (v : Value) (vs : List Value), log < 4294967296 ∧ o = some (frF xs log) ∧ FsB w bl (mdN xs (kOf xs) : Int) (1 + log : Int) v ∧ Own2 w B' xs (kOf xs) v vs)
theorem LstF.left {w w' : World} {B bl : Nat} {o : Option (List UInt8)} {sm : Bool} (h : LstF w bl o sm) (hk : Lft w w' B) : LstF w' bl o sm := by
  rcases h with ⟨h1, h2, h3⟩ | ⟨h1, xs, log, B', v, vs, h2, h3, h4, h5⟩
  · exact .inl ⟨h1, h2, h3.left hk⟩
  · exact .inr ⟨h1, xs, log, B', v, vs, h2, h3, h4.left hk, h5.left hk⟩
theorem LstF.len {w : World} {bl : Nat} {o : Option (List UInt8)} {sm : Bool} (h : LstF w bl o sm) : (o.getD []).length ≤ 1000000000 := by
  rcases h with ⟨_, rfl, _⟩ | ⟨_, xs, log, _, _, _, h2, rfl, _⟩
  · simp
  · have := frF_len xs log h2
    simp only [Option.getD_some]
    omega
theorem LstF.lt {w : World} {bl : Nat} {o : Option (List UInt8)} {sm : Bool} (h : LstF w bl o sm) : bl < w.heap.size := by
  rcases h with ⟨_, _, h⟩ | ⟨_, _, _, _, _, _, _, _, h, _⟩ <;> exact lt_of_block h
theorem LstF.frz {w : World} {bl : Nat} {o : Option (List UInt8)} {sm : Bool} (h : LstF w bl o sm) : (∀ i, w.frozen? ⟨bl, i, none⟩ = false) ∧ ∃ n g v, FsB w bl n g v := by
  rcases h with ⟨_, _, h⟩ | ⟨_, _, _, _, _, _, _, _, h, _⟩ <;> exact ⟨h.frz, _, _, _, h⟩
theorem Tabs.left {w w' : World} {B : Nat} (h : Tabs w) (hk : Lft w w' B) (hB : 2 ≤ B) : Tabs w' := by
  have h2 := h.1
  refine ⟨Nat.le_trans h2 hk.bl.size, fun i hi => ?_, fun i hi => ?_⟩
  · rw [World.cell?_of_block (hk.bl.block 0 (by omega))]; exact h.2.1 i hi
  · rw [World.cell?_of_block (hk.bl.block 1 (by omega))]; exact h.2.2 i hi
theorem fzo1 {w wf : World} (h : Below (w.alloc (.cells #[.int .u64 0, .int .u64 0, .slice none 0 0] 28)).drew.heap.size (w.alloc (.cells #[.int .u64 0, .int .u64 0, .slice none 0 0] 28)).drew wf) : FsB wf w.heap.size 0 0 (.slice none 0 0) := (h.block _ (by show _ < (w.alloc _).heap.size; simp)).trans (heap_alloc_new w _)
theorem fzo2 {w wf : World} (h : Below (w.drew.alloc (.cells #[.int .u64 0, .int .u64 0, .slice none 0 0] 28)).heap.size (w.drew.alloc (.cells #[.int .u64 0, .int .u64 0, .slice none 0 0] 28)) wf) : FsB wf w.heap.size 0 0 (.slice none 0 0) := (h.block _ (by show _ < (w.drew.alloc _).heap.size; simp)).trans (heap_alloc_new w.drew _)
theorem fzo3 {w wf : World} (h : Below (w.alloc (.cells #[.int .u64 0, .int .u64 0, .slice none 0 0] 28)).heap.size (w.alloc (.cells #[.int .u64 0, .int .u64 0, .slice none 0 0] 28)) wf) : FsB wf w.heap.size 0 0 (.slice none 0 0) := (h.block _ (by simp)).trans (heap_alloc_new w _)
theorem cell_set3 {W : World} {n b o : Nat} {p q r : Value} (h : b ≠ n) : (((W.setCell ⟨n, 0, none⟩ p).setCell ⟨n, 1, none⟩ q).setCell ⟨n, 2, none⟩ r).cell? ⟨b, o, none⟩ = W.cell? ⟨b, o, none⟩ :=
  World.cell?_of_block ((heap_set_other _ h).trans ((heap_set_other _ h).trans (heap_set_other _ h)))
theorem kcV {w X wf : World} {b o : Nat} {v : Value} (h1 : Below w.heap.size w X) (h2 : Below X.heap.size X wf) (h : w.cell? ⟨b, o, none⟩ = some v) : wf.cell? ⟨b, o, none⟩ = some v := by
  have hb := World.block_lt_of_cell? w _ h
  rw [World.cell?_of_block ((h2.block b (Nat.lt_of_lt_of_le hb h1.size)).trans (h1.block b hb))]
  exact h
theorem Own2.sl {W : World} {B i : Nat} {xs : List Nat} {vS : Value} {vs : List Value} (h : Own2 W B xs i vS vs) : ∃ q n cap, vS = .slice q n cap := by
  rcases h.lv.2 with ⟨e, _⟩ | ⟨g, cap, cur, e, _⟩
  · exact ⟨_, _, _, e⟩
  · exact ⟨_, _, _, e⟩
theorem set3_other {w : World} {b j : Nat} {p q r : Value} (h : j ≠ b) : (((w.setCell ⟨b, 0, none⟩ p).setCell ⟨b, 1, none⟩ q).setCell ⟨b, 2, none⟩ r).heap[j]? = w.heap[j]? := (heap_set_other _ h).trans ((heap_set_other _ h).trans (heap_set_other _ h))
theorem Own2.set3 {w : World} {B i b : Nat} {xs : List Nat} {vS : Value} {vs : List Value} {n g : Int} {v p q r : Value} (h : Own2 w B xs i vS vs) (hf : FsB w b n g v) : Own2 (((w.setCell ⟨b, 0, none⟩ p).setCell ⟨b, 1, none⟩ q).setCell ⟨b, 2, none⟩ r) B xs i vS vs :=
  h.kept fun j cur t x hj ht => set3_other (fun e => by
    subst e
    have hf2 : w.heap[j]? = _ := hf
    rw [hf2] at hj
    cases hj
    rcases ht with h | h <;> exact absurd h (by decide))
theorem MDk.set3 {w : World} {B d m b R N : Nat} {o : Option (List UInt8)} {n g : Int} {v p q r : Value} (h : MDk w B d m o R N) (hf : FsB w b n g v) : MDk (((w.setCell ⟨b, 0, none⟩ p).setCell ⟨b, 1, none⟩ q).setCell ⟨b, 2, none⟩ r) B d m o R N := by
  obtain ⟨L, fr, hD, h2⟩ := h.ex
  exact ⟨L, fr, hD.kept (fun j hj => set3_other (fun e => by
    subst e
    exact hD.other hf (by decide) hj)), h2⟩
theorem belB {a b c : World} {B : Nat} (h : Below B a b) (k : Below b.heap.size b c) (hB : B ≤ b.heap.size) : Below B a c :=
  ⟨k.os.trans h.os, k.tape.trans h.tape, k.output.trans h.output, Nat.le_trans h.size k.size, fun j hj => (k.block j (by omega)).trans (h.block j hj)⟩
theorem belL {a b c : World} {B : Nat} (h : Below B a b) (k : Lft b c B) : Below B a c :=
  ⟨k.bl.os.trans h.os, k.bl.tape.trans h.tape, k.bl.output.trans h.output, Nat.le_trans h.size k.bl.size, fun j hj => (k.bl.block j hj).trans (h.block j hj)⟩

end Go.Proofs.YtnfnlfdplnekgaaDoor
