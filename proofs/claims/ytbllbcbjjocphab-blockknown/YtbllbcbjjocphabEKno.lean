/-
  BlockKnown, walked.
-/
import Derived.Test.YtbllbcbjjocphabEKnM
import Derived.Deep.CutBlock
namespace Go.Proofs.Ytbllbcbjjocphab
open Go.RowKit Go.BigFrame Go.Sort
attribute [local go_sem] size_bstr getElem_bstr toList_bstr ls_def

/-- 'string([]byte{z})'. -/
theorem econv_one (W : World) (z : Nat) (hz : z < 256) :
    (convert 31 9 (.slice (some ⟨W.heap.size, 0, none⟩) 1 1)).run Try.prog (W.alloc (.cells #[.int .u8 (z : Int)] 5)) = .ok (.string (bstr [z.toUInt8])) (W.alloc (.cells #[.int .u8 (z : Int)] 5)) := by
  have hown : (W.alloc (.cells #[.int .u8 (z : Int)] 5)).ownsRow W.heap.size 5 1 (.slice (some ⟨W.heap.size, 0, none⟩) 1 1) 1 (Lib.byteCells [z.toUInt8]) := by
    have h := World.ownsRow_lit (base := W.heap.size) (e := 5) (size := 1) W #[.int .u8 (z : Int)] 1 (Nat.le_refl _) (by decide) (by simp)
    have e : Lib.byteCells [z.toUInt8] = [.int .u8 (z : Int)] := by simp [Lib.byteCells, Nat.toUInt8]; omega
    rw [e]
    exact h
  exact run_convert_own hown Try.underlying31 Try.underlying5 Try.underlying9

theorem frz_of {W : World} {n : Nat} {cur : Array Value} {t : TypeId} (h : W.heap[n]? = some (.cells cur t (0, 0))) (o : Nat) : W.frozen? ⟨n, o, none⟩ = false := by simp [World.frozen?, h]
/-- Build of a list that lies in a block of its own. -/
theorem Build_lit (cs : List Cl) (bb : List UInt8) (ee : Int) (h1 : bldB cs = bb) (h2 : bldE cs = ee) (n : Nat) (hn : cs.length = n) (g cap : Nat) (W : World) (hR : CRow W g 0 cs) (hg : g < W.heap.size) (hs : n ≤ 1000) :
    Calls Try.prog 4 #[.slice (some ⟨g, 0, none⟩) n cap] W fun e w' => e = .returned (.tuple #[.string (bstr bb), .int .i64 ee]) ∧ RowKit.Below W.heap.size W w' := by
  subst hn h1 h2
  exact Build_any (some ⟨g, 0, none⟩) g 0 cap cs W (fun _ => ⟨rfl, hR, hg⟩) (by omega)
theorem Build_nil (W : World) : Calls Try.prog 4 #[.slice none 0 0] W fun e w' => e = .returned (.tuple #[.string (bstr [0, 0]), .int .i64 0]) ∧ RowKit.Below W.heap.size W w' := by
  have := Build_any none 0 0 0 [] W (fun h => by simp at h) (by simp)
  rw [kn0.1, kn0.2] at this
  exact this
theorem Read_00 (W : World) : Calls Try.prog 5 #[.string ⟨#[0, 0]⟩] W fun e w' => (∃ q c, e = .returned (.tuple #[.slice q 0 c, .int .i64 0])) ∧ RowKit.Below W.heap.size W w' :=
  (Read_any [0, 0] W (by decide)).mono (by
    rintro e w' ⟨hQ, hb⟩
    obtain ⟨L, q, c, rfl, hG, hL, _⟩ | ⟨_, hno⟩ := hQ
    · obtain rfl := hG.inj good0.1 (hL.trans good0.2.symm)
      exact ⟨⟨q, c, rfl⟩, hb⟩
    · exact absurd good0.2 (hno [] good0.1))
theorem Read_no (s : List UInt8) (h : ∀ L, Good L → blkB L ≠ s) (hs : s.length ≤ 100) (W : World) : Calls Try.prog 5 #[.string (bstr s)] W fun e w' => e = .returned (.tuple #[.slice none 0 0, .int .i64 4]) ∧ RowKit.Below W.heap.size W w' :=
  (Read_any s W (by omega)).mono (by
    rintro e w' ⟨hQ, hb⟩
    obtain ⟨L, q, c, rfl, hG, hL, _⟩ | ⟨rfl, _⟩ := hQ
    · exact absurd hL (h L hG)
    · exact ⟨rfl, hb⟩)

set_option maxHeartbeats 4000000 in
set_option maxRecDepth 100000 in
theorem Known_any (w : World) : Calls Try.prog 3 #[] w fun e w' => e = .returned (.bool true) ∧ RowKit.Below w.heap.size w w' := by
  go_enter Try.func3, Try.ntmps3
  go_wp2_with fail
  have hA : CellAt ((w.alloc (.cells #[.string ⟨#[97]⟩, .string ⟨#[120]⟩, .int .u64 1, .bool false, .string ⟨#[]⟩] 24)).alloc (.cells #[.string ⟨#[98]⟩, .string ⟨#[120]⟩, .int .u64 1, .bool false, .string ⟨#[]⟩] 24)) w.heap.size [97] [120] 1 false [] := (CellAt.new w 24 [97] [120] 1 false []).alloc _
  have hC : CellAt ((w.alloc (.cells #[.string ⟨#[97]⟩, .string ⟨#[120]⟩, .int .u64 1, .bool false, .string ⟨#[]⟩] 24)).alloc (.cells #[.string ⟨#[98]⟩, .string ⟨#[120]⟩, .int .u64 1, .bool false, .string ⟨#[]⟩] 24)) (w.heap.size + 1) [98] [120] 1 false [] := by
    have := CellAt.new (w.alloc (.cells #[.string ⟨#[97]⟩, .string ⟨#[120]⟩, .int .u64 1, .bool false, .string ⟨#[]⟩] 24)) 24 [98] [120] 1 false []
    rw [show (w.alloc (.cells #[.string ⟨#[97]⟩, .string ⟨#[120]⟩, .int .u64 1, .bool false, .string ⟨#[]⟩] 24)).heap.size = w.heap.size + 1 by simp] at this
    exact this
  have hB : RowKit.Below w.heap.size w ((w.alloc (.cells #[.string ⟨#[97]⟩, .string ⟨#[120]⟩, .int .u64 1, .bool false, .string ⟨#[]⟩] 24)).alloc (.cells #[.string ⟨#[98]⟩, .string ⟨#[120]⟩, .int .u64 1, .bool false, .string ⟨#[]⟩] 24)) := ((RowKit.Below.refl _ _).alloc (Nat.le_refl _) _).alloc (by simp) _
  generalize (w.alloc (.cells #[.string ⟨#[97]⟩, .string ⟨#[120]⟩, .int .u64 1, .bool false, .string ⟨#[]⟩] 24)).alloc (.cells #[.string ⟨#[98]⟩, .string ⟨#[120]⟩, .int .u64 1, .bool false, .string ⟨#[]⟩] 24) = w0 at *
  refine (Build_nil _).mono ?_
  rintro e w1 ⟨rfl, hb1⟩
  replace hA := hA.step hb1
  replace hC := hC.step hb1
  replace hB := below2 hB hb1
  clear hb1
  go_wp2_with fail
  refine (Read_00 _).mono ?_
  rintro e w2 ⟨⟨q2, c2', rfl⟩, hb2⟩
  replace hA := hA.step hb2
  replace hC := hC.step hb2
  replace hB := below2 hB hb2
  clear hb2
  obtain ⟨a0, a1, a2, a3, a4⟩ := id hA
  obtain ⟨b0, b1, b2, b3, b4⟩ := id hC
  go_wp2_with fail
  refine (Build_lit [kb, ka] [] 2 kn1.1 kn1.2 2 rfl _ _ _ (CRow.lit _ [kb, ka] _) (by simp) (by omega)).mono ?_
  rintro e w3 ⟨rfl, hb3⟩
  replace hA := (hA.alloc _).step hb3
  replace hC := (hC.alloc _).step hb3
  replace hB := below2 (hB.alloc hB.size _) hb3
  clear hb3 a0 a1 a2 a3 a4 b0 b1 b2 b3 b4 hC
  obtain ⟨a0, a1, a2, a3, a4⟩ := id hA
  go_wp2_with fail
  refine (Build_lit [ka, ka] [] 2 kn2.1 kn2.2 2 rfl _ _ _ (CRow.lit _ [ka, ka] _) (by simp) (by omega)).mono ?_
  rintro e w4 ⟨rfl, hb4⟩
  replace hB := below2 (hB.alloc hB.size _) hb4
  clear hb4 a0 a1 a2 a3 a4 hA
  go_wp2_with fail
  refine (Read_no [] kn3 (by simp) _).mono ?_
  rintro e w5 ⟨rfl, hb5⟩
  replace hB := below2 hB hb5
  clear hb5
  go_wp2_with fail
  refine (Read_no [0, 1] kn4 (by simp) _).mono ?_
  rintro e w6 ⟨rfl, hb6⟩
  replace hB := below2 hB hb6
  clear hb6
  go_wp2_with fail
  refine (Build_lit [kab] [0, 2, 97, 98, 1, 120, 1, 0, 1, 118, 0, 0, 0, 1] 0 kn5.1 kn5.2 1 rfl _ _ _ (CRow.lit _ [kab] _) (by simp) (by omega)).mono ?_
  rintro e w7 ⟨rfl, hb7⟩
  replace hB := below2 (hB.alloc hB.size _) hb7
  clear hb7
  have hmk : ∀ W : World, (Instr.makeSlice 31 (.int .i64 32754) (.int .i64 32754)).run Try.prog W = .ok (.slice (some ⟨W.heap.size, 0, none⟩) 32754 32754) (W.alloc (.cells (zs 32754) 5)) := fun W => make_run .i64 32754 (by omega) W
  have hcv := made_run 32754 (by omega)
  generalize zs 32754 = zz at *
  generalize hze : zeros 32754 = zr at *
  have hzl : zr.length = 32754 := by rw [← hze]; exact zeros_length _
  have hN8 : ∀ W : World, CellAt (W.alloc (.cells #[.string ⟨#[97]⟩, .string ⟨#[120]⟩, .int .u64 1, .bool false, .string (bstr zr)] 24)) W.heap.size [97] [120] 1 false zr := fun W => CellAt.new W 24 [97] [120] 1 false zr
  have hN := hN8 (w7.alloc (.cells zz 5))
  rw [show (w7.alloc (.cells zz 5)).heap.size = w7.heap.size + 1 by simp] at hN
  have hfz : ((w7.alloc (.cells zz 5)).alloc (.cells #[.string ⟨#[97]⟩, .string ⟨#[120]⟩, .int .u64 1, .bool false, .string (bstr zr)] 24)).frozen? ⟨w7.heap.size + 1, 4, none⟩ = false := by
    have := heap_alloc_new (w7.alloc (.cells zz 5)) (.cells #[.string ⟨#[97]⟩, .string ⟨#[120]⟩, .int .u64 1, .bool false, .string (bstr zr)] 24)
    rw [show (w7.alloc (.cells zz 5)).heap.size = w7.heap.size + 1 by simp] at this
    exact frz_of this 4
  have hnw0 : w.heap.size ≤ w7.heap.size + 1 := Nat.le_succ_of_le hB.size
  replace hB := (hB.alloc hB.size (.cells zz 5)).alloc (by have := hB.size; simp; omega) (.cells #[.string ⟨#[97]⟩, .string ⟨#[120]⟩, .int .u64 1, .bool false, .string (bstr zr)] 24)
  go_upto_region 11 with fail
  generalize (w7.alloc (.cells zz 5)).alloc (.cells #[.string ⟨#[97]⟩, .string ⟨#[120]⟩, .int .u64 1, .bool false, .string (bstr zr)] 24) = w8 at *
  clear hmk hcv hN8
  have hnw : w.heap.size ≤ w7.heap.size + 1 := hnw0
  generalize w7.heap.size + 1 = nw at *
  obtain ⟨bw, hbw⟩ : ∃ bw, bldB [kw zr] = bw := ⟨_, rfl⟩
  have hk6 := kn6
  have hk7 := kn7
  rw [hze] at hk6 hk7
  have hbl : bw.length = 32768 := by rw [← hbw]; exact hk6.2
  obtain ⟨a0, a1, a2, a3, a4⟩ := id hN
  go_wp2_with fail
  refine (Build_lit [kw zr] bw 0 hbw hk6.1 1 rfl _ _ _ (CRow.lit _ [kw zr] _) (by simp) (by omega)).mono ?_
  rintro e w9 ⟨rfl, hb9⟩
  have hal : RowKit.Below w8.heap.size w8 w9 := below2 ((RowKit.Below.refl _ _).alloc (Nat.le_refl _) _) hb9
  replace hfz : w9.frozen? ⟨nw, 4, none⟩ = false := by rw [(bcell hal).2 _ _ hN.lt]; exact hfz
  replace hN := hN.step hal
  replace hB := below2 hB hal
  clear hb9 hal a0 a1 a2 a3 a4 hbw
  have hap : bstr zr ++ ⟨#[120]⟩ = bstr (zr ++ [120]) := append_bstr zr [120]
  have a4 := hN.c4
  have hN2 := hN.put4 (zr ++ [120])
  have hB2 := hB.setCell (p := ⟨nw, 4, none⟩) hnw (.string (bstr (zr ++ [120])))
  go_upto_region 13 with fail
  generalize w9.setCell ⟨nw, 4, none⟩ (.string (bstr (zr ++ [120]))) = w10 at *
  clear hN hB a4 hfz hap
  obtain ⟨a0, a1, a2, a3, a4⟩ := id hN2
  go_wp2_with fail
  refine (Build_lit [kw (zr ++ [120])] [] 3 hk7.2 hk7.1 1 rfl _ _ _ (CRow.lit _ [kw (zr ++ [120])] _) (by simp) (by omega)).mono ?_
  rintro e w11 ⟨rfl, hb11⟩
  have hal : RowKit.Below w10.heap.size w10 w11 := below2 ((RowKit.Below.refl _ _).alloc (Nat.le_refl _) _) hb11
  have hB := below2 hB2 hal
  clear hb11 hal a0 a1 a2 a3 a4 hN2 hB2 hk6 hk7 hze hzl hnw
  clear zz
  obtain ⟨i0, hi0, hz0, hz1, hz2⟩ := info_parts Try.infoCell
  have hown0 : w11.ownsRow w11.heap.size 24 5 (.slice none 0 0) 0 (ccells (manyL 0)) := World.ownsRow_nil _ _ _ _
  go_wp2
  go_loopw [22, 23] (fun s22 s23 wr => ∃ i : Nat, s23 = .int .i64 (i : Int) ∧ i ≤ 20 ∧ wr.ownsRow w11.heap.size 24 5 s22 i (ccells (manyL i)) ∧ RowKit.Below w11.heap.size w11 wr) (fun _ s23 _ => 20 - (intOf s23).toNat)
  case atStart => exact ⟨0, rfl, by omega, hown0, RowKit.Below.refl _ _⟩
  case round =>
    obtain ⟨i, rfl, hil, hown, hbel⟩ := hrel
    clear hown0
    by_cases hlt : i < 20
    · have hcv := fun W => econv_one W i (by omega)
      have hap : (⟨#[114, 111, 119]⟩ : ByteArray) ++ bstr [i.toUInt8] = bstr [114, 111, 119, i.toUInt8] := append_bstr [114, 111, 119] [i.toUInt8]
      have hsz := hbel.size
      have hnews := cell_news (wr.alloc (.cells #[.int .u8 (i : Int)] 5)) (km i) 24
      rw [show (wr.alloc (.cells #[.int .u8 (i : Int)] 5)).heap.size = wr.heap.size + 1 by simp] at hnews
      go_wp2_with (at_builtin; refine wpList_append_own _ rfl _ _ 28 rfl w11.heap.size 24 i0 (.agg #[.string ⟨#[]⟩, .string ⟨#[]⟩, .int .u64 0, .bool false, .string ⟨#[]⟩]) 5 64 Try.underlying28 hi0 hz0 hz1 hz2 rfl (by decide) _ _ _ rfl ((hown.alloc _).alloc _) ⟨wr.heap.size + 1, 0, none⟩ 1 1 (encC (km i)) rfl rfl hnews (encC_one _) (by unfold maxLen; omega) (by omega) (by simp; omega) ?_)
      intro v' w12 hown' hgrow _
      have hbe : RowKit.Below w11.heap.size w11 w12 := ((hbel.alloc hbel.size _).alloc (by simp; omega) _).grown hgrow (by simp; omega) (fun k hk => (hown.lt k hk).1)
      have hown2 : w12.ownsRow w11.heap.size 24 5 v' (i + 1) (ccells (manyL (i + 1))) := by
        rw [manyL_snoc, ccells_append]
        exact hown'
      clear hown hown' hgrow hnews hcv hap
      go_wp2
      go_roundw
      case rel => exact ⟨i + 1, by go_num, by omega, hown2, hbe⟩
      case measure => simp [intOf]; omega
    · have hie : i = 20 := by omega
      subst hie
      replace hB := below2 hB hbel
      have hml := manyL_len 20
      obtain ⟨gm, cm, rfl, _, hgm, _, _, hCR, _⟩ := own_crow (by rw [hml]; exact hown) (by intro h; rw [h] at hml; simp at hml)
      rw [hml]
      clear hown hbel hlt hil
      obtain ⟨bm, hbm⟩ : ∃ bm, blkB (manyL 20) = bm := ⟨_, rfl⟩
      have hk9 := kn9
      have hk10 := kn10
      rw [hbm] at hk9 hk10
      go_wp2_with fail
      refine (Build_lit (manyL 20) bm 0 hk10.1 hk10.2 20 hml gm _ _ hCR hgm (by omega)).mono ?_
      rintro e w13 ⟨rfl, hb13⟩
      replace hCR := hCR.step hb13 hgm
      replace hgm : gm < w13.heap.size := Nat.lt_of_lt_of_le hgm hb13.size
      replace hB := below2 hB hb13
      clear hb13
      have hAt : At5 w13 gm 45 (km 9) := by
        have := hCR 9 (by rw [hml]; omega)
        exact this
      have hFd : ∀ W, Calls Try.prog 6 #[.string (bstr bm), .string (bstr [114, 111, 119, 9]), .string ⟨#[120]⟩] W fun e w' => e = .returned (.tuple #[clV (km 9), .bool true, .int .i64 0]) ∧ RowKit.Below W.heap.size W w' := fun W => (Find_any bm [114, 111, 119, 9] [120] W (by omega)).mono (by
        rintro e w' ⟨hq, hb⟩
        obtain ⟨L', hG', hL', rfl⟩ | ⟨_, hno⟩ := hq
        · obtain rfl := goodM.inj hG' (hbm.trans hL'.symm)
          rw [kn11]
          exact ⟨rfl, hb⟩
        · exact absurd hbm (hno _ goodM))
      obtain ⟨c0, c1, c2, c3, c4⟩ := id hAt
      go_wp2_with fail
      refine (hFd _).mono ?_
      rintro e w14 ⟨rfl, hb14⟩
      replace hAt := hAt.step hb14 hgm
      replace hgm : gm < w14.heap.size := Nat.lt_of_lt_of_le hgm hb14.size
      replace hB := below2 hB hb14
      have hN := CellAt.new w14 24 (km 9).row (km 9).col (km 9).ver (km 9).gone (km 9).val
      have hBx := hB.alloc hB.size (.cells #[.string (bstr (km 9).row), .string (bstr (km 9).col), .int .u64 (km 9).ver, .bool (km 9).gone, .string (bstr (km 9).val)] 24)
      have hal : RowKit.Below w14.heap.size w14 (w14.alloc (.cells #[.string (bstr (km 9).row), .string (bstr (km 9).col), .int .u64 (km 9).ver, .bool (km 9).gone, .string (bstr (km 9).val)] 24)) := (RowKit.Below.refl _ _).alloc (Nat.le_refl _) _
      replace hAt := hAt.step hal hgm
      have heq := eqC_self (km 9)
      clear c0 c1 c2 c3 c4 hb14 hFd hCR hk10
      generalize km 9 = n9 at *
      obtain ⟨r, k, v, z, x⟩ := n9
      go_wp2_with fail
      generalize w14.alloc (.cells #[.string (bstr r), .string (bstr k), .int .u64 v, .bool z, .string (bstr x)] 24) = W4 at *
      obtain ⟨p0, p1, p2, p3, p4⟩ := hAt
      simp only at p0 p1 p2 p3 p4
      have n0 := fun d os => cell_regrown hN.c0 d os
      have n1 := fun d os => cell_regrown hN.c1 d os
      have n2 := fun d os => cell_regrown hN.c2 d os
      have n3 := fun d os => cell_regrown hN.c3 d os
      have n4 := fun d os => cell_regrown hN.c4 d os
      have m0 := fun d os => cell_regrown p0 d os
      have m1 := fun d os => cell_regrown p1 d os
      have m2 := fun d os => cell_regrown p2 d os
      have m3 := fun d os => cell_regrown p3 d os
      have m4 := fun d os => cell_regrown p4 d os
      have hl176 : 176 < bm.length := by omega
      have hlast : bm[176] = 3 := by
        have := hk9.2
        rw [List.getElem?_eq_getElem hl176] at this
        exact Option.some.inj this
      have hbml := hk9.1
      have s1 : (⟨#[0, 0]⟩ : ByteArray) = bstr [0, 0] := rfl
      have s2 : (⟨#[0, 2, 97, 98, 1, 120, 1, 0, 1, 118, 0, 0, 0, 1]⟩ : ByteArray) = bstr [0, 2, 97, 98, 1, 120, 1, 0, 1, 118, 0, 0, 0, 1] := rfl
      clear hk9 hbm hal hN p0 p1 p2 p3 p4 hml hi0 hz0 hz1 hz2
      refine wp_region_quiet_below (by kernel_rfl) (by kernel_rfl) ?_
      simp only [List.append_eq, List.cons_append, List.nil_append]
      repeat (go_big_quiet_step (first
        | (go_at_call 7; exact Calls.regrown_of (works10_any _))))
      refine wpQuiet_nil ?_
      intro _ hw'
      obtain ⟨⟨dq, osq⟩, hw''⟩ := hw'
      subst hw''
      have hb6 := below2 hBx (below_regrown W4 dq osq)
      generalize grow (redrawn W4 dq) osq = W5 at *
      clear n0 n1 n2 n3 n4 m0 m1 m2 m3 m4
      go_wp2
      go_ret
      exact ⟨rfl, hb6⟩

end Go.Proofs.Ytbllbcbjjocphab
