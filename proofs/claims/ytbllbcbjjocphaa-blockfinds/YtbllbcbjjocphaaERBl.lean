/-
  The document's Build.
-/
import Derived.Test.YtbllbcbjjocphaaERef
import Derived.Test.YtbllbcbjjocphaaEBld
namespace Go.Proofs.Ytbllbcbjjocphaa
open Go.RowKit Go.BigFrame Go.Sort
attribute [local go_sem] size_bstr toList_bstr ls_def append_bstr

set_option maxHeartbeats 4000000 in
set_option maxRecDepth 100000 in
theorem RBuild_any (q : Option Addr) (b off cap : Nat) (cs : List Cl) (w : World) (hq : 0 < cs.length → q = some ⟨b, off, none⟩ ∧ CRow w b off cs ∧ b < w.heap.size) (hn : cs.length * 64 ≤ 140737488351232) :
    Calls Try.prog 11 #[.slice q cs.length cap] w fun e w' => e = .returned (.tuple #[.string (bstr (bldB cs)), .int .i64 (bldE cs)]) ∧ RowKit.Below w.heap.size w w' := by
  generalize heB : bldB cs = eB
  generalize heE : bldE cs = eE
  have HB : Hid (bldB cs = eB) := heB
  have HE : Hid (bldE cs = eE) := heE
  clear heB heE
  go_enter Try.func11, Try.ntmps11
  go_wp2
  go_loopw [4] (fun s4 wr => ∃ i : Nat, s4 = .int .i64 (i : Int) ∧ i ≤ cs.length ∧ Hid (okL (cs.take i) = true) ∧ RowKit.Below w.heap.size w wr) (fun s4 _ => cs.length - (intOf s4).toNat)
  case atStart => exact ⟨0, rfl, by omega, rfl, RowKit.Below.refl _ _⟩
  case round =>
    obtain ⟨i, rfl, hil, HA, hbel⟩ := hrel
    by_cases hlt : i < cs.length
    · obtain ⟨rfl, hR, hbl⟩ := hq (by omega)
      have hR' := hR.step hbel hbl
      have hAt := hR' i hlt
      have hcon := RCell_any cs[i].row cs[i].col cs[i].ver cs[i].gone cs[i].val
      cases hm : okC cs[i] with
      | false =>
        obtain ⟨e1, e2⟩ := bld_arg (okL_bad1 hlt hm)
        have HX : Hid (eB = [] ∧ eE = 2) := ⟨by rw [← HB.out]; exact e1, by rw [← HE.out]; exact e2⟩
        rw [show mayC cs[i].row cs[i].col cs[i].ver cs[i].gone cs[i].val = false from hm, if_neg (by simp)] at hcon
        clear hm hR hR' e1 e2
        generalize cs[i] = c at *
        obtain ⟨r, k, v, z, x⟩ := c
        obtain ⟨c0, c1, c2, c3, c4⟩ := hAt
        simp only at c0 c1 c2 c3 c4 hcon
        have n0 := fun d os => cell_regrown c0 d os
        have n1 := fun d os => cell_regrown c1 d os
        have n2 := fun d os => cell_regrown c2 d os
        have n3 := fun d os => cell_regrown c3 d os
        have n4 := fun d os => cell_regrown c4 d os
        go_wp2_with fail
        refine wp_region_quiet_below (by kernel_rfl) (by kernel_rfl) ?_
        repeat (go_big_quiet_step (first
          | (go_at_call 29; with_reducible exact Calls.regrown_of (hcon _))))
        refine wpQuiet_nil ?_
        intro _ hw'
        obtain ⟨⟨dq, osq⟩, hw''⟩ := hw'
        subst hw''
        have hbe := below2 hbel (below_regrown wr dq osq)
        clear n0 n1 n2 n3 n4 c0 c1 c2 c3 c4 hcon
        generalize grow (redrawn wr dq) osq = W1 at *
        go_wp2
        go_ret2
        exact ⟨by rw [HX.out.1, HX.out.2]; rfl, hbe⟩
      | true =>
        rw [show mayC cs[i].row cs[i].col cs[i].ver cs[i].gone cs[i].val = true from hm, if_pos rfl] at hcon
        by_cases h0 : 0 < i
        · have hd0 : decide ((0 : Int) < (i : Int)) = true := by rw [decide_eq_true_eq]; omega
          have i1 : (i : Int) - 1 = ((i - 1 : Nat) : Int) := by omega
          have hAp := hR' (i - 1) (by omega)
          have hcm := RCmp_any cs[i - 1].row cs[i - 1].col cs[i - 1].ver cs[i - 1].gone cs[i - 1].val cs[i].row cs[i].col cs[i].ver cs[i].gone cs[i].val
          by_cases hd : ccl cs[i - 1] cs[i] < 0
          · have HM : Hid (okL (cs.take (i + 1)) = true) := okL_step hlt HA.out hm fun _ => hd
            change cc cs[i - 1].row cs[i - 1].col cs[i - 1].ver cs[i].row cs[i].col cs[i].ver < 0 at hd
            generalize cc cs[i - 1].row cs[i - 1].col cs[i - 1].ver cs[i].row cs[i].col cs[i].ver = d at *
            clear hm hR hR'
            generalize cs[i] = c at *
            generalize cs[i - 1] = p at *
            obtain ⟨r, k, v, z, x⟩ := c
            obtain ⟨r', k', v', z', x'⟩ := p
            obtain ⟨p0, p1, p2, p3, p4⟩ := hAp
            simp only at hcm p0 p1 p2 p3 p4
            have m0 := fun d os => cell_regrown p0 d os
            have m1 := fun d os => cell_regrown p1 d os
            have m2 := fun d os => cell_regrown p2 d os
            have m3 := fun d os => cell_regrown p3 d os
            have m4 := fun d os => cell_regrown p4 d os
            obtain ⟨c0, c1, c2, c3, c4⟩ := hAt
            simp only at c0 c1 c2 c3 c4 hcon
            have n0 := fun d os => cell_regrown c0 d os
            have n1 := fun d os => cell_regrown c1 d os
            have n2 := fun d os => cell_regrown c2 d os
            have n3 := fun d os => cell_regrown c3 d os
            have n4 := fun d os => cell_regrown c4 d os
            go_wp2_with fail
            refine wp_region_quiet_below (by kernel_rfl) (by kernel_rfl) ?_
            repeat (go_big_quiet_step (first
              | (go_at_call 29; with_reducible exact Calls.regrown_of (hcon _))
              | (go_at_call 30; with_reducible exact Calls.regrown_of (hcm _))))
            refine wpQuiet_nil ?_
            intro _ hw'
            obtain ⟨⟨dq, osq⟩, hw''⟩ := hw'
            subst hw''
            have hbe := below2 hbel (below_regrown wr dq osq)
            clear n0 n1 n2 n3 n4 c0 c1 c2 c3 c4 hcon p0 p1 p2 p3 p4 m0 m1 m2 m3 m4 hcm
            generalize grow (redrawn wr dq) osq = W1 at *
            go_wp2
            go_roundw
            case rel => exact ⟨i + 1, by go_num, by omega, HM, hbe⟩
            case measure => simp [intOf]; omega
          · obtain ⟨e1, e2⟩ := bld_arg (okL_bad2 hlt h0 hd)
            have HX : Hid (eB = [] ∧ eE = 2) := ⟨by rw [← HB.out]; exact e1, by rw [← HE.out]; exact e2⟩
            have hd' : 0 ≤ cc cs[i - 1].row cs[i - 1].col cs[i - 1].ver cs[i].row cs[i].col cs[i].ver := Int.not_lt.1 hd
            generalize cc cs[i - 1].row cs[i - 1].col cs[i - 1].ver cs[i].row cs[i].col cs[i].ver = d at *
            clear hm hR hR' e1 e2 hd
            generalize cs[i] = c at *
            generalize cs[i - 1] = p at *
            obtain ⟨r, k, v, z, x⟩ := c
            obtain ⟨r', k', v', z', x'⟩ := p
            obtain ⟨p0, p1, p2, p3, p4⟩ := hAp
            simp only at hcm p0 p1 p2 p3 p4
            have m0 := fun d os => cell_regrown p0 d os
            have m1 := fun d os => cell_regrown p1 d os
            have m2 := fun d os => cell_regrown p2 d os
            have m3 := fun d os => cell_regrown p3 d os
            have m4 := fun d os => cell_regrown p4 d os
            obtain ⟨c0, c1, c2, c3, c4⟩ := hAt
            simp only at c0 c1 c2 c3 c4 hcon
            have n0 := fun d os => cell_regrown c0 d os
            have n1 := fun d os => cell_regrown c1 d os
            have n2 := fun d os => cell_regrown c2 d os
            have n3 := fun d os => cell_regrown c3 d os
            have n4 := fun d os => cell_regrown c4 d os
            go_wp2_with fail
            refine wp_region_quiet_below (by kernel_rfl) (by kernel_rfl) ?_
            repeat (go_big_quiet_step (first
              | (go_at_call 29; with_reducible exact Calls.regrown_of (hcon _))
              | (go_at_call 30; with_reducible exact Calls.regrown_of (hcm _))))
            refine wpQuiet_nil ?_
            intro _ hw'
            obtain ⟨⟨dq, osq⟩, hw''⟩ := hw'
            subst hw''
            have hbe := below2 hbel (below_regrown wr dq osq)
            clear n0 n1 n2 n3 n4 c0 c1 c2 c3 c4 hcon p0 p1 p2 p3 p4 m0 m1 m2 m3 m4 hcm
            generalize grow (redrawn wr dq) osq = W1 at *
            go_wp2
            go_ret2
            exact ⟨by rw [HX.out.1, HX.out.2]; rfl, hbe⟩
        · have hd0 : decide ((0 : Int) < (i : Int)) = false := by rw [decide_eq_false_iff_not]; omega
          have HM : Hid (okL (cs.take (i + 1)) = true) := okL_step hlt HA.out hm fun h => absurd h h0
          clear hm hR hR'
          generalize cs[i] = c at *
          obtain ⟨r, k, v, z, x⟩ := c
          obtain ⟨c0, c1, c2, c3, c4⟩ := hAt
          simp only at c0 c1 c2 c3 c4 hcon
          have n0 := fun d os => cell_regrown c0 d os
          have n1 := fun d os => cell_regrown c1 d os
          have n2 := fun d os => cell_regrown c2 d os
          have n3 := fun d os => cell_regrown c3 d os
          have n4 := fun d os => cell_regrown c4 d os
          go_wp2_with fail
          refine wp_region_quiet_below (by kernel_rfl) (by kernel_rfl) ?_
          repeat (go_big_quiet_step (first
            | (go_at_call 29; with_reducible exact Calls.regrown_of (hcon _))))
          refine wpQuiet_nil ?_
          intro _ hw'
          obtain ⟨⟨dq, osq⟩, hw''⟩ := hw'
          subst hw''
          have hbe := below2 hbel (below_regrown wr dq osq)
          clear n0 n1 n2 n3 n4 c0 c1 c2 c3 c4 hcon
          generalize grow (redrawn wr dq) osq = W1 at *
          go_wp2
          go_roundw
          case rel => exact ⟨i + 1, by go_num, by omega, HM, hbe⟩
          case measure => simp [intOf]; omega
    · have hie : i = cs.length := by omega
      subst hie
      rw [List.take_length] at HA
      have hall := (okL_iff.1 HA.out).1
      have HAL : Hid _ := hall
      clear hall
      go_wp2
      go_loopw [5, 6, 7] (fun s5 s6 s7 w' => ∃ (i : Nat) (L P : List UInt8), s7 = .int .i64 (i : Int) ∧ s5 = .string (bstr L) ∧ s6 = .string (bstr P) ∧ i ≤ cs.length ∧ Hid (body (cs.take i) = L) ∧ Hid ((whl (cs.take i)).flatMap be2 = P) ∧ Hid (L.length ≤ 32768) ∧ RowKit.Below w.heap.size w w') (fun _ _ s7 _ => cs.length - (intOf s7).toNat)
      case atStart => exact ⟨0, [], [], rfl, rfl, rfl, by omega, rfl, rfl, by show _ ≤ _; simp, hbel⟩
      case round =>
        clear hbel
        obtain ⟨i, L, P, rfl, rfl, rfl, hil, HBL, HWP, HLL, hbel⟩ := hrel
        have hLL := HLL.out
        have hPL : P.length = 2 * ((i + 7) / 8) := by
          rw [← HWP.out, flat_len, whl_len, List.length_take, Nat.min_eq_left hil]
        have hi6 : 6 * i ≤ 32768 := by
          have := body_many (cs.take i) (List.all_eq_true.2 fun c hc => List.all_eq_true.1 HAL.out c (List.mem_of_mem_take hc))
          rw [HBL.out, List.length_take, Nat.min_eq_left hil] at this
          omega
        by_cases hlt : i < cs.length
        · obtain ⟨rfl, hR, hbl⟩ := hq (by omega)
          have hR' := hR.step hbel hbl
          have hAt := hR' i hlt
          have hok := all_get HAL.out hlt
          have hal := ahd_len HAL.out i hlt
          have hll := (layB_len (a := ahd (cs.take i)) hok).1
          have hcl := okC_len hok
          have hcon := fun W => ROne_any cs[i] (ahd (cs.take i)) W hok (by omega)
          have hbt := body_next hlt
          have hwt := whl_next hlt
          have hbp1 := blk_parts (cs.take (i + 1))
          have hbk1 := blk_take cs (i + 1)
          rw [HBL.out] at hbt hwt
          have HBT : Hid _ := hbt
          have HBK1 : Hid _ := hbk1
          have HBP1 : Hid _ := hbp1
          clear hbk1 hbt hbp1
          by_cases h8 : i % 8 = 0
          · rw [if_pos h8] at hwt
            rw [ahd_0 hlt h8] at hcon HBT hll
            have hmod : ((i : Int) % 8 == 0) = true := by rw [beq_iff_eq]; omega
            have HWT : Hid _ := hwt
            have htw := fun W => RTwo_any L.length W (by omega)
            clear hwt hal hok
            generalize hY : layB [] cs[i] = Y at *
            have HPX : Hid (L.length + Y.length ≤ (blkB (cs.take (i + 1))).length) := by show _ ≤ _; rw [HBP1.out, HBT.out, List.length_append]; omega
            have hPap : (P ++ be2 L.length).length = P.length + 2 := by rw [List.length_append]; rfl
            clear hY hR
            have hPe := hAt
            have hbq := hbel
            have hAw := fun W (hb : RowKit.Below wr.heap.size wr W) => hAt.step hb (Nat.lt_of_lt_of_le hbl hbel.size)
            generalize cs[i] = c at *
            obtain ⟨r, k, v, z, x⟩ := c
            simp only at hcon hll hcl
            clear hAt hPe
            have HPap : Hid _ := hPap
            clear hPap
            go_wp2_with fail
            refine (htw _).mono ?_
            rintro e w2 ⟨rfl, hb2⟩
            obtain ⟨d0, d1, d2, d3, d4⟩ := hAw w2 hb2
            simp only at d0 d1 d2 d3 d4
            have hbe2 := below2 hbel hb2
            have hPl2 : P.length ≤ 20000 := by omega
            have hbe2l : (be2 L.length).length = 2 := rfl
            clear hb2 htw hAw hbel hPL
            generalize hbz : be2 L.length = bz at *
            go_wp2_with fail
            refine (hcon _).mono ?_
            rintro e w3 ⟨rfl, hb3⟩
            have hbe3 := below2 hbe2 hb3
            clear hb3 hcon d0 d1 d2 d3 d4
            have hYl : L.length + Y.length ≤ 1000000 := by omega
            by_cases hgo : 32768 < L.length + Y.length
            · obtain ⟨e1, e2⟩ := bld_long HA.out (by have := HBK1.out; have := HPX.out; omega)
              have HX : Hid (eB = [] ∧ eE = 3) := ⟨by rw [← HB.out]; exact e1, by rw [← HE.out]; exact e2⟩
              clear e1 e2 hll hcl
              go_wp2
              go_ret2
              exact ⟨by rw [HX.out.1, HX.out.2]; rfl, hbe3⟩
            · clear hll hcl
              go_wp2
              go_roundw
              case rel => exact ⟨i + 1, L ++ Y, P ++ bz, by go_num, rfl, rfl, by omega, HBT, by show _ = _; rw [HWT.out]; rw [List.flatMap_append, HWP.out, List.flatMap_singleton, hbz], by show _ ≤ _; rw [List.length_append]; omega, hbe3⟩
              case measure => simp [intOf]; omega
          · rw [if_neg h8] at hwt
            have hah := ahd_1 hlt h8
            rw [hah] at hcon HBT hll
            have hmod : ((i : Int) % 8 == 0) = false := by rw [beq_eq_false_iff_ne]; omega
            have HWT : Hid _ := hwt
            have i1 : (i : Int) - 1 = ((i - 1 : Nat) : Int) := by omega
            have hi1 : i - 1 < cs.length := by omega
            have p0 := (hR' (i - 1) hi1).c0
            clear hwt hal hR hR' hok hah
            generalize hY : layB cs[i - 1].row cs[i] = Y at *
            have HPX : Hid (L.length + Y.length ≤ (blkB (cs.take (i + 1))).length) := by show _ ≤ _; rw [HBP1.out, HBT.out, List.length_append]; omega
            clear hY
            generalize cs[i - 1].row = pr at *
            generalize cs[i] = c at *
            obtain ⟨r, k, v, z, x⟩ := c
            obtain ⟨d0, d1, d2, d3, d4⟩ := hAt
            simp only at d0 d1 d2 d3 d4 hcon hll hcl
            clear hPL
            go_wp2_with fail
            clear p0
            refine (hcon _).mono ?_
            rintro e w3 ⟨rfl, hb3⟩
            have hbe3 := below2 hbel hb3
            clear hb3 hcon d0 d1 d2 d3 d4
            have hYl : L.length + Y.length ≤ 1000000 := by omega
            by_cases hgo : 32768 < L.length + Y.length
            · obtain ⟨e1, e2⟩ := bld_long HA.out (by have := HBK1.out; have := HPX.out; omega)
              have HX : Hid (eB = [] ∧ eE = 3) := ⟨by rw [← HB.out]; exact e1, by rw [← HE.out]; exact e2⟩
              clear e1 e2 hll hcl
              go_wp2
              go_ret2
              exact ⟨by rw [HX.out.1, HX.out.2]; rfl, hbe3⟩
            · clear hll hcl
              go_wp2
              go_roundw
              case rel => exact ⟨i + 1, L ++ Y, P, by go_num, rfl, rfl, by omega, HBT, by show _ = _; rw [HWT.out]; exact HWP.out, by show _ ≤ _; rw [List.length_append]; omega, hbe3⟩
              case measure => simp [intOf]; omega
        · have hie : i = cs.length := by omega
          subst hie
          rw [List.take_length] at HBL HWP
          have hPl : P.length = 2 * (whl cs).length := by rw [← HWP.out, flat_len]
          obtain ⟨n, hn'⟩ : ∃ n, (whl cs).length = n := ⟨_, rfl⟩
          rw [hn'] at hPl
          have hdv : (P.length : Int) / 2 = (n : Int) := by omega
          have htw := fun W => RTwo_any n W (by omega)
          have HBB : Hid (blkB cs = L ++ P ++ be2 n) := by
            show _ = _
            unfold blkB tailB
            rw [HBL.out, HWP.out, hn', List.append_assoc]
          have hb2l : (be2 n).length = 2 := rfl
          have hPl2 : P.length ≤ 20000 := by omega
          clear hPL hPl hn' HBL HWP
          generalize be2 n = bz at *
          go_wp2_with fail
          refine (htw _).mono ?_
          rintro e w2 ⟨rfl, hb2⟩
          have hbe2 := below2 hbel hb2
          obtain ⟨T, hT⟩ : ∃ T, L ++ P ++ bz = T := ⟨_, rfl⟩
          have hTl : T.length = L.length + P.length + 2 := by rw [← hT, List.length_append, List.length_append, hb2l]
          have hT2 : bstr L ++ bstr P ++ bstr bz = bstr T := by rw [append_bstr, append_bstr, hT]
          rw [hT] at HBB
          have hTm : T.length ≤ 1000000 := by omega
          have HTL : Hid _ := hTl
          clear hb2 htw hbel hdv hi6 hil hlt hTl
          by_cases hgo : 32768 < T.length
          · obtain ⟨e1, e2⟩ := bld_long HA.out (by rw [HBB.out]; omega)
            have HX : Hid (eB = [] ∧ eE = 3) := ⟨by rw [← HB.out]; exact e1, by rw [← HE.out]; exact e2⟩
            clear e1 e2
            go_wp2
            go_ret2
            exact ⟨by rw [HX.out.1, HX.out.2]; rfl, hbe2⟩
          · obtain ⟨e1, e2⟩ := bld_ok HA.out (by rw [HBB.out]; omega)
            have HX : Hid (eB = T ∧ eE = 0) := ⟨by rw [← HB.out, e1]; exact HBB.out, by rw [← HE.out]; exact e2⟩
            clear e1 e2
            go_wp2
            go_ret2
            exact ⟨by rw [HX.out.1, HX.out.2]; rfl, hbe2⟩

end Go.Proofs.Ytbllbcbjjocphaa
