/-
  The walk of the law CellsKnown over this seat's translation: it returns true, and of what was there nothing has turned.
-/
import Derived.Test.YtfjomggofncdmaaCK24
import Derived.Deep.Cut
namespace Go.Proofs.Ytfjomggofncdmaa
open Go.RowKit Go.BigFrame Go.Sort
attribute [local go_sem] size_bstr toList_bstr ls_def

set_option maxHeartbeats 40000000 in
set_option maxRecDepth 100000 in
theorem known_walk (w : World) :
    Calls Try.prog 3 #[] w fun e w' => e = .returned (.bool true) ∧ RowKit.Below w.heap.size w w' := by
  have hE0 : (⟨#[]⟩ : ByteArray) = bstr [] := rfl
  have hE1 : (⟨#[97]⟩ : ByteArray) = bstr [97] := rfl
  have hE2 : (⟨#[98]⟩ : ByteArray) = bstr [98] := rfl
  have hE3 : (⟨#[99]⟩ : ByteArray) = bstr [99] := rfl
  have hE4 : (⟨#[120]⟩ : ByteArray) = bstr [120] := rfl
  have hE5 : (⟨#[118]⟩ : ByteArray) = bstr [118] := rfl
  have hE6 : (⟨#[1]⟩ : ByteArray) = bstr [1] := rfl
  have hE7 : (⟨#[0, 0]⟩ : ByteArray) = bstr [0, 0] := rfl
  have hE8 : (⟨#[0]⟩ : ByteArray) = bstr [0] := rfl
  have hE9 : (⟨#[1, 1, 97, 1, 120, 1, 2, 0]⟩ : ByteArray) = bstr [1, 1, 97, 1, 120, 1, 2, 0] := rfl
  obtain ⟨zc, hzs, mk20⟩ := make20
  have m16 : ∀ W : World, (Instr.makeSlice 32 (.int .i64 65536) (.int .i64 65536)).run Try.prog W = .ok (.slice (some ⟨W.heap.size, 0, none⟩) 65536 65536) (W.alloc (.cells (zs 65536) 5)) := fun W => make_run .i64 65536 (by omega) W
  have c16 := made_run 65536 (by omega)
  have hwc : (⟨[97], [120], 1, false, zeros 65536⟩ : Cl) = wideC 65536 := rfl
  generalize zs 65536 = zq at *
  generalize zeros 65536 = Y at *
  have HW : Hid _ := hwc
  clear hwc
  go_enter Try.func3, Try.ntmps3
  go_wp2_with fail
  refine (at_lit [97] 1 false _).mono ?_
  rintro e w1 ⟨rfl, hB⟩
  go_wp2_with fail
  refine (at_lit [98] 1 false _).mono ?_
  rintro e w2 ⟨rfl, hb⟩
  replace hB := below2 hB hb
  clear hb
  go_wp2_with fail
  refine (at_lit [99] 1 false _).mono ?_
  rintro e w3 ⟨rfl, hb⟩
  replace hB := below2 hB hb
  clear hb
  have hRl : CRow (w3.alloc (.cells #[.string (bstr [97]), .string (bstr [120]), .int .u64 1, .bool false, .string (bstr []), .string (bstr [98]), .string (bstr [120]), .int .u64 1, .bool false, .string (bstr []), .string (bstr [99]), .string (bstr [120]), .int .u64 1, .bool false, .string (bstr [])] 24)) w3.heap.size 0 [⟨[97], [120], 1, false, []⟩, ⟨[98], [120], 1, false, []⟩, ⟨[99], [120], 1, false, []⟩] := CRow.lit _ _ _
  replace hB := hB.alloc hB.size (.cells #[.string (bstr [97]), .string (bstr [120]), .int .u64 1, .bool false, .string (bstr []), .string (bstr [98]), .string (bstr [120]), .int .u64 1, .bool false, .string (bstr []), .string (bstr [99]), .string (bstr [120]), .int .u64 1, .bool false, .string (bstr [])] 24)
  go_wp2_with fail
  generalize w3.alloc (.cells #[.string (bstr [97]), .string (bstr [120]), .int .u64 1, .bool false, .string (bstr []), .string (bstr [98]), .string (bstr [120]), .int .u64 1, .bool false, .string (bstr []), .string (bstr [99]), .string (bstr [120]), .int .u64 1, .bool false, .string (bstr [])] 24) = V at *
  refine (Enc_nil _).mono ?_
  rintro e w4 ⟨rfl, hb⟩
  have hVl : w3.heap.size < V.heap.size := (hRl 0 (by decide)).lt
  have hbV := hb
  clear hb
  go_wp2_with fail
  refine (at_lit [97] 0 false _).mono ?_
  rintro e w5 ⟨rfl, hb⟩
  replace hbV := below2 hbV hb
  clear hb
  go_wp2_with fail
  refine (Enc_one ⟨[97], [120], 0, false, []⟩ bad_lit0 w5.heap.size 0 1 _ (CRow.lit _ _ _) (by simp)).mono ?_
  rintro e w6 ⟨B6, rfl, hb⟩
  replace hbV := below2 (hbV.alloc hbV.size _) hb
  clear hb
  go_wp2_with fail
  refine (Dec_no [1] dec_lit1 (by decide) _).mono ?_
  rintro e w7 ⟨rfl, hb⟩
  replace hbV := below2 hbV hb
  clear hb
  go_wp2_with fail
  refine (Dec_no [0, 0] dec_lit2 (by decide) _).mono ?_
  rintro e w8 ⟨rfl, hb⟩
  replace hbV := below2 hbV hb
  clear hb
  go_wp2_with fail
  refine (Dec_no [] dec_lit0 (by decide) _).mono ?_
  rintro e w9 ⟨rfl, hb⟩
  replace hbV := below2 hbV hb
  clear hb
  go_wp2_with fail
  refine (Dec_zero _).mono ?_
  rintro e w10 ⟨⟨p0, c0, rfl⟩, hb⟩
  replace hbV := below2 hbV hb
  clear hb
  go_wp2
  have hLv := Live.new w10 zc 24 100 hzs
  have hgl : w10.heap.size < (w10.alloc (.cells zc 24)).heap.size := by simp
  have hgV : V.heap.size ≤ w10.heap.size := hbV.size
  replace hbV := hbV.alloc hbV.size (.cells zc 24)
  generalize w10.alloc (.cells zc 24) = Z at *
  generalize w10.heap.size = gw at *
  clear mk20 hzs
  go_loopw [15] (fun s15 wr => ∃ i : Nat, s15 = .int .i64 (i : Int) ∧ i ≤ 20 ∧ CRow wr gw 0 (List.replicate i ⟨[97], [120], 1, false, Y⟩) ∧ Live wr gw 100 ∧ gw < wr.heap.size ∧ RowKit.Below V.heap.size V wr) (fun s15 _ => 20 - (intOf s15).toNat)
  case atStart => exact ⟨0, rfl, by omega, fun k hk => absurd hk (by simp), hLv, hgl, hbV⟩
  case round =>
    obtain ⟨i, rfl, hi20, hR, hL, hgr, hbel⟩ := hrel
    clear hLv hgl hbV
    by_cases hlt : i < 20
    · have hs5 : (set5 wr gw (i * 5) ⟨[97], [120], 1, false, Y⟩).heap.size = wr.heap.size := by simp
      have hb1 : RowKit.Below wr.heap.size (set5 wr gw (i * 5) ⟨[97], [120], 1, false, Y⟩) ((set5 wr gw (i * 5) ⟨[97], [120], 1, false, Y⟩).alloc (.cells zq 5)) := (RowKit.Below.refl _ _).alloc (by omega) _
      obtain ⟨u0, k0⟩ := hL.1 (i * 5) (by omega)
      obtain ⟨u1, k1⟩ := hL.1 (i * 5 + 1) (by omega)
      obtain ⟨u2, k2⟩ := hL.1 (i * 5 + 2) (by omega)
      obtain ⟨u3, k3⟩ := hL.1 (i * 5 + 3) (by omega)
      obtain ⟨u4, k4⟩ := hL.1 (i * 5 + 4) (by omega)
      have f0 := hL.2 (i * 5)
      have f1 := hL.2 (i * 5 + 1)
      have f2 := hL.2 (i * 5 + 2)
      have f3 := hL.2 (i * 5 + 3)
      have f4 := hL.2 (i * 5 + 4)
      have hiz : (i : Int) < 20 := by omega
      have hne1 : gw ≠ wr.heap.size := by omega
      have hne2 : wr.heap.size ≠ gw := by omega
      have HR : Hid _ := (hR.grow hL (by omega)).step hb1 hgr
      have HL : Hid _ := (hL.set5 (i * 5) ⟨[97], [120], 1, false, Y⟩).below hb1 hgr
      have HB : Hid _ := (below_set5' (o := i * 5) (c := ⟨[97], [120], 1, false, Y⟩) hbel hgV).alloc (by have := hbel.size; omega) (.cells zq 5)
      clear hR hL hb1 hbel
      go_wp2
      go_roundw
      case rel => exact ⟨i + 1, by go_num, by omega, HR.out, HL.out, by simp; omega, HB.out⟩
      case measure => simp [intOf]; omega
    · have hie : i = 20 := by omega
      subst hie
      clear hL hlt hi20 m16 c16
      have hV2 : w3.heap.size < V.heap.size := hVl
      go_wp2_with fail
      refine (Enc_wide 20 3 _ _ _ _ hR hgr (by omega) (by rw [HW.out]; exact wide_long (by omega) (by omega))).mono ?_
      rintro e w11 ⟨Bw11, rfl, hb⟩
      replace hR := hR.step hb hgr
      replace hgr := Nat.lt_of_lt_of_le hgr hb.size
      replace hbel := below2 hbel hb
      clear hb
      go_wp2_with fail
      refine (Enc_wide 15 0 _ _ _ _ (hR.rep 15 (by omega)) hgr (by omega) (by rw [HW.out]; exact wide_fits (by omega))).mono ?_
      rintro e w12 ⟨Bw12, rfl, hb⟩
      replace hR := hR.step hb hgr
      replace hgr := Nat.lt_of_lt_of_le hgr hb.size
      replace hbel := below2 hbel hb
      clear hb
      go_wp2_with fail
      refine (Enc_wide 16 3 _ _ _ _ (hR.rep 16 (by omega)) hgr (by omega) (by rw [HW.out]; exact wide_long (by omega) (by omega))).mono ?_
      rintro e w13 ⟨Bw13, rfl, hb⟩
      replace hbel := below2 hbel hb
      clear hb hR hgr HW
      go_wp2_with fail
      refine (Dec_no [1, 1, 97, 1, 120, 1, 2, 0] dec_lit4 (by decide) _).mono ?_
      rintro e w14 ⟨rfl, hb⟩
      replace hbel := below2 hbel hb
      clear hb
      go_wp2_with fail
      have m33 : ∀ W : World, (Instr.makeSlice 32 (.int .i64 33) (.int .i64 33)).run Try.prog W = .ok (.slice (some ⟨W.heap.size, 0, none⟩) 33 33) (W.alloc (.cells (zs 33) 5)) := fun W => make_run .i64 33 (by omega) W
      have m17 : ∀ W : World, (Instr.makeSlice 32 (.int .i64 17) (.int .i64 17)).run Try.prog W = .ok (.slice (some ⟨W.heap.size, 0, none⟩) 17 17) (W.alloc (.cells (zs 17) 5)) := fun W => make_run .i64 17 (by omega) W
      have k33 := fun (W : World) (b : Nat) (h : Zb (zs 33) b W) => cvw W b 33 h (by omega)
      have k17 := fun (W : World) (b : Nat) (h : Zb (zs 17) b W) => cvw W b 17 h (by omega)
      have hbads : ∀ c ∈ badL (zeros 33) (zeros 17), okC c = false := by
        intro c hc
        simp only [badL, List.mem_cons, List.not_mem_nil, or_false] at hc
        rcases hc with rfl | rfl | rfl | rfl | rfl
        · exact bad_lit1
        · exact bad_lit2
        · exact bad_lit3
        · exact bad_lit4
        · exact bad_lit5
      generalize zs 33 = z33 at *
      generalize zs 17 = z17 at *
      generalize zeros 33 = y33 at *
      generalize zeros 17 = y17 at *
      go_cut [24] from 28 (fun s24 wx => ∃ n : Nat, s24 = .slice (some ⟨n, 0, none⟩) 5 5 ∧ CRow wx n 0 (badL y33 y17) ∧ n < wx.heap.size ∧ RowKit.Below V.heap.size V wx)
      case first =>
        refine bad_region z33 z17 y33 y17 _ w14 _ rfl m33 k33 m17 k17 ?_
        intro n p q wx hbad hnl hbl
        unfold finA fin3
        simp only [put3, put1, base2, Nat.reduceAdd, List.setIfInBounds_toArray, List.set_cons_zero, List.set_cons_succ]
        go_wp2
        go_meet
        case rel => exact ⟨n, rfl, hbad, hnl, below2 hbel hbl⟩
      case rest =>
        obtain ⟨n, rfl, hbad, hnl, hbc⟩ := hcut
        clear m33 m17 k33 k17 hbel
        go_wp2
        go_loopw [25] (fun s25 wr => ∃ j : Nat, s25 = .int .i64 (j : Int) ∧ j ≤ 5 ∧ RowKit.Below wc.heap.size wc wr) (fun s25 _ => 5 - (intOf s25).toNat)
        case atStart => exact ⟨0, rfl, by omega, RowKit.Below.refl _ _⟩
        case round =>
          obtain ⟨j, rfl, hj5, hbel⟩ := hrel
          have hRj : CRow wr n 0 (badL y33 y17) := hbad.step hbel hnl
          have hnj : n < wr.heap.size := Nat.lt_of_lt_of_le hnl hbel.size
          by_cases hlt : j < 5
          · rcases (show j = 0 ∨ j = 1 ∨ j = 2 ∨ j = 3 ∨ j = 4 by omega) with rfl | rfl | rfl | rfl | rfl
            · have hc := hRj.one 0 (by simp [badL])
              clear hRj
              go_wp2_with fail
              refine (Enc_one _ (hbads _ (by simp [badL])) n 0 5 _ hc hnj).mono ?_
              rintro e wf ⟨Bf, rfl, hbf⟩
              have hby := below2 hbel hbf
              clear hc hbf hbel hbad
              go_wp2
              go_roundw
              case rel => exact ⟨1, rfl, by omega, hby⟩
              case measure => simp [intOf]
            · have hc := hRj.one 1 (by simp [badL])
              clear hRj
              go_wp2_with fail
              refine (Enc_one _ (hbads _ (by simp [badL])) n 5 4 _ hc hnj).mono ?_
              rintro e wf ⟨Bf, rfl, hbf⟩
              have hby := below2 hbel hbf
              clear hc hbf hbel hbad
              go_wp2
              go_roundw
              case rel => exact ⟨2, rfl, by omega, hby⟩
              case measure => simp [intOf]
            · have hc := hRj.one 2 (by simp [badL])
              clear hRj
              go_wp2_with fail
              refine (Enc_one _ (hbads _ (by simp [badL])) n 10 3 _ hc hnj).mono ?_
              rintro e wf ⟨Bf, rfl, hbf⟩
              have hby := below2 hbel hbf
              clear hc hbf hbel hbad
              go_wp2
              go_roundw
              case rel => exact ⟨3, rfl, by omega, hby⟩
              case measure => simp [intOf]
            · have hc := hRj.one 3 (by simp [badL])
              clear hRj
              go_wp2_with fail
              refine (Enc_one _ (hbads _ (by simp [badL])) n 15 2 _ hc hnj).mono ?_
              rintro e wf ⟨Bf, rfl, hbf⟩
              have hby := below2 hbel hbf
              clear hc hbf hbel hbad
              go_wp2
              go_roundw
              case rel => exact ⟨4, rfl, by omega, hby⟩
              case measure => simp [intOf]
            · have hc := hRj.one 4 (by simp [badL])
              clear hRj
              go_wp2_with fail
              refine (Enc_one _ (hbads _ (by simp [badL])) n 20 1 _ hc hnj).mono ?_
              rintro e wf ⟨Bf, rfl, hbf⟩
              have hby := below2 hbel hbf
              clear hc hbf hbel hbad
              go_wp2
              go_roundw
              case rel => exact ⟨5, rfl, by omega, hby⟩
              case measure => simp [intOf]
          · have hje : j = 5 := by omega
            subst hje
            have hC := below2 hbc hbel
            clear hRj hbad hbads hbel hbc hlt hnj hnl
            go_wp2_with fail
            refine region24 _ V _ w3.heap.size p0 c0 _ _ _ _ _ _ _ _ _ _ _ _ _ _ _ _ _ _ _ _ _ _ _ _ _ _ _ _ _ _ _ _ _ _ _ _ _ _ _ _ _ _ _ _ _ _ _ _ _ _ _ _ _ _ _ _ _ _ _ _ _ _ _ _ _ _ _ _ _ _ _ _ _ _ _ _ _ _ _ _ _ _ _ _ _ _ _ _ _ _ _ _ _ _ _ _ _ _ _ _ _ _ _ _ _ _ _ _ _ _ _ _ _ _ _ _ _ _ _ _ _ _ _ _ _ _ _ _ _ _ _ _ _ _ _ _ _ _ _ _ _ _ _ _ _ _ _ _ _ _ _ _ _ _ _ _ _ _ _ _ _ _ _ _ _ _ _ _ _ _ _ _ _ _ _ _ _ _ _ _ _ _ _ _ _ _ _ _ _ _ _ hC hRl ?_
            intro y119 y120 y121 y122 y123 y124 y125 y126 y127 y128 y129 y130 y131 y132 y133 y134 y135 y136 y137 y138 y139 y140 y141 y142 y143 y144 y145 y146 y147 y148 y149 y150 y151 y152 y153 y154 y155 y156 y157 y158 y159 y160 y161 y162 y163 y164 y165 y166 y167 y168 y169 y170 y171 y172 y173 y174 y175 y176 y177 y178 y179 y180 y181 y182 y183 y184 y185 y186 y187 y188 y189 y190 y191 y192 y193 y194 y195 y196 y197 y198 y199 y200 y201 y202 y203 w' hbw
            go_wp2
            go_ret
            exact ⟨rfl, below2 hB hbw⟩

end Go.Proofs.Ytfjomggofncdmaa
