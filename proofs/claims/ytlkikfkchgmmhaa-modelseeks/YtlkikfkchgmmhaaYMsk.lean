/-
  The law ModelSeeks, walked.
-/
import Derived.Test.YtlkikfkchgmmhaaYSks
namespace Go.Proofs.Ytlkikfkchgmmhaa
open Go.RowKit Go.BigFrame Go.Sort
attribute [local go_sem] size_bstr toList_bstr ls_def

set_option maxHeartbeats 8000000 in
set_option maxRecDepth 100000 in
theorem MSeeks_any (q : Option Addr) (b off cap fr : Nat) (l : List Ac) (w : World) (hq : 0 < l.length → q = some ⟨b, off, none⟩ ∧ AcRow w b off l ∧ b < w.heap.size) (hok : ∀ a ∈ l, AcOk a) (hn : l.length ≤ 140737488351232) (hfr : fr < 256) :
    Calls Try.prog 5 #[.slice q l.length cap, .int .u8 (fr : Int)] w fun e w' => e = .returned (.bool true) ∧ Below w.heap.size w w' := by
  go_enter Try.func5, Try.ntmps5
  go_wp2_with fail
  refine (YNew_any w).mono ?_
  rintro e w1 ⟨rfl, hM1, hb1⟩
  have hM1 : Md w1 (w.heap.size + 1) w.heap.size 0 (fun _ _ => none) := hM1
  go_upto_block 0 with fail
  go_cut [] from 6 (fun wx => ∃ (n : Nat) (F : Mf) (cn : Nat → Nat) (vl : Nat → List UInt8) (vr : Nat → Nat), n ≤ 160 ∧ Md wx (w.heap.size + 1) w.heap.size n F ∧ Hid (KSt F cn vl vr ∧ ∀ r, cn r ≤ 80) ∧ Below w.heap.size w wx)
  case first =>
    go_wp2
    go_loopw [6] (fun s6 wr => ∃ (i : Nat) (F : Mf) (cn : Nat → Nat) (vl : Nat → List UInt8) (vr : Nat → Nat), s6 = .int .i64 (i : Int) ∧ i ≤ l.length ∧ i ≤ 60 ∧ Md wr (w.heap.size + 1) w.heap.size (2 * i) F ∧ Hid (KSt F cn vl vr ∧ (∀ r, cn r ≤ i)) ∧ Below w.heap.size w wr) (fun s6 _ => 61 - (intOf s6).toNat)
    case atStart => exact ⟨0, _, _, _, _, rfl, by omega, by omega, hM1, ⟨⟨LSt.none, FInv.none, Rws.none⟩, fun _ => Nat.le_refl _⟩, hb1⟩
    case round =>
      clear hM1
      obtain ⟨i, F, cn, vl, vr, rfl, hil, hi80, hM, HL, hbr⟩ := hrel
      by_cases hlt : i < l.length ∧ i < 60
      · obtain ⟨hl1, hl2⟩ := hlt
        obtain ⟨rfl, hrow, hbl⟩ := hq (by omega)
        obtain ⟨a, ha⟩ : ∃ a, a = l[i] := ⟨_, rfl⟩
        have hA : AcB w b (off + i * 6) a := by rw [ha]; exact hrow i hl1
        have hoka : AcOk a := by rw [ha]; exact hok _ (List.getElem_mem hl1)
        have hc : ∀ o v, w.cell? ⟨b, o, none⟩ = some v → wr.cell? ⟨b, o, none⟩ = some v := fun o v h => by rw [World.cell?_of_block (hbr.block b hbl)]; exact h
        obtain ⟨a0, a1, a2, a3, a4, a5⟩ := hA
        have hcall := of15_any a hoka wr
        have hlen := ofQ_len a
        obtain ⟨hmay, hk1, hk4, horow, hocol⟩ := ofQ_may a
        have hdo := fun (X : World) (hX : Md X (w.heap.size + 1) w.heap.size (2 * i) F) => YDo_any _ _ _ F (ofQ a) X hX (by omega) HL.out.1.fi (by omega) (by omega) hlen.1 hlen.2.1
        have b0 := hc _ _ a0
        have b1 := hc _ _ a1
        have b2 := hc _ _ a2
        have b3 := hc _ _ a3
        have b4 := hc _ _ a4
        have b5 := hc _ _ a5
        have hi1 : (i : Int) < (l.length : Int) := by omega
        have hi2 : (i : Int) < 60 := by omega
        have HST : Hid _ := HL.out.1.do HL.out.2 (by omega) a
        clear a0 a1 a2 a3 a4 a5 hrow hc hoka hmay hk1 hk4 horow hocol hlen ha HL
        generalize ofQ a = o at *
        go_wp2_with fail
        refine hcall.mono ?_
        rintro e w2 ⟨rfl, hb2⟩
        have hM2 := hM.below hb2 hM.lt.1 hM.lt.2
        have hb2r := below2 hbr hb2
        clear hcall b0 b1 b2 b3 b4 b5
        go_wp2_with fail
        refine (hdo _ hM2).mono ?_
        rintro e w3 ⟨rfl, hM3, hk3⟩
        have hb3 := bel_kp hb2r hk3 (fun j hj => by omega)
        obtain ⟨cn', vl', vr', hK', hcn'⟩ := HST.out
        have HN : Hid (KSt (doF F o) cn' vl' vr' ∧ ∀ r, cn' r ≤ i + 1) := ⟨hK', hcn'⟩
        have HM3 : Hid (Md w3 (w.heap.size + 1) w.heap.size (2 * (i + 1)) (doF F o)) := hM3
        clear HST hM2 hb2r hdo hM3 hk3 hK' hcn' hM
        go_wp2
        go_roundw
        case rel => exact ⟨i + 1, _, cn', vl', vr', by go_num, by omega, by omega, HM3.out, HN, hb3⟩
        case measure => simp [intOf]; omega
      · have HE : Hid _ := And.intro HL.out.1 (fun r => Nat.le_trans (HL.out.2 r) (show i ≤ 80 by omega))
        by_cases hi1 : i < l.length
        · have g1 : (i : Int) < (l.length : Int) := by omega
          have g2 : ¬ (i : Int) < 60 := by omega
          clear hlt HL
          go_wp2
          go_meet
          case rel => exact ⟨2 * i, F, cn, vl, vr, by omega, hM, HE, hbr⟩
        · have g1 : ¬ (i : Int) < (l.length : Int) := by omega
          clear hlt HL
          go_wp2
          go_meet
          case rel => exact ⟨2 * i, F, cn, vl, vr, by omega, hM, HE, hbr⟩
  case rest =>
    clear hM1 hb1 hq hok
    obtain ⟨n, F, cn, vl, vr, hn160, hMe, HE, hbe⟩ := hcut
    have k1 := run_convert_byte wc (fr % 6) (by omega)
    have c4 : ((fr % 6 : Nat) : Int) = (fr : Int) % 6 := by omega
    simp only [c4] at k1
    obtain ⟨f6, hf6⟩ : ∃ f6, f6 = fr % 6 := ⟨_, rfl⟩
    rw [← hf6] at k1
    obtain ⟨x6, hx6⟩ : ∃ x6, x6 = UInt8.ofNat f6 := ⟨_, rfl⟩
    rw [← hx6] at k1
    have hE1 : (⟨#[114]⟩ : ByteArray) = bstr [114] := rfl
    have hE2 : (⟨#[99]⟩ : ByteArray) = bstr [99] := rfl
    obtain ⟨w5, hw5⟩ : ∃ w5, w5 = wc.alloc (.cells #[.int .u8 ((fr : Int) % 6)] 5) := ⟨_, rfl⟩
    have hb5 : Below wc.heap.size wc w5 := by rw [hw5]; exact (Below.refl _ _).alloc (Nat.le_refl _) _
    have hM5 := hMe.below hb5 hMe.lt.1 hMe.lt.2
    have hbr5 := below2 hbe hb5
    have HW5 : Hid _ := hw5
    have HX6 : Hid _ := hx6
    clear hw5 hx6 hf6 hb5 hMe hbe
    go_upto_block 2 with fail
    rw [← HW5.out, show bstr [114] ++ bstr [x6] = bstr (rowN f6) from by rw [HX6.out]; rfl]
    go_wp2
    go_loopw [8] (fun s8 wr => ∃ c : Nat, s8 = .int .i64 (c : Int) ∧ c ≤ 3 ∧ Md wr (w.heap.size + 1) w.heap.size (n + 10 * c) F ∧ Below w.heap.size w wr) (fun s8 _ => 4 - (intOf s8).toNat)
    case atStart => exact ⟨0, rfl, by omega, hM5, hbr5⟩
    case round =>
      clear hM5 hbr5 HW5 k1 c4
      obtain ⟨c, rfl, hc3, hM, hbr⟩ := hrel
      by_cases hlt : c < 3
      · have g1 : (c : Int) < 3 := by omega
        have k2 := run_convert_byte wr c (by omega)
        obtain ⟨xc, hxc⟩ : ∃ xc, xc = UInt8.ofNat c := ⟨_, rfl⟩
        rw [← hxc] at k2
        have HXC : Hid _ := hxc
        clear hxc
        obtain ⟨P, hP⟩ : ∃ P, P = wr.heap.size + 1 := ⟨_, rfl⟩
        obtain ⟨w3, hw3⟩ : ∃ w3, w3 = (wr.alloc (.cells #[.int .u8 (c : Int)] 5)).alloc (.cells #[.int .i64 0, .bool false, .string ⟨#[]⟩, .string ⟨#[]⟩, .int .u64 0] 29) := ⟨_, rfl⟩
        have hb3 : Below wr.heap.size wr w3 := by rw [hw3]; exact ((Below.refl _ _).alloc (Nat.le_refl _) _).alloc (by simp) _
        have hR3 : RzB w3 P rz0 := by
          have h := RzB.new (wr.alloc (.cells #[.int .u8 (c : Int)] 5))
          rw [World.size_alloc] at h
          rw [hw3, hP]
          exact h
        have hM3 := hM.below hb3 hM.lt.1 hM.lt.2
        have hbr3 := below2 hbr hb3
        have hPm : w.heap.size + 1 < P := by have := hM.lt.1; omega
        have HW3 : Hid _ := hw3
        have HP : Hid _ := hP
        clear hw3 hP hb3 hM hbr
        go_upto_block 4 with fail
        rw [← HW3.out, ← HP.out, show bstr [99] ++ bstr [xc] = bstr (colN c) from by rw [HXC.out]; rfl]
        clear HW3 HP k2
        go_cut [11, 12, 13] from 48 to 81 (fun _ _ _ wx => RzB wx P (wntW vl vr (rowN f6) c 4) ∧ Md wx (w.heap.size + 1) w.heap.size (n + 10 * c + 8) F ∧ Below w.heap.size w wx)
        case first =>
          go_wp2
          go_loopw [11] (fun s11 wx => ∃ (z : Int) (t : Nat), s11 = .int .i64 z ∧ z + 1 = (t : Int) ∧ t ≤ 4 ∧ RzB wx P (wntW vl vr (rowN f6) c (4 - t)) ∧ Md wx (w.heap.size + 1) w.heap.size (n + 10 * c + 2 * (4 - t)) F ∧ Below w.heap.size w wx) (fun s11 _ => (intOf s11 + 1).toNat)
          case atStart => exact ⟨3, 4, rfl, rfl, Nat.le_refl _, hR3, hM3, hbr3⟩
          case round =>
            clear hR3 hM3 hbr3
            obtain ⟨z, t, rfl, hzt, ht4, hR, hM, hbr⟩ := hrel
            cases t with
            | zero =>
              have g2 : ¬ 0 ≤ z := by omega
              have HR : Hid _ := hR
              have HM : Hid _ := hM
              clear hR hM
              go_wp2
              go_meet
              case rel => exact ⟨HR.out, HM.out, hbr⟩
            | succ k =>
              obtain rfl : z = (k : Int) := by omega
              have hk4 : k < 4 := by omega
              have g2 : (0 : Int) ≤ (k : Int) := by omega
              have k3 := run_convert_byte wr k (by omega)
              obtain ⟨xk, hxk⟩ : ∃ xk, xk = UInt8.ofNat k := ⟨_, rfl⟩
              rw [← hxk] at k3
              have HXK : Hid _ := hxk
              clear hxk
              obtain ⟨w2, hw2⟩ : ∃ w2, w2 = wr.alloc (.cells #[.int .u8 (k : Int)] 5) := ⟨_, rfl⟩
              have hb2 : Below wr.heap.size wr w2 := by rw [hw2]; exact (Below.refl _ _).alloc (Nat.le_refl _) _
              have hR2 := hR.below hb2 (blk_lt hR)
              have hM2 := hM.below hb2 hM.lt.1 hM.lt.2
              have hbr2 := below2 hbr hb2
              have HW2 : Hid _ := hw2
              have hE3 : (⟨#[]⟩ : ByteArray) = bstr [] := rfl
              clear hw2 hb2 hR hM hbr
              go_upto_region 18 with fail
              rw [← HW2.out, show bstr [114] ++ bstr [xk] = bstr (rowN k) from by rw [HXK.out]; rfl]
              clear HW2 k3
              go_wp2_with fail
              refine (op15_any 2 (rowN k) (colN c) [] w2).mono ?_
              rintro e w3' ⟨rfl, hb3⟩
              have hRx := hR2.below hb3 (blk_lt hR2)
              have hMx := hM2.below hb3 hM2.lt.1 hM2.lt.2
              have hbrx := below2 hbr2 hb3
              have hget := KSt.get hMx HE.out.1 HE.out.2 (by omega) (by omega) hk4 hlt
              clear hR2 hM2 hbr2 hb3
              go_wp2_with fail
              refine hget.mono ?_
              rintro e w4 ⟨rfl, hM4, hk4'⟩
              have hR4 := hRx.kept hk4' (by omega)
              have hbr4 := bel_kp hbrx hk4' (fun j hj => by omega)
              clear hget hRx hMx hbrx hk4'
              obtain ⟨⟨p0, p1, p2, p3, p4⟩, hG⟩ : ∃ R, R = getW vl vr (3 * k + c) := ⟨_, rfl⟩
              rw [← hG]
              obtain ⟨w5', hw5⟩ : ∃ w5', w5' = w4.alloc (.cells #[.int .i64 p0, .bool p1, .string (bstr p2), .string (bstr p3), .int .u64 p4] 29) := ⟨_, rfl⟩
              have hb5 : Below w4.heap.size w4 w5' := by rw [hw5]; exact (Below.refl _ _).alloc (Nat.le_refl _) _
              have hG5 : RzB w5' w4.heap.size ⟨p0, p1, p2, p3, p4⟩ := by rw [hw5]; exact heap_alloc_new w4 _
              have hR5 := hR4.below hb5 (blk_lt hR4)
              have hM5 := hM4.below hb5 hM4.lt.1 hM4.lt.2
              have hbr5 := below2 hbr4 hb5
              have hPg : P ≠ w4.heap.size := Nat.ne_of_lt (blk_lt hR4)
              have HW5' : Hid _ := hw5
              have HG : Hid _ := hG
              clear hw5 hG hb5 hR4 hM4 hbr4
              clear hE3
              go_upto_region 19 with fail
              rw [← HW5'.out]
              have hws := wntW_succ vl vr (rowN f6) c hk4
              obtain ⟨y0, y1, y2, y3, y4⟩ := hG5.facts
              simp only at y0 y1 y2 y3 y4
              have HR5 : Hid _ := hR5
              have HM5 : Hid (Md w5' (w.heap.size + 1) w.heap.size (n + 10 * c + 2 * (4 - k)) F) := hM5.mono (by omega)
              have fz := hR5.frz
              obtain ⟨o0, o1, o2, o3, o4⟩ := hR5.facts
              have HWS : Hid _ := hws
              clear HW5' hG5 hR5 hM5 hws
              cases hls : ls (rowN k) (rowN f6) with
              | true =>
                have HW9 : Hid _ := HWS.out.trans (if_neg (fun h => by rw [hls] at h; cases h.1))
                have HR9 : Hid (RzB w5' P (wntW vl vr (rowN f6) c (4 - k))) := by rw [HW9.out]; exact HR5.out
                clear HR5
                go_wp2
                go_roundw
                case rel => exact ⟨_, k, by go_num, by omega, by omega, HR9.out, HM5.out, hbr5⟩
                case measure => simp [intOf] <;> omega
              | false =>
                by_cases hv : 0 < vr (3 * k + c)
                · have hW9 := HWS.out.trans (if_pos ⟨hls, hv⟩)
                  have hG9 := HG.out
                  rw [getW, if_pos hv] at hG9
                  cases hG9
                  try simp only at y0 y1 y2 y3 y4
                  have HRZ : Hid (RzB (((((w5'.setCell ⟨P, 0, none⟩ (.int .i64 0)).setCell ⟨P, 1, none⟩ (.bool true)).setCell ⟨P, 2, none⟩ (.string (bstr (rowN k)))).setCell ⟨P, 3, none⟩ (.string (bstr (vl (3 * k + c))))).setCell ⟨P, 4, none⟩ (.int .u64 (vr (3 * k + c) : Int))) P (wntW vl vr (rowN f6) c (4 - k))) := by rw [hW9]; exact RzB.set HR5.out ⟨0, true, rowN k, vl (3 * k + c), (vr (3 * k + c) : Int)⟩
                  have hkp : Kp w5' (((((w5'.setCell ⟨P, 0, none⟩ (.int .i64 0)).setCell ⟨P, 1, none⟩ (.bool true)).setCell ⟨P, 2, none⟩ (.string (bstr (rowN k)))).setCell ⟨P, 3, none⟩ (.string (bstr (vl (3 * k + c))))).setCell ⟨P, 4, none⟩ (.int .u64 (vr (3 * k + c) : Int))) (fun j => j = P) := kp_P5 _ _ _ _ _ (Kp.refl _ _)
                  have HMZ : Hid _ := HM5.out.kept (hkp.block _ HM5.out.lt.1 (by omega)) (hkp.block _ HM5.out.lt.2 (by omega))
                  have HBZ : Hid _ := bel_kp hbr5 hkp (fun j hj => by omega)
                  clear hW9 hkp HR5 HM5 HWS HG hbr5
                  go_wp2
                  go_roundw
                  case rel => exact ⟨_, k, by go_num, by omega, by omega, HRZ.out, HMZ.out, HBZ.out⟩
                  case measure => simp [intOf] <;> omega
                · have hG9 := HG.out
                  rw [getW, if_neg hv] at hG9
                  cases hG9
                  try simp only at y0 y1 y2 y3 y4
                  have HW9 : Hid _ := HWS.out.trans (if_neg (fun h => hv h.2))
                  have HR9 : Hid (RzB w5' P (wntW vl vr (rowN f6) c (4 - k))) := by rw [HW9.out]; exact HR5.out
                  clear HR5 HG HWS
                  go_wp2
                  go_roundw
                  case rel => exact ⟨_, k, by go_num, by omega, by omega, HR9.out, HM5.out, hbr5⟩
                  case measure => simp [intOf] <;> omega
        case rest =>
          clear hR3 hM3 hbr3
          obtain ⟨hR, hM, hbr⟩ := hcut
          have hE3 : (⟨#[]⟩ : ByteArray) = bstr [] := rfl
          have hop := op15_any 5 (rowN f6) (colN c) []
          have hsk := fun (X : World) (hX : Md X (w.heap.size + 1) w.heap.size (n + 10 * c + 8) F) => KSt.seek hX HE.out.1 f6 hlt
          obtain ⟨⟨t0, t1, t2, t3, t4⟩, hT⟩ : ∃ T, T = wntW vl vr (rowN f6) c 4 := ⟨_, rfl⟩
          rw [← hT] at hR hsk
          obtain ⟨q0, q1, q2, q3, q4⟩ := hR.facts
          simp only at q0 q1 q2 q3 q4
          have hself := rz_self t0 t1 t2 t3 t4
          clear hT hR
          go_upto_region 21 with fail
          go_region_held3 (fun w' => w'.cell? ⟨P, 0, none⟩ = some (.int .i64 t0) ∧ w'.cell? ⟨P, 1, none⟩ = some (.bool t1) ∧ w'.cell? ⟨P, 2, none⟩ = some (.string (bstr t2)) ∧ w'.cell? ⟨P, 3, none⟩ = some (.string (bstr t3)) ∧ w'.cell? ⟨P, 4, none⟩ = some (.int .u64 t4)) (first | with_reducible exact ⟨q0, q1, q2, q3, q4⟩ | go_keep)
            (first
              | (go_at_call 16; with_reducible refine (hop _).mono ?_; rintro e wf ⟨rfl, hbf⟩; obtain ⟨X, hX⟩ : ∃ X, RowKit.Below wc.heap.size wc X ∧ RowKit.Below X.heap.size X wf := ⟨_, (by repeat (first | exact RowKit.Below.refl _ _ | refine RowKit.Below.drew ?_)), hbf⟩; replace q0 := kcY hX.1 hX.2 q0; replace q1 := kcY hX.1 hX.2 q1; replace q2 := kcY hX.1 hX.2 q2; replace q3 := kcY hX.1 hX.2 q3; replace q4 := kcY hX.1 hX.2 q4; have hbz := below2 hX.1 hX.2; have hMf := hM.below hbz hM.lt.1 hM.lt.2; clear hX)
              | (go_at_call 10; with_reducible refine (hsk _ hMf).mono ?_; rintro e wg ⟨rfl, hbg⟩; replace q0 := kcY hbg (RowKit.Below.refl _ _) q0; replace q1 := kcY hbg (RowKit.Below.refl _ _) q1; replace q2 := kcY hbg (RowKit.Below.refl _ _) q2; replace q3 := kcY hbg (RowKit.Below.refl _ _) q3; replace q4 := kcY hbg (RowKit.Below.refl _ _) q4; have hMg := hMf.below hbg hMf.lt.1 hMf.lt.2; have hbw := below2 (below2 hbr hbz) hbg))
          have HMN : Hid (Md wg (w.heap.size + 1) w.heap.size (n + 10 * (c + 1)) F) := hMg.mono (by omega)
          clear hMg hMf hM hbz hbr hop hsk
          go_wp2
          go_roundw
          case rel => exact ⟨c + 1, by go_num, by omega, HMN.out, hbw⟩
          case measure => simp [intOf] <;> omega
      · have g1 : ¬ (c : Int) < 3 := by omega
        go_wp2_with fail
        refine (works15_any _).mono ?_
        rintro e w9 ⟨rfl, hb9⟩
        have hfin := below2 hbr hb9
        go_wp2
        go_ret
        exact ⟨rfl, hfin⟩

end Go.Proofs.Ytlkikfkchgmmhaa
