/-
  The law ModelLast, walked.
-/
import Derived.Test.YtlkikfkchgmmhaaYLst1
namespace Go.Proofs.Ytlkikfkchgmmhaa
open Go.RowKit Go.BigFrame Go.Sort
attribute [local go_sem] size_bstr toList_bstr ls_def

set_option maxHeartbeats 8000000 in
set_option maxRecDepth 100000 in
theorem MLast_any (q : Option Addr) (b off cap : Nat) (l : List Ac) (w : World) (hq : 0 < l.length → q = some ⟨b, off, none⟩ ∧ AcRow w b off l ∧ b < w.heap.size) (hok : ∀ a ∈ l, AcOk a) (hn : l.length ≤ 140737488351232) :
    Calls Try.prog 4 #[.slice q l.length cap] w fun e w' => e = .returned (.bool true) ∧ Below w.heap.size w w' := by
  go_enter Try.func4, Try.ntmps4
  go_wp2_with fail
  refine (YNew_any w).mono ?_
  rintro e w1 ⟨rfl, hM1, hb1⟩
  obtain ⟨N, hN⟩ : ∃ N, N = w1.heap.size := ⟨_, rfl⟩
  have hM1 : Md w1 (w.heap.size + 1) w.heap.size 0 (fun _ _ => none) := hM1
  have hgN : w.heap.size + 1 < N := by rw [hN]; exact hM1.lt.1
  obtain ⟨w4, hw4⟩ : ∃ w4, w4 = ((w1.alloc (.cells #[.int .u64 0, .int .u64 0, .int .u64 0, .int .u64 0] 42)).alloc (.cells #[.string ⟨#[]⟩, .string ⟨#[]⟩, .string ⟨#[]⟩, .string ⟨#[]⟩, .string ⟨#[]⟩, .string ⟨#[]⟩, .string ⟨#[]⟩, .string ⟨#[]⟩, .string ⟨#[]⟩, .string ⟨#[]⟩, .string ⟨#[]⟩, .string ⟨#[]⟩] 43)).alloc (.cells #[.int .u64 0, .int .u64 0, .int .u64 0, .int .u64 0, .int .u64 0, .int .u64 0, .int .u64 0, .int .u64 0, .int .u64 0, .int .u64 0, .int .u64 0, .int .u64 0] 44) := ⟨_, rfl⟩
  have hL4 : LWd N (w.heap.size + 1) w.heap.size w4 0 (fun _ _ => none) (fun _ => 0) (fun _ => []) (fun _ => 0) := by
    have e1 := heap_alloc_new w1 (.cells #[.int .u64 0, .int .u64 0, .int .u64 0, .int .u64 0] 42)
    have e2 := heap_alloc_new (w1.alloc (.cells #[.int .u64 0, .int .u64 0, .int .u64 0, .int .u64 0] 42)) (.cells #[.string ⟨#[]⟩, .string ⟨#[]⟩, .string ⟨#[]⟩, .string ⟨#[]⟩, .string ⟨#[]⟩, .string ⟨#[]⟩, .string ⟨#[]⟩, .string ⟨#[]⟩, .string ⟨#[]⟩, .string ⟨#[]⟩, .string ⟨#[]⟩, .string ⟨#[]⟩] 43)
    have e3 := heap_alloc_new ((w1.alloc (.cells #[.int .u64 0, .int .u64 0, .int .u64 0, .int .u64 0] 42)).alloc (.cells #[.string ⟨#[]⟩, .string ⟨#[]⟩, .string ⟨#[]⟩, .string ⟨#[]⟩, .string ⟨#[]⟩, .string ⟨#[]⟩, .string ⟨#[]⟩, .string ⟨#[]⟩, .string ⟨#[]⟩, .string ⟨#[]⟩, .string ⟨#[]⟩, .string ⟨#[]⟩] 43)) (.cells #[.int .u64 0, .int .u64 0, .int .u64 0, .int .u64 0, .int .u64 0, .int .u64 0, .int .u64 0, .int .u64 0, .int .u64 0, .int .u64 0, .int .u64 0, .int .u64 0] 44)
    simp only [World.size_alloc, ← hN] at e1 e2 e3
    have hbz : Below w1.heap.size w1 w4 := by rw [hw4]; exact (((Below.refl _ _).alloc (Nat.le_refl _) _).alloc (by simp) _).alloc (by simp; omega) _
    refine ⟨hgN, by omega, hM1.below hbz hM1.lt.1 hM1.lt.2, ?_, ?_, ?_⟩
    · rw [hw4]
      exact (Below.heap_alloc _ _ _ (by simp; omega)).trans ((Below.heap_alloc _ _ _ (by simp; omega)).trans e1)
    · rw [hw4]
      exact (Below.heap_alloc _ _ _ (by simp; omega)).trans e2
    · rw [hw4]
      exact e3
  have hb4 : Below w.heap.size w w4 := by rw [hw4]; have := hb1.size; exact ((hb1.alloc this _).alloc (by simp; omega) _).alloc (by simp; omega) _
  have HW4 : Hid _ := hw4
  have HN : Hid _ := hN
  clear hw4 hM1
  go_upto_block 0 with fail
  rw [← HW4.out, ← HN.out]
  clear HW4 HN hN
  go_cut [] from 7 (fun wx => ∃ (n : Nat) (F : Mf) (cn : Nat → Nat) (vl : Nat → List UInt8) (vr : Nat → Nat), n ≤ 160 ∧ Hid (LWd N (w.heap.size + 1) w.heap.size wx n F cn vl vr ∧ LSt F cn vl vr ∧ FInv F ∧ ∀ r, cn r ≤ 80) ∧ Below w.heap.size w wx)
  case first =>
    go_wp2
    go_loopw [7] (fun s7 wr => ∃ (i : Nat) (F : Mf) (cn : Nat → Nat) (vl : Nat → List UInt8) (vr : Nat → Nat), s7 = .int .i64 (i : Int) ∧ i ≤ l.length ∧ i ≤ 80 ∧ Hid (LWd N (w.heap.size + 1) w.heap.size wr (2 * i) F cn vl vr ∧ LSt F cn vl vr ∧ FInv F ∧ (∀ r, cn r ≤ i)) ∧ Below w.heap.size w wr) (fun s7 _ => 81 - (intOf s7).toNat)
    case atStart => exact ⟨0, _, _, _, _, rfl, by omega, by omega, ⟨hL4, LSt.none, FInv.none, fun _ => Nat.le_refl _⟩, hb4⟩
    case round =>
      obtain ⟨i, F, cn, vl, vr, rfl, hil, hi80, HL, hbr⟩ := hrel
      by_cases hlt : i < l.length ∧ i < 80
      · obtain ⟨hl1, hl2⟩ := hlt
        obtain ⟨rfl, hrow, hbl⟩ := hq (by omega)
        obtain ⟨a, ha⟩ : ∃ a, a = l[i] := ⟨_, rfl⟩
        have hA : AcB w b (off + i * 6) a := by rw [ha]; exact hrow i hl1
        have hoka : AcOk a := by rw [ha]; exact hok _ (List.getElem_mem hl1)
        have hc : ∀ o v, w.cell? ⟨b, o, none⟩ = some v → wr.cell? ⟨b, o, none⟩ = some v := fun o v h => by rw [World.cell?_of_block (hbr.block b hbl)]; exact h
        obtain ⟨a0, a1, a2, a3, a4, a5⟩ := hA
        have hcall := of15_any a hoka wr
        obtain ⟨hmay, hk1, hk4, horow, hocol⟩ := ofQ_may a
        have hlen := ofQ_len a
        obtain ⟨hat, n1, n2, hr4, hc3⟩ := last_num a.r a.c
        obtain ⟨hLW, hLS, hFI, hcn⟩ := HL.out
        have hans := hLS.ans hr4 hc3 horow hocol hmay ⟨hk1, hk4⟩ (by have := hcn (a.r % 4); omega)
        have hstep := hLS.step hr4 hc3 horow hocol hmay ⟨hk1, hk4⟩ (by have := hcn (a.r % 4); omega)
        have hFI2 := doF_inv hFI a
        have hcnr := hcn (a.r % 4)
        obtain ⟨o, ho⟩ : ∃ o, o = ofQ a := ⟨_, rfl⟩
        obtain ⟨kO, rO, cO, vO, hO, eO⟩ := o
        rw [← ho] at hcall hmay hk1 hk4 horow hocol hlen hans hstep hFI2
        obtain ⟨at_, hat_⟩ : ∃ at_, at_ = 3 * (a.r % 4) + a.c % 3 := ⟨_, rfl⟩
        rw [← hat_] at hat n2 hans hstep
        obtain ⟨rr, hrr⟩ : ∃ rr, rr = a.r % 4 := ⟨_, rfl⟩
        rw [← hrr] at n1 hans hstep hcnr hr4
        have b0 := hc _ _ a0
        have b1 := hc _ _ a1
        have b2 := hc _ _ a2
        have b3 := hc _ _ a3
        have b4 := hc _ _ a4
        have b5 := hc _ _ a5
        have hi1 : (i : Int) < (l.length : Int) := by omega
        have hi2 : (i : Int) < 80 := by omega
        have HA : Hid _ := And.intro hans (And.intro hstep (And.intro hFI2 hcn))
        have HM : Hid _ := And.intro hmay (And.intro hlen (And.intro ha (And.intro ho (And.intro hrr (And.intro hat_ (And.intro horow hocol))))))
        have HNM : Hid _ := And.intro n1 n2
        have HK : Hid _ := And.intro hk1 hk4
        clear hans hstep hFI2 hcn hmay hlen ha ho hrr hat_ n1 n2 hk1 hk4 horow hocol a0 a1 a2 a3 a4 a5 hrow hc hoka
        go_wp2_with fail
        refine hcall.mono ?_
        rintro e w2 ⟨rfl, hb2⟩
        obtain ⟨w3, hw3⟩ : ∃ w3, w3 = w2.alloc (.cells #[.int .i64 kO, .string (bstr rO), .string (bstr cO), .string (bstr vO), .bool hO, .string (bstr eO)] 32) := ⟨_, rfl⟩
        have hb3 : Below w2.heap.size w2 w3 := by rw [hw3]; exact (Below.refl _ _).alloc (Nat.le_refl _) _
        have hO3 : OqB w3 w2.heap.size ⟨kO, rO, cO, vO, hO, eO⟩ := by rw [hw3]; exact heap_alloc_new w2 _
        have hb23 := below2 hb2 hb3
        have hbl3 : b < wr.heap.size := Nat.lt_of_lt_of_le hbl hbr.size
        have hc3 : ∀ o v, wr.cell? ⟨b, o, none⟩ = some v → w3.cell? ⟨b, o, none⟩ = some v := fun o v h => by rw [World.cell?_of_block (hb23.block b hbl3)]; exact h
        have d1 := hc3 _ _ b1
        have d2 := hc3 _ _ b2
        have hb3r := below2 hbr hb23
        have hL3 := hLW.below hb23 hLW.lt
        have hN2 : N + 3 ≤ w2.heap.size := Nat.le_trans hLW.lt hb2.size
        clear hLW HL b0 b1 b2 b3 b4 b5 hc3 hb2 hb3 hcall
        have HW3 : Hid _ := hw3
        clear hw3
        go_upto_region 11 with fail
        rw [← HW3.out]
        go_upto_region 13 with fail
        obtain ⟨n1, n2⟩ := HNM.out
        simp only [n1] at n2
        simp only [n1, n2]
        have e3 := hL3.a3.cell hat
        have haz : (at_ : Int) < 12 := by omega
        obtain ⟨th, hth⟩ : ∃ th, th = decide (0 < vr at_) := ⟨_, rfl⟩
        have hthz : decide (0 < (vr at_ : Int)) = th := by rw [hth]; congr 1; exact propext (by omega)
        clear n1 n2 HNM HW3 d1 d2
        unfold cnV at e3
        go_upto_region 14 with fail
        rw [← hth]
        have HTH : Hid _ := hth
        clear hth
        obtain ⟨P, hP⟩ : ∃ P, P = w3.heap.size := ⟨_, rfl⟩
        obtain ⟨w5, hw5⟩ : ∃ w5, w5 = w3.alloc (.cells #[.int .i64 0, .bool false, .string ⟨#[]⟩, .string ⟨#[]⟩, .int .u64 0] 29) := ⟨_, rfl⟩
        have hb5 : Below w3.heap.size w3 w5 := by rw [hw5]; exact (Below.refl _ _).alloc (Nat.le_refl _) _
        have hy5 : RzB w5 P rz0 := by rw [hw5, hP]; exact RzB.new w3
        have hO5 := op_row _ _ hO3 hb5 (blk_lt hO3)
        have hL5 := hL3.below hb5 hL3.lt
        have hbr5 := below2 hb3r hb5
        have hPN : N + 3 ≤ P := by rw [hP]; exact hL3.lt
        have hPO : w2.heap.size < P := by rw [hP]; exact blk_lt hO3
        have hPw : w.heap.size ≤ P := by omega
        have HW5 : Hid _ := hw5
        have HP : Hid _ := hP
        clear hw5 hP e3 hthz hL3 hO3
        obtain ⟨k1, k4⟩ := HK.out
        obtain ⟨o0, o1, o2, o3, o4, o5⟩ := hO5.facts
        simp only at k1 k4 o0 o1 o2 o3 o4 o5
        go_upto_region 15 with fail
        rw [← HW5.out, ← HP.out]
        clear HW5
        go_upto_block 2 with fail
        obtain ⟨same, hsame⟩ : ∃ same, same = decide (vl at_ = eO) := ⟨_, rfl⟩
        have HSM : Hid _ := hsame
        clear hsame
        go_cut [13] from 57 to 132 (fun s13 wx => ∃ ch : Bool, s13 = .bool ch ∧ ch = chgW kO th hO same ∧ RzB wx P (preW kO th ch (vl at_) (vr at_)) ∧ Kp w5 wx (fun j => j = P))
        case first =>
          have e2 := hL5.a2.cell hat
          have e3 := hL5.a3.cell hat
          unfold cnV at e3
          unfold vlV at e2
          obtain ⟨y0, y1, y2, y3, y4⟩ := hy5.facts
          have fy := hy5.frz
          have hat0 : (0 : Int) ≤ (at_ : Int) := by omega
          rcases (show kO = 1 ∨ kO = 2 ∨ kO = 3 ∨ kO = 4 by omega) with rfl | rfl | rfl | rfl
          · go_wp2
            go_meet
            case rel => exact ⟨true, rfl, rfl, hy5, Kp.refl _ _⟩
          · cases th with
            | false =>
              go_wp2
              go_meet
              case rel => exact ⟨false, rfl, rfl, hy5, Kp.refl _ _⟩
            | true =>
              have HR : Hid _ := hy5.set ⟨0, true, [], vl at_, (vr at_ : Int)⟩
              have HK5 : Hid _ := kp_P5 (.int .i64 0) (.bool true) (.string (bstr [])) (.string (bstr (vl at_))) (.int .u64 (vr at_ : Int)) (Kp.refl w5 (fun j => j = P))
              go_upto_region 25 with fail
              go_region
              go_wp2
              go_meet
              case rel => exact ⟨false, rfl, rfl, HR.out, HK5.out.drew⟩
          · have HR : Hid _ := hy5.set1 th
            have HK5 : Hid _ := (Kp.refl w5 (fun j => j = P)).setCell (b := P) (o := 1) (.bool th) (.inl rfl)
            go_wp2
            go_meet
            case rel =>
              refine ⟨th, rfl, rfl, ?_, HK5.out⟩
              have := HR.out
              cases th
              · exact this
              · exact this
          · have hkp := Kp.refl w5 (fun j => j = P)
            have hdr := fun n => hkp.drewN (n := n)
            have hyd : ∀ n, RzB (w5.drewN n) P rz0 := fun n => hy5
            have hed2 : ∀ n, (w5.drewN n).cell? ⟨N + 1, at_, none⟩ = some (.string (bstr (vl at_))) := fun n => e2
            have hed3 : ∀ n, (w5.drewN n).cell? ⟨N + 1 + 1, at_, none⟩ = some (.int .u64 (vr at_ : Int)) := fun n => e3
            have hodn : ∀ n, OqB (w5.drewN n) w2.heap.size ⟨4, rO, cO, vO, hO, eO⟩ := fun n => hO5
            cases th with
            | true =>
              cases hO with
              | true =>
                cases same with
                | true =>
                  have hve : vl at_ = eO := of_decide_eq_true HSM.out.symm
                  subst hve
                  go_upto_region 17 with fail
                  go_quiet (fail)
                  have hyq := hyd nq
                  have hkq := hdr nq
                  have e2q := hed2 nq
                  have e3q := hed3 nq
                  clear hyd hdr hed2 hed3 hodn o0 o1 o2 o3 o4 o5 e2 e3 y0 y1 y2 y3 y4 fy hkp
                  generalize w5.drewN nq = wq at *
                  obtain ⟨y0, y1, y2, y3, y4⟩ := hyq.facts
                  have fq := hyq.frz
                  simp only at y0 y1 y2 y3 y4
                  have HR : Hid _ := hyq.set1 true
                  have HK5 : Hid _ := hkq.setCell (b := P) (o := 1) (.bool true) (.inl rfl)
                  go_wp2
                  go_meet
                  case rel => exact ⟨true, rfl, rfl, HR.out, HK5.out⟩
                | false =>
                  have hve : (vl at_ == eO) = false := by have := HSM.out; simpa using this
                  go_upto_region 17 with fail
                  go_quiet (fail)
                  have hyq := hyd nq
                  have hkq := hdr nq
                  have e2q := hed2 nq
                  have e3q := hed3 nq
                  clear hyd hdr hed2 hed3 hodn o0 o1 o2 o3 o4 o5 e2 e3 y0 y1 y2 y3 y4 fy hkp
                  generalize w5.drewN nq = wq at *
                  obtain ⟨y0, y1, y2, y3, y4⟩ := hyq.facts
                  have fq := hyq.frz
                  simp only at y0 y1 y2 y3 y4
                  obtain ⟨wS, hwS⟩ : ∃ wS, wS = wq.setCell ⟨P, 1, none⟩ (.bool false) := ⟨_, rfl⟩
                  have hyS : RzB wS P ⟨0, false, [], [], 0⟩ := by rw [hwS]; exact hyq.set1 false
                  have hkS : Kp w5 wS (fun j => j = P) := by rw [hwS]; exact hkq.setCell (b := P) (o := 1) (.bool false) (.inl rfl)
                  have e2S : wS.cell? ⟨N + 1, at_, none⟩ = some (.string (bstr (vl at_))) := by rw [hwS]; exact (World.cell?_of_block (heap_set_other (b := P) (i := N + 1) (o := 1) _ (by omega))).trans e2q
                  have e3S : wS.cell? ⟨N + 1 + 1, at_, none⟩ = some (.int .u64 (vr at_ : Int)) := by rw [hwS]; exact (World.cell?_of_block (heap_set_other (b := P) (i := N + 1 + 1) (o := 1) _ (by omega))).trans e3q
                  have HWS : Hid _ := hwS
                  clear hwS
                  go_upto_region 19 with fail
                  rw [← HWS.out]
                  clear HWS hyq hkq e2q e3q y0 y1 y2 y3 y4 fq
                  obtain ⟨y0, y1, y2, y3, y4⟩ := hyS.facts
                  have fq := hyS.frz
                  simp only at y0 y1 y2 y3 y4
                  have HR : Hid _ := hyS.set ⟨0, false, [], vl at_, (vr at_ : Int)⟩
                  have HK5 : Hid _ := kp_P5 (.int .i64 0) (.bool false) (.string (bstr [])) (.string (bstr (vl at_))) (.int .u64 (vr at_ : Int)) hkS
                  go_upto_region 20 with fail
                  go_region
                  go_wp2
                  go_meet
                  case rel => exact ⟨false, rfl, rfl, HR.out, HK5.out.drew⟩
              | false =>
                go_upto_region 17 with fail
                go_quiet (fail)
                have hyq := hyd nq
                have hkq := hdr nq
                have e2q := hed2 nq
                have e3q := hed3 nq
                clear hyd hdr hed2 hed3 hodn o0 o1 o2 o3 o4 o5 e2 e3 y0 y1 y2 y3 y4 fy hkp
                generalize w5.drewN nq = wq at *
                obtain ⟨y0, y1, y2, y3, y4⟩ := hyq.facts
                have fq := hyq.frz
                simp only at y0 y1 y2 y3 y4
                obtain ⟨wS, hwS⟩ : ∃ wS, wS = wq.setCell ⟨P, 1, none⟩ (.bool false) := ⟨_, rfl⟩
                have hyS : RzB wS P ⟨0, false, [], [], 0⟩ := by rw [hwS]; exact hyq.set1 false
                have hkS : Kp w5 wS (fun j => j = P) := by rw [hwS]; exact hkq.setCell (b := P) (o := 1) (.bool false) (.inl rfl)
                have e2S : wS.cell? ⟨N + 1, at_, none⟩ = some (.string (bstr (vl at_))) := by rw [hwS]; exact (World.cell?_of_block (heap_set_other (b := P) (i := N + 1) (o := 1) _ (by omega))).trans e2q
                have e3S : wS.cell? ⟨N + 1 + 1, at_, none⟩ = some (.int .u64 (vr at_ : Int)) := by rw [hwS]; exact (World.cell?_of_block (heap_set_other (b := P) (i := N + 1 + 1) (o := 1) _ (by omega))).trans e3q
                have HWS : Hid _ := hwS
                clear hwS
                go_upto_region 19 with fail
                rw [← HWS.out]
                clear HWS hyq hkq e2q e3q y0 y1 y2 y3 y4 fq
                obtain ⟨y0, y1, y2, y3, y4⟩ := hyS.facts
                have fq := hyS.frz
                simp only at y0 y1 y2 y3 y4
                have HR : Hid _ := hyS.set ⟨0, false, [], vl at_, (vr at_ : Int)⟩
                have HK5 : Hid _ := kp_P5 (.int .i64 0) (.bool false) (.string (bstr [])) (.string (bstr (vl at_))) (.int .u64 (vr at_ : Int)) hkS
                go_upto_region 20 with fail
                go_region
                go_wp2
                go_meet
                case rel => exact ⟨false, rfl, rfl, HR.out, HK5.out.drew⟩
            | false =>
              cases hO with
              | true =>
                go_upto_region 17 with fail
                go_quiet (fail)
                have hyq := hyd nq
                have hkq := hdr nq
                have e2q := hed2 nq
                have e3q := hed3 nq
                clear hyd hdr hed2 hed3 hodn o0 o1 o2 o3 o4 o5 e2 e3 y0 y1 y2 y3 y4 fy hkp
                generalize w5.drewN nq = wq at *
                obtain ⟨y0, y1, y2, y3, y4⟩ := hyq.facts
                have fq := hyq.frz
                simp only at y0 y1 y2 y3 y4
                have HR : Hid _ := hyq.set1 false
                have HK5 : Hid _ := hkq.setCell (b := P) (o := 1) (.bool false) (.inl rfl)
                go_wp2
                go_meet
                case rel => exact ⟨false, rfl, rfl, HR.out, HK5.out⟩
              | false =>
                go_upto_region 17 with fail
                go_quiet (fail)
                have hyq := hyd nq
                have hkq := hdr nq
                have e2q := hed2 nq
                have e3q := hed3 nq
                clear hyd hdr hed2 hed3 hodn o0 o1 o2 o3 o4 o5 e2 e3 y0 y1 y2 y3 y4 fy hkp
                generalize w5.drewN nq = wq at *
                obtain ⟨y0, y1, y2, y3, y4⟩ := hyq.facts
                have fq := hyq.frz
                simp only at y0 y1 y2 y3 y4
                have HR : Hid _ := hyq.set1 true
                have HK5 : Hid _ := hkq.setCell (b := P) (o := 1) (.bool true) (.inl rfl)
                go_wp2
                go_meet
                case rel => exact ⟨true, rfl, rfl, HR.out, HK5.out⟩
        case rest =>
          obtain ⟨ch, rfl, hch, hyR, hkR⟩ := hcut
          have hLc := hL5.keep (wx := wc) (fun j hj => hkR.block j (by have := hL5.lt; omega) (by omega))
          have hOc : OqB wc w2.heap.size ⟨kO, rO, cO, vO, hO, eO⟩ := (hkR.block _ (blk_lt hO5) (by omega)).trans hO5
          have hBc : Below w.heap.size w wc := bel_kp hbr5 hkR (fun j hj => by rw [hj]; exact hPw)
          have HCH : Hid _ := hch
          clear hL5 hO5 hbr5 hkR hy5 o0 o1 o2 o3 o4 o5 hch
          obtain ⟨o0, o1, o2, o3, o4, o5⟩ := hOc.facts
          simp only at o0 o1 o2 o3 o4 o5
          obtain ⟨hans, hstep, hFI2, hcn⟩ := HA.out
          rw [← HTH.out, ← HSM.out] at hans hstep
          rw [← HCH.out] at hans hstep
          obtain ⟨hst0, hst1⟩ := hstep
          try simp only at hans hst0 hst1
          have hkk : 1 ≤ kO ∧ kO ≤ 4 := ⟨k1, k4⟩
          have hLw2 : N + 3 ≤ w2.heap.size := hN2
          have hwf : ∀ j, (j = N ∨ j = N + 1 ∨ j = N + 1 + 1 ∨ j = P) → w.heap.size ≤ j := by omega
          go_upto_if 104 with fail
          go_cut [] from 105 to 132 (fun wx => ∃ (cn' : Nat → Nat) (vl' : Nat → List UInt8) (vr' : Nat → Nat), Hid (LWd N (w.heap.size + 1) w.heap.size wx (2 * i) F cn' vl' vr' ∧ LSt (doF F ⟨kO, rO, cO, vO, hO, eO⟩) cn' vl' vr' ∧ ∀ r, cn' r ≤ i + 1) ∧ RzB wx P (doR F ⟨kO, rO, cO, vO, hO, eO⟩) ∧ OqB wx w2.heap.size ⟨kO, rO, cO, vO, hO, eO⟩ ∧ Below w.heap.size w wx)
          case first =>
            cases ch with
            | false =>
              have hd := hst0 rfl
              have hR : RzB wc P (doR F ⟨kO, rO, cO, vO, hO, eO⟩) := by rw [hans, preW_no hkk HCH.out.symm]; exact hyR
              have hf : LSt (doF F ⟨kO, rO, cO, vO, hO, eO⟩) cn vl vr := by rw [hd]; exact hLS
              have HF : Hid _ := And.intro hLc (And.intro hf (fun r => Nat.le_succ_of_le (hcn r)))
              clear hans hst0 hst1 hd hf
              go_wp2
              go_meet
              case rel => exact ⟨_, _, _, HF, hR, hOc, hBc⟩
            | true =>
              have hd := hst1 rfl
              obtain ⟨c2, hc2⟩ : ∃ c2, c2 = cn rr + 1 := ⟨_, rfl⟩
              rw [← hc2] at hd
              have hcw : IntKind.u64.wrap ((cn rr : Int) + 1) = (c2 : Int) := by rw [IntKind.wrap_u64]; omega
              have hle2 : ∀ r, updN cn rr c2 r ≤ i + 1 := by rw [hc2]; exact updN_le hcn
              have hR : RzB wc P (preW kO th true (vl at_) (vr at_)) := hyR
              have hans2 : doR F ⟨kO, rO, cO, vO, hO, eO⟩ = ⟨(preW kO th true (vl at_) (vr at_)).err, (preW kO th true (vl at_) (vr at_)).found, (preW kO th true (vl at_) (vr at_)).row, (preW kO th true (vl at_) (vr at_)).val, (c2 : Int)⟩ := by
                rw [hans, preW_yes hkk HCH.out.symm, hc2]
                rfl
              obtain ⟨⟨p0, p1, p2, p3, p4⟩, hpp⟩ : ∃ pw, pw = preW kO th true (vl at_) (vr at_) := ⟨_, rfl⟩
              rw [← hpp] at hans2 hR
              simp only at hans2
              have hz3 : (kO == 3) = decide (kO = 3) := by by_cases h : kO = 3 <;> simp [h]
              obtain ⟨wA, hwA⟩ : ∃ wA, wA = wc.setCell ⟨N, rr, none⟩ (.int .u64 (c2 : Int)) := ⟨_, rfl⟩
              have hLA := hLc.put1 rr c2
              have hRA : RzB wA P ⟨p0, p1, p2, p3, p4⟩ := by rw [hwA]; exact (heap_set_other (b := N) (i := P) _ (by omega)).trans hR
              have hOA : OqB wA w2.heap.size ⟨kO, rO, cO, vO, hO, eO⟩ := by rw [hwA]; exact hOc.other (n := N) (by have := hLw2; omega)
              have hBA : Below w.heap.size w wA := by rw [hwA]; exact hBc.setCell (p := ⟨N, rr, none⟩) (hwf _ (.inl rfl)) _
              rw [← hwA] at hLA
              obtain ⟨wB, hwB⟩ : ∃ wB, wB = wA.setCell ⟨P, 4, none⟩ (.int .u64 (c2 : Int)) := ⟨_, rfl⟩
              have hRB : RzB wB P (doR F ⟨kO, rO, cO, vO, hO, eO⟩) := by rw [hwB, hans2]; exact hRA.set4 c2
              have hLB : LWd N (w.heap.size + 1) w.heap.size wB (2 * i) F (updN cn rr c2) vl vr := by rw [hwB]; exact hLA.keep (fun j hj => heap_set_other _ (by omega))
              have hOB : OqB wB w2.heap.size ⟨kO, rO, cO, vO, hO, eO⟩ := by rw [hwB]; exact hOA.other (n := P) (by omega)
              have hBB : Below w.heap.size w wB := by rw [hwB]; exact hBA.setCell (p := ⟨P, 4, none⟩) (hwf _ (.inr (.inr (.inr rfl)))) _
              obtain ⟨wC, hwC⟩ : ∃ wC, wC = wB.setCell ⟨N + 1, at_, none⟩ (.string (bstr vO)) := ⟨_, rfl⟩
              have hRC : RzB wC P (doR F ⟨kO, rO, cO, vO, hO, eO⟩) := by rw [hwC]; exact (heap_set_other (b := N + 1) (i := P) _ (by omega)).trans hRB
              have hLC := hLB.put2 at_ vO
              have hOC : OqB wC w2.heap.size ⟨kO, rO, cO, vO, hO, eO⟩ := by rw [hwC]; exact hOB.other (n := N + 1) (by have := hLw2; omega)
              have hBC : Below w.heap.size w wC := by rw [hwC]; exact hBB.setCell (p := ⟨N + 1, at_, none⟩) (hwf _ (.inr (.inl rfl))) _
              rw [← hwC] at hLC
              obtain ⟨wD, hwD⟩ : ∃ wD, wD = wC.setCell ⟨N + 1 + 1, at_, none⟩ (.int .u64 (c2 : Int)) := ⟨_, rfl⟩
              have hRD : RzB wD P (doR F ⟨kO, rO, cO, vO, hO, eO⟩) := by rw [hwD]; exact (heap_set_other (b := N + 1 + 1) (i := P) _ (by omega)).trans hRC
              have hLD := hLC.put3 at_ c2
              have hOD : OqB wD w2.heap.size ⟨kO, rO, cO, vO, hO, eO⟩ := by rw [hwD]; exact hOC.other (n := N + 1 + 1) (by have := hLw2; omega)
              have hBD : Below w.heap.size w wD := by rw [hwD]; exact hBC.setCell (p := ⟨N + 1 + 1, at_, none⟩) (hwf _ (.inr (.inr (.inl rfl)))) _
              rw [← hwD] at hLD
              have HWA : Hid _ := hwA
              have HWB : Hid _ := hwB
              have HWC : Hid _ := hwC
              have HWD : Hid _ := hwD
              have hrz : (rr : Int) < 4 := by omega
              have e1 := hLc.a1.cell hr4
              have f1 := hLc.a1.frz
              unfold cnV at e1
              clear hwA hwB hwC hwD hc2 hans hst0 hst1 hans2 hpp
              go_upto_region 31 with fail
              rw [← HWA.out]
              clear HWA e1 f1
              have e1 := hLA.a1.cell hr4
              unfold cnV at e1
              rw [updN_self] at e1
              obtain ⟨y0, y1, y2, y3, y4⟩ := hRA.facts
              have fy := hRA.frz
              simp only at y0 y1 y2 y3 y4
              go_upto_region 32 with fail
              rw [← HWB.out]
              clear HWB e1 y0 y1 y2 y3 y4 fy o0 o1 o2 o3 o4 o5
              obtain ⟨o0, o1, o2, o3, o4, o5⟩ := hOB.facts
              simp only at o0 o1 o2 o3 o4 o5
              have e2 := hLB.a2.cell hat
              have f2 := hLB.a2.frz
              unfold vlV at e2
              go_upto_region 33 with fail
              rw [← HWC.out]
              clear HWC e2 f2 o0 o1 o2 o3 o4 o5
              have e1 := hLC.a1.cell hr4
              unfold cnV at e1
              rw [updN_self] at e1
              have e3 := hLC.a3.cell hat
              have f3 := hLC.a3.frz
              unfold cnV at e3
              go_upto_region 34 with fail
              rw [← HWD.out]
              clear HWD e1 e3 f3
              obtain ⟨o0, o1, o2, o3, o4, o5⟩ := hOD.facts
              simp only at o0 o1 o2 o3 o4 o5
              by_cases hk3 : kO = 3
              · subst hk3
                have hLE := hLD.put3 at_ 0
                rw [updN_two] at hLE
                have e3 := hLD.a3.cell hat
                have f3 := hLD.a3.frz
                unfold cnV at e3
                have HRE : Hid (RzB (wD.setCell ⟨N + 1 + 1, at_, none⟩ (.int .u64 0)) P (doR F ⟨3, rO, cO, vO, hO, eO⟩)) := (heap_set_other (b := N + 1 + 1) (i := P) _ (by omega)).trans hRD
                have HOE : Hid (OqB (wD.setCell ⟨N + 1 + 1, at_, none⟩ (.int .u64 0)) w2.heap.size ⟨3, rO, cO, vO, hO, eO⟩) := hOD.other (n := N + 1 + 1) (by have := hLw2; omega)
                have HBE : Hid _ := hBD.setCell (p := ⟨N + 1 + 1, at_, none⟩) (hwf _ (.inr (.inr (.inl rfl)))) (.int .u64 0)
                rw [if_pos rfl] at hd
                have HF : Hid _ := And.intro hLE (And.intro hd hle2)
                clear hLE hd hle2
                go_wp2
                go_meet
                case rel => exact ⟨_, _, _, HF, HRE.out, HOE.out, HBE.out⟩
              · rw [if_neg hk3] at hd
                have HF : Hid _ := And.intro hLD (And.intro hd hle2)
                have HRD : Hid _ := hRD
                have HOD : Hid _ := hOD
                clear hd hle2
                go_wp2
                go_meet
                case rel => exact ⟨_, _, _, HF, HRD.out, HOD.out, hBD⟩
          case rest =>
            clear hyR hOc hBc hLc o0 o1 o2 o3 o4 o5 hst0 hst1 hans
            obtain ⟨cn', vl', vr', HF, hRz, hOz, hBz⟩ := hcut
            obtain ⟨⟨r0, r1, r2, r3, r4⟩, hRR⟩ : ∃ R, R = doR F ⟨kO, rO, cO, vO, hO, eO⟩ := ⟨_, rfl⟩
            rw [← hRR] at hRz
            have hl1 := HM.out.2.1.1
            have hl2 := HM.out.2.1.2.1
            have hdo : ∀ W, LWd N (w.heap.size + 1) w.heap.size W (2 * i) F cn' vl' vr' → Calls Try.prog 10 #[.pointer (some ⟨w.heap.size + 1, 0, none⟩), oqV ⟨kO, rO, cO, vO, hO, eO⟩] W fun e w' => e = .returned (rzV ⟨r0, r1, r2, r3, r4⟩) ∧ LWd N (w.heap.size + 1) w.heap.size w' (2 * i + 2) (doF F ⟨kO, rO, cO, vO, hO, eO⟩) cn' vl' vr' ∧ Kp W w' (fun j => j = w.heap.size) := fun W hW => by
              have h9 := YDo_any (w.heap.size + 1) w.heap.size (2 * i) F ⟨kO, rO, cO, vO, hO, eO⟩ W hW.md (by omega) hFI (by omega) (by simp only; omega) hl1 hl2
              rw [show effR ⟨kO, rO, cO, vO, hO, eO⟩ (touL F ⟨kO, rO, cO, vO, hO, eO⟩) = ⟨r0, r1, r2, r3, r4⟩ from hRR.symm] at h9
              exact h9.mono fun e w' ⟨h1, h2, h3⟩ => ⟨h1, hW.do h2 h3, h3⟩
            have hself := rz_self r0 r1 r2 r3 r4
            obtain ⟨o0, o1, o2, o3, o4, o5⟩ := hOz.facts
            obtain ⟨y0, y1, y2, y3, y4⟩ := hRz.facts
            simp only at y0 y1 y2 y3 y4 o0 o1 o2 o3 o4 o5
            obtain ⟨hL9, hS9, hn9⟩ := HF.out
            have hPlt := blk_lt hRz
            have HRR : Hid _ := hRR
            clear hRR HF hl1 hl2
            go_upto_region 36 with fail
            have hnO : ¬ w2.heap.size = w.heap.size := by omega
            have hnP : ¬ P = w.heap.size := by omega
            have hdo9 := hdo _ hL9.drew
            go_region_held3 (fun w' => w'.cell? ⟨w2.heap.size, 0, none⟩ = some (.int .i64 kO) ∧ w'.cell? ⟨w2.heap.size, 1, none⟩ = some (.string (bstr rO)) ∧ w'.cell? ⟨w2.heap.size, 2, none⟩ = some (.string (bstr cO)) ∧ w'.cell? ⟨w2.heap.size, 3, none⟩ = some (.string (bstr vO)) ∧ w'.cell? ⟨w2.heap.size, 4, none⟩ = some (.bool hO) ∧ w'.cell? ⟨w2.heap.size, 5, none⟩ = some (.string (bstr eO)) ∧ w'.cell? ⟨P, 0, none⟩ = some (.int .i64 r0) ∧ w'.cell? ⟨P, 1, none⟩ = some (.bool r1) ∧ w'.cell? ⟨P, 2, none⟩ = some (.string (bstr r2)) ∧ w'.cell? ⟨P, 3, none⟩ = some (.string (bstr r3)) ∧ w'.cell? ⟨P, 4, none⟩ = some (.int .u64 r4)) (first | with_reducible exact ⟨o0, o1, o2, o3, o4, o5, y0, y1, y2, y3, y4⟩ | go_keep)
              (first
                | (go_at_call 10; with_reducible refine hdo9.mono ?_; rintro e wf ⟨rfl, hLf, hk9⟩; replace o0 := kpcd hk9 hnO o0; replace o1 := kpcd hk9 hnO o1; replace o2 := kpcd hk9 hnO o2; replace o3 := kpcd hk9 hnO o3; replace o4 := kpcd hk9 hnO o4; replace o5 := kpcd hk9 hnO o5; replace y0 := kpcd hk9 hnP y0; replace y1 := kpcd hk9 hnP y1; replace y2 := kpcd hk9 hnP y2; replace y3 := kpcd hk9 hnP y3; replace y4 := kpcd hk9 hnP y4; have hLf9 := hLf))
            have hB9 := bel_kp hBz.drew hk9 (fun j hj => by omega)
            have HN : Hid _ := And.intro hLf9 (And.intro hS9 (And.intro hFI2 hn9))
            clear hLf9 hLf hS9 hFI2 hn9 hk9 o0 o1 o2 o3 o4 o5 y0 y1 y2 y3 y4 hself hdo hdo9 hL9 hRz hOz hBz
            go_wp2_with fail
            go_roundw
            case rel => exact ⟨i + 1, _, cn', vl', vr', by go_num, by omega, by omega, HN, hB9⟩
            case measure => simp [intOf]; omega
      · have HE : Hid _ := And.intro HL.out.1 (And.intro HL.out.2.1 (And.intro HL.out.2.2.1 (fun r => Nat.le_trans (HL.out.2.2.2 r) hi80)))
        by_cases hi1 : i < l.length
        · have g1 : (i : Int) < (l.length : Int) := by omega
          have g2 : ¬ (i : Int) < 80 := by omega
          clear hlt HL
          go_wp2
          go_meet
          case rel => exact ⟨2 * i, F, cn, vl, vr, by omega, HE, hbr⟩
        · have g1 : ¬ (i : Int) < (l.length : Int) := by omega
          clear hlt HL
          go_wp2
          go_meet
          case rel => exact ⟨2 * i, F, cn, vl, vr, by omega, HE, hbr⟩
  case rest =>
    clear hL4 hb4 hq hok
    obtain ⟨n, F, cn, vl, vr, hn160, HE, hbe⟩ := hcut
    obtain ⟨hLe, hLS, hFI, hcn⟩ := HE.out
    have HLS : Hid _ := And.intro hLS (And.intro hFI hcn)
    have HLe : Hid _ := hLe
    clear HE hLS hFI hcn hLe
    go_wp2
    go_loopw [14] (fun s14 wr => ∃ k : Nat, s14 = .int .i64 (k : Int) ∧ k ≤ 12 ∧ Hid (LWd N (w.heap.size + 1) w.heap.size wr (n + 2 * k) F cn vl vr) ∧ Below w.heap.size w wr) (fun s14 _ => 13 - (intOf s14).toNat)
    case atStart => exact ⟨0, rfl, by omega, HLe, hbe⟩
    case round =>
      obtain ⟨k, rfl, hk, HL, hbr⟩ := hrel
      by_cases hlt : k < 12
      · have g1 : (k : Int) < 12 := by omega
        have hL := HL.out
        obtain ⟨hLS, hFI, hcn⟩ := HLS.out
        have hget := fun (W : World) (h : LWd N (w.heap.size + 1) w.heap.size W (n + 2 * k) F cn vl vr) => h.get hLS hFI hcn (by omega) (by omega) hlt
        have k1 := run_convert_byte wr (k / 3) (by omega)
        have k2 := run_convert_byte (wr.alloc (.cells #[.int .u8 ((k : Int) / 3)] 5)) (k % 3) (by omega)
        have c4 : ((k / 3 : Nat) : Int) = (k : Int) / 3 := by omega
        have c3 : ((k % 3 : Nat) : Int) = (k : Int) % 3 := by omega
        simp only [World.size_alloc, c4, c3] at k1 k2
        generalize UInt8.ofNat (k / 3) = x1 at *
        generalize UInt8.ofNat (k % 3) = x2 at *
        have hE1 : (⟨#[114]⟩ : ByteArray) = bstr [114] := rfl
        have hE2 : (⟨#[99]⟩ : ByteArray) = bstr [99] := rfl
        have hE3 : (⟨#[]⟩ : ByteArray) = bstr [] := rfl
        obtain ⟨w2, hw2⟩ : ∃ w2, w2 = (wr.alloc (.cells #[.int .u8 ((k : Int) / 3)] 5)).alloc (.cells #[.int .u8 ((k : Int) % 3)] 5) := ⟨_, rfl⟩
        have hb2 : Below wr.heap.size wr w2 := by rw [hw2]; exact ((Below.refl _ _).alloc (Nat.le_refl _) _).alloc (by simp) _
        have hL2 := hL.below hb2 hL.lt
        have hbr2 := below2 hbr hb2
        obtain ⟨⟨p0, p1, p2, p3, p4⟩, hR⟩ : ∃ R, R = getW vl vr k := ⟨_, rfl⟩
        rw [← hR] at hget
        have HR : Hid _ := hR
        have HW2 : Hid _ := hw2
        have HG : Hid _ := hget
        clear hR hw2 c4 c3 hL hLS hFI hcn hget
        go_upto_region 41 with fail
        go_wp2_with fail
        rw [← HW2.out]
        refine (op15_any 2 [114, x1] [99, x2] [] w2).mono ?_
        rintro e w3 ⟨rfl, hb3⟩
        have hL3 := hL2.below hb3 hL2.lt
        have hbr3 := below2 hbr2 hb3
        clear HW2 hL2 hb2 hb3 hbr2 k1 k2
        go_wp2_with fail
        refine (HG.out w3 hL3).mono ?_
        rintro e w4' ⟨rfl, hL4, hk4⟩
        have hbr4 := bel_kp hbr3 hk4 (fun j hj => by omega)
        obtain ⟨w5, hw5⟩ : ∃ w5, w5 = w4'.alloc (.cells #[.int .i64 p0, .bool p1, .string (bstr p2), .string (bstr p3), .int .u64 p4] 29) := ⟨_, rfl⟩
        have hb5 : Below w4'.heap.size w4' w5 := by rw [hw5]; exact (Below.refl _ _).alloc (Nat.le_refl _) _
        have hR5 : RzB w5 w4'.heap.size ⟨p0, p1, p2, p3, p4⟩ := by rw [hw5]; exact heap_alloc_new w4' _
        have hL5 := hL4.below hb5 hL4.lt
        have hbr5 := below2 hbr4 hb5
        have HW5 : Hid _ := hw5
        clear hw5 hL4 hL3 hk4 hb5 HG hbr3 hbr4
        go_upto_region 42 with fail
        rw [← HW5.out]
        have e2 := hL5.a2.cell hlt
        have e3 := hL5.a3.cell hlt
        unfold cnV at e3
        unfold vlV at e2
        have HL5 : Hid (LWd N (w.heap.size + 1) w.heap.size w5 (n + 2 * (k + 1)) F cn vl vr) := hL5
        obtain ⟨y0, y1, y2, y3, y4⟩ := hR5.facts
        clear HW5 hL5 hR5
        have hR := HR.out
        by_cases hp : 0 < vr k
        · rw [getW, if_pos hp] at hR
          cases hR
          simp only at y0 y1 y2 y3 y4
          have hpz : (0 : Int) < (vr k : Int) := by omega
          clear HR
          go_quiet (fail)
          have HB : Hid (Below w.heap.size w (w5.drewN nq)) := bel_drewN hbr5 nq
          have HLq : Hid (LWd N (w.heap.size + 1) w.heap.size (w5.drewN nq) (n + 2 * (k + 1)) F cn vl vr) := HL5.out.keep (fun _ _ => rfl)
          clear y0 y1 y2 y3 y4 e2 e3 hbr5 HL5
          generalize w5.drewN nq = wq at *
          go_wp2
          go_roundw
          case rel => exact ⟨k + 1, by go_num, by omega, HLq, HB.out⟩
          case measure => simp [intOf]; omega
        · rw [getW, if_neg hp] at hR
          cases hR
          simp only at y0 y1 y2 y3 y4
          have hpz : ¬ (0 : Int) < (vr k : Int) := by omega
          clear HR
          go_quiet (fail)
          have HB : Hid (Below w.heap.size w (w5.drewN nq)) := bel_drewN hbr5 nq
          have HLq : Hid (LWd N (w.heap.size + 1) w.heap.size (w5.drewN nq) (n + 2 * (k + 1)) F cn vl vr) := HL5.out.keep (fun _ _ => rfl)
          clear y0 y1 y2 y3 y4 e2 e3 hbr5 HL5
          generalize w5.drewN nq = wq at *
          go_wp2
          go_roundw
          case rel => exact ⟨k + 1, by go_num, by omega, HLq, HB.out⟩
          case measure => simp [intOf]; omega
      · have g1 : ¬ (k : Int) < 12 := by omega
        go_wp2_with fail
        refine (works15_any _).mono ?_
        rintro e w9 ⟨rfl, hb9⟩
        have hfin := below2 hbr hb9
        go_wp2
        go_ret
        exact ⟨rfl, hfin⟩

end Go.Proofs.Ytlkikfkchgmmhaa
