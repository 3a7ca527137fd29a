/-
  SkipLast, walked.
-/
import Derived.Test.YtmekcfbopjgbeaaSAlk
namespace Go.Proofs.Ytmekcfbopjgbeaa
open Go.RowKit Go.BigFrame Go.Sort
attribute [local go_sem] size_bstr toList_bstr ls_def

theorem rev_take {M : List Cl} {k j : Nat} (hk : k < M.length) (hj : j = M.length - 1 - k) : ∃ h : j < M.length, M.reverse.take (k + 1) = M.reverse.take k ++ [M[j]'h] := by
  subst hj
  refine ⟨by omega, ?_⟩
  rw [List.take_succ_eq_append_getElem (by simpa using hk)]
  congr 2
  rw [List.getElem_reverse]

set_option maxHeartbeats 4000000 in
set_option maxRecDepth 100000 in
theorem Last_any (q : Option Addr) (b off cap : Nat) (cs : List Cl) (qa : Option Addr) (ba offa capa : Nat) (ha : List UInt8) (w : World)
    (hq : 0 < cs.length → q = some ⟨b, off, none⟩ ∧ CRow w b off cs ∧ b < w.heap.size) (hcap : cs.length ≤ cap) (hcl : cs.length ≤ 4611686018427387904)
    (hqa : 0 < ha.length → qa = some ⟨ba, offa, none⟩ ∧ BRow w ba offa ha) (hla : ha.length ≤ 9223372036854775807) :
    Calls Try.prog 5 #[.slice q cs.length cap, .slice qa ha.length capa] w fun e w' => e = .returned (.bool true) ∧ Below w.heap.size w w' := by
  obtain ⟨i0, hi0, hz0, hz1, hz2⟩ := info_parts Try.infoCell
  go_enter Try.func5, Try.ntmps5
  go_wp2_with fail
  refine (works8_any w).mono ?_
  rintro e w0 ⟨rfl, hb0⟩
  go_wp2_with fail
  go_loopw [5, 6] (fun s7 s8 wr => ∃ i : Nat, s8 = .int .i64 (i : Int) ∧ i ≤ cs.length ∧ i ≤ 150 ∧ wr.ownsRow w0.heap.size 34 5 s7 (mayL (cs.take i)).length (ccells (mayL (cs.take i))) ∧ Below w0.heap.size w0 wr) (fun _ s8 _ => cs.length - (intOf s8).toNat)
  case atStart => exact ⟨0, rfl, Nat.zero_le _, Nat.zero_le _, ⟨rfl, .inl ⟨rfl, rfl⟩⟩, Below.refl _ _⟩
  case round =>
    obtain ⟨i, rfl, hil, hi150, hown, hbel⟩ := hrel
    by_cases hgo : i < cs.length ∧ i < 150
    · obtain ⟨hlt, h150⟩ := hgo
      obtain ⟨rfl, hR, hbw⟩ := hq (by omega)
      have hR2 := (hR.step hb0 hbw).step hbel (Nat.lt_of_lt_of_le hbw hb0.size)
      have hen := Encode_one b off (cap - i) cs i hlt wr hR2
      have hc1 : (i : Int) < (cs.length : Int) := by omega
      have hc2 : (i : Int) < 150 := by omega
      have hc3 : (i : Int) + 1 ≤ (cap : Int) := by omega
      have hc4 : ¬ cap = i := by omega
      clear hqa
      go_wp2_with fail
      refine hen.mono ?_
      rintro e w1 ⟨s1, rfl, hb1⟩
      have hbe1 := below2 hbel hb1
      have hown1 := own_cbelow hown hb1
      have hAt := (hR2.step hb1 (hR2 i hlt).lt) i hlt
      have hlen := mayL_len cs i
      clear hen hR hR2 hown hb1
      cases hm : encOk cs[i] with
      | true =>
        have hez : encE [cs[i]] = 0 := by simpa [encOk] using hm
        have HM : Hid _ := mayL_yes hlt hm
        rw [hez]
        clear hm hez
        generalize cs[i] = c at *
        obtain ⟨r, k, v, g, x⟩ := c
        obtain ⟨c0, c1, c2, c3, c4⟩ := hAt
        simp only at c0 c1 c2 c3 c4
        go_wp2_with (at_builtin; refine wpList_append_own _ rfl _ _ 25 rfl w0.heap.size 34 i0 (.agg #[.string ⟨#[]⟩, .string ⟨#[]⟩, .int .u64 0, .bool false, .string ⟨#[]⟩]) 5 64 Try.underlying25 hi0 hz0 hz1 hz2 rfl (by decide) _ _ _ rfl (hown1.alloc _) ⟨w1.heap.size, 0, none⟩ 1 1 (encC ⟨r, k, v, g, x⟩) rfl rfl (cell_news w1 ⟨r, k, v, g, x⟩ 34) (encC_one _) ?c3 ?c4 ?c5 ?_)
        case c3 => unfold maxLen; omega
        case c4 => omega
        case c5 => have := hbe1.size; simp; omega
        intro v' w3 hown3 hgrow _
        have hbw3 : Below w0.heap.size w0 w3 := (hbe1.alloc hbe1.size _).grown hgrow (by have := hbe1.size; simp; omega) (fun k hk => (hown1.lt k hk).1)
        have hown4 : w3.ownsRow w0.heap.size 34 5 v' (mayL (cs.take (i + 1))).length (ccells (mayL (cs.take (i + 1)))) := by
          rw [HM.out, List.length_append, ccells_append]
          exact hown3
        clear hown1 hown3 hgrow c0 c1 c2 c3 c4
        go_wp2
        go_roundw
        case rel => exact ⟨i + 1, by go_num, by omega, by omega, hown4, hbw3⟩
        case measure => simp [intOf]; omega
      | false =>
        have hez : encE [cs[i]] ≠ 0 := by simpa [encOk] using hm
        have HM : Hid _ := mayL_no hlt hm
        have gez : (encE [cs[i]] == 0) = false := by simpa using hez
        clear hm hez hAt
        generalize encE [cs[i]] = ee at *
        go_wp2
        go_roundw
        case rel => exact ⟨i + 1, by go_num, by omega, by omega, by rw [HM.out]; exact hown1, hbe1⟩
        case measure => simp [intOf]; omega
    · have hstop : ¬ ((i : Int) < (cs.length : Int) ∧ (i : Int) < 150) := by omega
      obtain ⟨M, hM⟩ : ∃ M, M = mayL (cs.take i) := ⟨_, rfl⟩
      rw [← hM] at hown
      have hlen : M.length ≤ 150 := by rw [hM]; exact Nat.le_trans (mayL_len cs i) hi150
      have hmayM : ∀ c ∈ M, mayCl c = true := fun c hc => by rw [hM] at hc; exact mayL_may hc
      have HMM : Hid _ := hM
      clear hM
      clear hgo hi150 hq
      obtain ⟨p, capM, g, rfl, hg⟩ := own_slice hown
      by_cases hw1 : (i : Int) < (cs.length : Int)
      · have hw2 : ¬ (i : Int) < 150 := fun h => hstop ⟨hw1, h⟩
        clear hstop
        go_wp2_with fail
        obtain ⟨wm, rfl⟩ : ∃ wm, wm = wr := ⟨_, rfl⟩
        go_loopw [9, 10] (fun s9 s10 wr => ∃ k : Nat, s10 = .int .i64 ((M.length : Int) - 1 - (k : Int)) ∧ k ≤ M.length ∧ wr.ownsRow wm.heap.size 34 5 s9 k (ccells (M.reverse.take k)) ∧ Below wm.heap.size wm wr) (fun _ s10 _ => (intOf s10 + 1).toNat)
        case atStart => exact ⟨0, by simp, Nat.zero_le _, ⟨rfl, .inl ⟨rfl, rfl⟩⟩, Below.refl _ _⟩
        case round =>
          obtain ⟨k, rfl, hkM, hownT, hbT⟩ := hrel
          by_cases hk : k < M.length
          · obtain ⟨j, hj⟩ : ∃ j, j = M.length - 1 - k := ⟨_, rfl⟩
            obtain ⟨hjM, hrev⟩ := rev_take hk hj
            obtain ⟨rfl, hRM, hgM⟩ := hg (by omega)
            have hAt := (hRM j hjM).step hbT hgM
            have hjz : (M.length : Int) - 1 - (k : Int) = (j : Int) := by omega
            have hj1 : (j : Int) < (M.length : Int) := by omega
            have hj0 : (0 : Int) ≤ (j : Int) := by omega
            have HREV : Hid _ := hrev
            have HJ : Hid _ := hj
            clear hrev hRM hj
            generalize M[j] = c at *
            obtain ⟨r, kk, v, gg, x⟩ := c
            obtain ⟨c0, c1, c2, c3, c4⟩ := hAt
            simp only [Nat.zero_add] at c0 c1 c2 c3 c4
            simp only [hjz]
            go_wp2_with (at_builtin; refine wpList_append_own _ rfl _ _ 25 rfl wm.heap.size 34 i0 (.agg #[.string ⟨#[]⟩, .string ⟨#[]⟩, .int .u64 0, .bool false, .string ⟨#[]⟩]) 5 64 Try.underlying25 hi0 hz0 hz1 hz2 rfl (by decide) _ _ _ rfl (hownT.alloc _) ⟨wr.heap.size, 0, none⟩ 1 1 (encC ⟨r, kk, v, gg, x⟩) rfl rfl (cell_news wr ⟨r, kk, v, gg, x⟩ 34) (encC_one _) ?c3 ?c4 ?c5 ?_)
            case c3 => unfold maxLen; omega
            case c4 => omega
            case c5 => have := hbT.size; simp; omega
            intro v' w3 hown3 hgrow _
            have hbw3 : Below wm.heap.size wm w3 := (hbT.alloc hbT.size _).grown hgrow (by have := hbT.size; simp; omega) (fun k hk => (hownT.lt k hk).1)
            have hown4 : w3.ownsRow wm.heap.size 34 5 v' (k + 1) (ccells (M.reverse.take (k + 1))) := by
              rw [HREV.out, ccells_append]
              exact hown3
            clear hownT hown3 hgrow c0 c1 c2 c3 c4 hjz
            go_wp2
            go_roundw
            case rel => exact ⟨k + 1, by have := HJ.out; congr 1; omega, by omega, hown4, hbw3⟩
            case measure => simp [intOf]
          · have hke : k = M.length := by omega
            have hkz : (M.length : Int) - 1 - (k : Int) = -1 := by omega
            simp only [hkz]
            rw [hke, List.take_of_length_le (by simp)] at hownT
            have hownT2 : wr.ownsRow wm.heap.size 34 5 (u9) M.reverse.length (ccells M.reverse) := by rw [List.length_reverse]; exact hownT
            clear hownT hke hkz hk hkM
            obtain ⟨pT, capT, gT, rfl, hgT⟩ := own_slice hownT2
            have hbwt : Below w.heap.size w wr := below2 hb0 (below2 hbel hbT)
            have hgt : 0 < M.length → p = some ⟨g, 0, none⟩ ∧ CRow wr g 0 M ∧ g < wr.heap.size := fun h0 => ⟨(hg h0).1, (hg h0).2.1.step hbT (hg h0).2.2, Nat.lt_of_lt_of_le (hg h0).2.2 hbT.size⟩
            have hqa' : 0 < ha.length → qa = some ⟨ba, offa, none⟩ ∧ BRow wr ba offa ha := fun h0 => ⟨(hqa h0).1, (hqa h0).2.below hbwt h0 (Nat.le_refl _)⟩
            have hpx := put_any p g 0 capM M qa ba offa capa ha false wr hgt hqa' (by omega) hla
            go_wp2_with fail
            refine hpx.mono ?_
            rintro e wx ⟨rfl, Tx, vx, hPx⟩
            have hTx : Tx.map (fun t => t.c) = sortL M.reverse := by
              rw [hPx.ce, List.take_of_length_le (by rw [ord_length]; exact Nat.le_refl _)]
              show putV M = _
              rw [putV_may hmayM, putL_sort]
            have hlx : Tx.length = (sortL M.reverse).length := by rw [← hTx]; simp
            have hsl : (sortL M.reverse).length ≤ 150 := Nat.le_trans (sortL_length _) (by simpa using hlen)
            have HTX : Hid _ := hTx
            have HLX : Hid _ := hlx
            have hbwx : Below w.heap.size w wx := hbwt.trans (hPx.be.mono hbwt.size)
            have hgTx : 0 < M.reverse.length → pT = some ⟨gT, 0, none⟩ ∧ CRow wx gT 0 M.reverse ∧ gT < wr.heap.size := fun h0 => ⟨(hgT h0).1, (hgT h0).2.1.step hPx.be (hgT h0).2.2, (hgT h0).2.2⟩
            have hlst := list_any _ _ Tx vx wx hPx.ls (by rw [HLX.out]; omega)
            clear hpx hTx hlx
            go_wp2_with fail
            refine hlst.mono ?_
            rintro e w1 ⟨r1, vx1, rfl, hr1, hLx1, hKx1, hOx1, _⟩
            rw [HTX.out, HLX.out] at hr1
            have hbw1 : Below w.heap.size w w1 := hbwx.trans (hKx1.below hbwx.size fun i hi => Nat.le_trans hbwt.size (hPx.ow i hi))
            have hgT1 : 0 < M.reverse.length → pT = some ⟨gT, 0, none⟩ ∧ CRow w1 gT 0 M.reverse ∧ gT < w1.heap.size := fun h0 => by
              have hlt := Nat.lt_of_lt_of_le (hgTx h0).2.2 hPx.be.size
              refine ⟨(hgTx h0).1, (hgTx h0).2.1.same fun o => ?_, Nat.lt_of_lt_of_le hlt hKx1.size⟩
              have := hKx1.block gT hlt (fun hf => by have := hPx.ow gT hf; have := (hgTx h0).2.2; omega)
              simp only [World.cell?, this]
            have hso := Sort_any pT gT 0 capT M.reverse w1 hgT1 (fun c hc => may_fits (hmayM c (List.mem_reverse.1 hc))) (by rw [List.length_reverse]; omega)
            rw [List.length_reverse] at hso
            clear hlst
            go_wp2_with fail
            refine hso.mono ?_
            rintro e w2 ⟨sv, rfl, hsv, hb2⟩
            have hr2 := own_cbelow hr1 hb2
            obtain ⟨p1, cap1, g1, rfl, hg1⟩ := own_slice hr2
            obtain ⟨p2, cap2, g2, rfl, hg2⟩ := own_slice hsv
            have hbw2 := below2 hbw1 hb2
            have hsm := same8_any p1 p2 g1 0 cap1 g2 0 cap2 (sortL M.reverse) w2 (fun h0 => ⟨(hg1 h0).1, (hg1 h0).2.1⟩) (fun h0 => ⟨(hg2 h0).1, (hg2 h0).2.1⟩) (by omega)
            clear hso hr1 hr2 hsv
            go_wp2_with fail
            refine hsm.mono ?_
            rintro e w3 ⟨rfl, hb3⟩
            have hbw3 := below2 hbw2 hb3
            go_wp2
            go_ret
            exact ⟨rfl, hbw3⟩
      · clear hstop
        go_wp2_with fail
        obtain ⟨wm, rfl⟩ : ∃ wm, wm = wr := ⟨_, rfl⟩
        go_loopw [9, 10] (fun s9 s10 wr => ∃ k : Nat, s10 = .int .i64 ((M.length : Int) - 1 - (k : Int)) ∧ k ≤ M.length ∧ wr.ownsRow wm.heap.size 34 5 s9 k (ccells (M.reverse.take k)) ∧ Below wm.heap.size wm wr) (fun _ s10 _ => (intOf s10 + 1).toNat)
        case atStart => exact ⟨0, by simp, Nat.zero_le _, ⟨rfl, .inl ⟨rfl, rfl⟩⟩, Below.refl _ _⟩
        case round =>
          obtain ⟨k, rfl, hkM, hownT, hbT⟩ := hrel
          by_cases hk : k < M.length
          · obtain ⟨j, hj⟩ : ∃ j, j = M.length - 1 - k := ⟨_, rfl⟩
            obtain ⟨hjM, hrev⟩ := rev_take hk hj
            obtain ⟨rfl, hRM, hgM⟩ := hg (by omega)
            have hAt := (hRM j hjM).step hbT hgM
            have hjz : (M.length : Int) - 1 - (k : Int) = (j : Int) := by omega
            have hj1 : (j : Int) < (M.length : Int) := by omega
            have hj0 : (0 : Int) ≤ (j : Int) := by omega
            have HREV : Hid _ := hrev
            have HJ : Hid _ := hj
            clear hrev hRM hj
            generalize M[j] = c at *
            obtain ⟨r, kk, v, gg, x⟩ := c
            obtain ⟨c0, c1, c2, c3, c4⟩ := hAt
            simp only [Nat.zero_add] at c0 c1 c2 c3 c4
            simp only [hjz]
            go_wp2_with (at_builtin; refine wpList_append_own _ rfl _ _ 25 rfl wm.heap.size 34 i0 (.agg #[.string ⟨#[]⟩, .string ⟨#[]⟩, .int .u64 0, .bool false, .string ⟨#[]⟩]) 5 64 Try.underlying25 hi0 hz0 hz1 hz2 rfl (by decide) _ _ _ rfl (hownT.alloc _) ⟨wr.heap.size, 0, none⟩ 1 1 (encC ⟨r, kk, v, gg, x⟩) rfl rfl (cell_news wr ⟨r, kk, v, gg, x⟩ 34) (encC_one _) ?c3 ?c4 ?c5 ?_)
            case c3 => unfold maxLen; omega
            case c4 => omega
            case c5 => have := hbT.size; simp; omega
            intro v' w3 hown3 hgrow _
            have hbw3 : Below wm.heap.size wm w3 := (hbT.alloc hbT.size _).grown hgrow (by have := hbT.size; simp; omega) (fun k hk => (hownT.lt k hk).1)
            have hown4 : w3.ownsRow wm.heap.size 34 5 v' (k + 1) (ccells (M.reverse.take (k + 1))) := by
              rw [HREV.out, ccells_append]
              exact hown3
            clear hownT hown3 hgrow c0 c1 c2 c3 c4 hjz
            go_wp2
            go_roundw
            case rel => exact ⟨k + 1, by have := HJ.out; congr 1; omega, by omega, hown4, hbw3⟩
            case measure => simp [intOf]
          · have hke : k = M.length := by omega
            have hkz : (M.length : Int) - 1 - (k : Int) = -1 := by omega
            simp only [hkz]
            rw [hke, List.take_of_length_le (by simp)] at hownT
            have hownT2 : wr.ownsRow wm.heap.size 34 5 (u9) M.reverse.length (ccells M.reverse) := by rw [List.length_reverse]; exact hownT
            clear hownT hke hkz hk hkM
            obtain ⟨pT, capT, gT, rfl, hgT⟩ := own_slice hownT2
            have hbwt : Below w.heap.size w wr := below2 hb0 (below2 hbel hbT)
            have hgt : 0 < M.length → p = some ⟨g, 0, none⟩ ∧ CRow wr g 0 M ∧ g < wr.heap.size := fun h0 => ⟨(hg h0).1, (hg h0).2.1.step hbT (hg h0).2.2, Nat.lt_of_lt_of_le (hg h0).2.2 hbT.size⟩
            have hqa' : 0 < ha.length → qa = some ⟨ba, offa, none⟩ ∧ BRow wr ba offa ha := fun h0 => ⟨(hqa h0).1, (hqa h0).2.below hbwt h0 (Nat.le_refl _)⟩
            have hpx := put_any p g 0 capM M qa ba offa capa ha false wr hgt hqa' (by omega) hla
            go_wp2_with fail
            refine hpx.mono ?_
            rintro e wx ⟨rfl, Tx, vx, hPx⟩
            have hTx : Tx.map (fun t => t.c) = sortL M.reverse := by
              rw [hPx.ce, List.take_of_length_le (by rw [ord_length]; exact Nat.le_refl _)]
              show putV M = _
              rw [putV_may hmayM, putL_sort]
            have hlx : Tx.length = (sortL M.reverse).length := by rw [← hTx]; simp
            have hsl : (sortL M.reverse).length ≤ 150 := Nat.le_trans (sortL_length _) (by simpa using hlen)
            have HTX : Hid _ := hTx
            have HLX : Hid _ := hlx
            have hbwx : Below w.heap.size w wx := hbwt.trans (hPx.be.mono hbwt.size)
            have hgTx : 0 < M.reverse.length → pT = some ⟨gT, 0, none⟩ ∧ CRow wx gT 0 M.reverse ∧ gT < wr.heap.size := fun h0 => ⟨(hgT h0).1, (hgT h0).2.1.step hPx.be (hgT h0).2.2, (hgT h0).2.2⟩
            have hlst := list_any _ _ Tx vx wx hPx.ls (by rw [HLX.out]; omega)
            clear hpx hTx hlx
            go_wp2_with fail
            refine hlst.mono ?_
            rintro e w1 ⟨r1, vx1, rfl, hr1, hLx1, hKx1, hOx1, _⟩
            rw [HTX.out, HLX.out] at hr1
            have hbw1 : Below w.heap.size w w1 := hbwx.trans (hKx1.below hbwx.size fun i hi => Nat.le_trans hbwt.size (hPx.ow i hi))
            have hgT1 : 0 < M.reverse.length → pT = some ⟨gT, 0, none⟩ ∧ CRow w1 gT 0 M.reverse ∧ gT < w1.heap.size := fun h0 => by
              have hlt := Nat.lt_of_lt_of_le (hgTx h0).2.2 hPx.be.size
              refine ⟨(hgTx h0).1, (hgTx h0).2.1.same fun o => ?_, Nat.lt_of_lt_of_le hlt hKx1.size⟩
              have := hKx1.block gT hlt (fun hf => by have := hPx.ow gT hf; have := (hgTx h0).2.2; omega)
              simp only [World.cell?, this]
            have hso := Sort_any pT gT 0 capT M.reverse w1 hgT1 (fun c hc => may_fits (hmayM c (List.mem_reverse.1 hc))) (by rw [List.length_reverse]; omega)
            rw [List.length_reverse] at hso
            clear hlst
            go_wp2_with fail
            refine hso.mono ?_
            rintro e w2 ⟨sv, rfl, hsv, hb2⟩
            have hr2 := own_cbelow hr1 hb2
            obtain ⟨p1, cap1, g1, rfl, hg1⟩ := own_slice hr2
            obtain ⟨p2, cap2, g2, rfl, hg2⟩ := own_slice hsv
            have hbw2 := below2 hbw1 hb2
            have hsm := same8_any p1 p2 g1 0 cap1 g2 0 cap2 (sortL M.reverse) w2 (fun h0 => ⟨(hg1 h0).1, (hg1 h0).2.1⟩) (fun h0 => ⟨(hg2 h0).1, (hg2 h0).2.1⟩) (by omega)
            clear hso hr1 hr2 hsv
            go_wp2_with fail
            refine hsm.mono ?_
            rintro e w3 ⟨rfl, hb3⟩
            have hbw3 := below2 hbw2 hb3
            go_wp2
            go_ret
            exact ⟨rfl, hbw3⟩

end Go.Proofs.Ytmekcfbopjgbeaa
