/-
  The walk of WalLasts.
-/
import Derived.Test.YtpldfakfgngaaaaGreatDoorGMid
import Derived.Deep.CutBlock
namespace Go.Proofs.YtpldfakfgngaaaaGreatDoor
open Go.RowKit
attribute [local go_sem] size_bstr toList_bstr append_bstr

theorem most_ok (x : Int) : 1 ≤ wrap64 (1 + (wrap64 (x.tmod 200 + 200)).tmod 200) := by
  have h1 : x.tmod 200 < 200 := Int.tmod_lt_of_pos x (by decide)
  have h2 : -200 < x.tmod 200 := Int.lt_tmod_of_pos x (by decide)
  generalize x.tmod 200 = u at *
  have e : wrap64 (u + 200) = u + 200 := by unfold wrap64; omega
  rw [e]
  have h3 : 0 ≤ (u + 200).tmod 200 := Int.tmod_nonneg _ (by omega)
  have h4 : (u + 200).tmod 200 < 200 := Int.tmod_lt_of_pos _ (by decide)
  generalize (u + 200).tmod 200 = t at *
  unfold wrap64
  omega

set_option maxHeartbeats 400000 in
theorem cut7_any (s : List UInt8) (n : Nat) (w : World) :
    Calls Tryz.prog 14 #[.string (bstr s), .int .i64 (n : Int)] w fun e w' => e = .returned (.string (bstr (s.take n))) ∧ w' = w := by
  have hc := fun w : World => run_cut (P := Tryz.prog) 9 s (n : Int) n rfl w Tryz.underlying9
  go_enter Tryz.func14, Tryz.ntmps14
  go_wp2
  go_ret
  exact ⟨rfl, rfl⟩

theorem at_ok (y : Int) (n : Nat) (hn : n ≤ 30) : ∃ kk : Nat, kk ≤ n ∧ (wrap64 (wrap64 (y.tmod ((n : Int) + 1) + (n : Int)) + 1)).tmod ((n : Int) + 1) = (kk : Int) := by
  have h1 : y.tmod ((n : Int) + 1) < (n : Int) + 1 := Int.tmod_lt_of_pos y (by omega)
  have h2 : -((n : Int) + 1) < y.tmod ((n : Int) + 1) := Int.lt_tmod_of_pos y (by omega)
  generalize y.tmod ((n : Int) + 1) = u at *
  have e1 : wrap64 (u + (n : Int)) = u + (n : Int) := by unfold wrap64; omega
  have e2 : wrap64 (u + (n : Int) + 1) = u + (n : Int) + 1 := by unfold wrap64; omega
  rw [e1, e2]
  have h3 : 0 ≤ (u + (n : Int) + 1).tmod ((n : Int) + 1) := Int.tmod_nonneg _ (by omega)
  have h4 : (u + (n : Int) + 1).tmod ((n : Int) + 1) < (n : Int) + 1 := Int.tmod_lt_of_pos _ (by omega)
  exact ⟨((u + (n : Int) + 1).tmod ((n : Int) + 1)).toNat, by omega, by omega⟩
theorem Tryz.infoInt : (Tryz.prog.info? 3).map (fun i => (i.zero, i.size, i.bytes)) = some (some (.int .i64 0), 1, 8) := by kernel_rfl
theorem karg_rep {w : World} {B n cap d m fr N : Nat} {q : Option Addr} {x : Int} {L : List Fl} (hown : w.ownsRow B 3 1 (.slice q n cap) n (List.replicate n (.int .i64 x))) (hD : Dk w d m L fr N) : KArg w q (List.replicate n x) (Ft d m L) := fun h0 => by
  rcases hown.2 with ⟨_, h1⟩ | ⟨g, c, cur, e, hB, hg, _⟩
  · rw [h1] at h0
    simp at h0
  · cases e
    refine ⟨g, 0, rfl, (Array.getElem?_eq_some_iff.1 hg).1, hD.other hg (by decide), fun t ht => ?_⟩
    have hlt : t < n := by simpa using ht
    have := hown.cells (g := g) rfl t (.int .i64 x) (by simp [hlt])
    rw [Addr.add_lit, Nat.zero_add] at this
    rw [Nat.zero_add, this]
    simp
theorem Vw.up {B B' : Nat} {w : World} (h : Vw B w) (h1 : B ≤ B') (h2 : B' ≤ w.heap.size) : Vw B' w := ⟨h.tabs, h.pow, h.syn, Nat.le_trans h.low h1, h2⟩
theorem Sl.more {B : Nat} {w : World} {m : Nat} {L : List Fl} {fr N N' : Nat} {k : Wk} {F : List Wf} {v : Value} {R : Nat} {rs : List (List UInt8)} {s : Nat} (h : Sl B w m L fr N k F v R rs s) (hN : N ≤ N') : Sl B w m L fr N' k F v R rs s :=
  ⟨⟨h.lo.dk.mono hN, h.lo.wm, h.lo.geD, h.lo.geW, h.lo.vw⟩, h.ap, h.room, h.pl, h.most⟩
/-- The records that the law appends. -/
def cuts (c n : Nat) (ls : List (List UInt8)) : List (List UInt8) := (ls.take n).map (fun s => s.take c)
theorem cuts_len {c n : Nat} {ls : List (List UInt8)} (h : n ≤ ls.length) : (cuts c n ls).length = n := by simp [cuts]; omega
theorem cuts_at {c n : Nat} {ls : List (List UInt8)} {i : Nat} (h : i < (cuts c n ls).length) (hi : i < ls.length) : (cuts c n ls)[i] = ls[i].take c := by simp [cuts]

set_option maxHeartbeats 600000 in
set_option maxRecDepth 100000 in
theorem lasts_any (q : Option Addr) (cap : Nat) (ls : List (List UInt8)) (y x0 x1 : Int) (w : World) (hv : Vw w.heap.size w) (hA : SArg w w.heap.size q ls) (hll : ls.length ≤ 9223372036854775807) :
    Calls Tryz.prog 4 #[.slice q ls.length cap, .int .i64 y, .agg #[.int .i64 x0, .int .i64 x1]] w fun e w' => e = .returned (.bool true) ∧ Below w.heap.size w w' := by
  have hBa : Below w.heap.size w (w.alloc (.cells #[.int .i64 x0, .int .i64 x1] 63)) := (Below.refl _ _).alloc (Nat.le_refl _) _
  have hbk : (w.alloc (.cells #[.int .i64 x0, .int .i64 x1] 63)).heap[w.heap.size]? = some (.cells #[.int .i64 x0, .int .i64 x1] 63 (0, 0)) := heap_alloc_new w _
  go_enter Tryz.func4, Tryz.ntmps4
  go_wp2_with fail
  generalize w.alloc (.cells #[.int .i64 x0, .int .i64 x1] 63) = W at *
  have hWz : w.heap.size < W.heap.size := (Array.getElem?_eq_some_iff.1 hbk).1
  have hvW : Vw W.heap.size W := (hv.on hBa).up (by omega) (Nat.le_refl _)
  refine (New_db W hvW 1048576).mono ?_
  rintro e w1 ⟨d, m, rfl, h1, hb1⟩
  have hbk1 := (hb1.block _ (Array.getElem?_eq_some_iff.1 hbk).1).trans hbk
  have a0 := cell_of_row w1 w.heap.size 0 _ _ _ hbk1
  go_wp2_with fail
  have hmo := most_ok x0
  generalize wrap64 (1 + (wrap64 (x0.tmod 200 + 200)).tmod 200) = M at *
  obtain ⟨n, hn⟩ : ∃ n : Nat, n = min ls.length 30 := ⟨_, rfl⟩
  have hmin : min (ls.length : Int) 30 = (n : Int) := by omega
  have hn1 : n ≤ ls.length := by omega
  have hn2 : n ≤ 30 := by omega
  simp only [hmin]
  clear hmin hn a0
  refine (Open_new (p := [119]) M h1 (by omega) (by decide) hmo).mono ?_
  rintro e w2 ⟨k, rfl, rfl, kp, km, L2, fr2, F2, v2, S2, hb2, T2⟩
  go_upto_if 45 with fail
  go_cut [12] from 22 (fun s12 wx => wx = w2 ∧ ∃ kk : Nat, kk ≤ n ∧ s12 = .int .i64 (kk : Int))
  case first =>
    by_cases h0 : 0 < n
    · have g : decide (0 < n) = true := by simpa using h0
      have g1 : ((n : Int) + 1 == 0) = false := by rw [beq_eq_false_iff_ne]; omega
      have g2 : ¬ ((n : Int) + 1 = 0) := by omega
      go_wp2
      go_meet
      case rel =>
        obtain ⟨kk, h1, h2⟩ := at_ok y n hn2
        exact ⟨rfl, kk, h1, by rw [h2]⟩
    · have g : decide (0 < n) = false := by simpa using h0
      go_wp2
      go_meet
      case rel => exact ⟨rfl, 0, Nat.zero_le _, rfl⟩
  case rest =>
    obtain ⟨rfl, kk, hkk, rfl⟩ := hcut
    have hB2 : Below W.heap.size W wc := hb1.trans hb2
    have hrl := cuts_len (c := 100) hn1
    clear hb2 hbk1 hb1 h1
    go_wp2_with fail
    go_loopw [13] (fun s13 wr => ∃ (i s : Nat) (L : List Fl) (fr : Nat) (F : List Wf) (v : Value), s13 = .int .i64 (i : Int) ∧ i ≤ n ∧ Sl W.heap.size wr m L fr (10 + 3 * i) k F v 1048576 ((cuts 100 n ls).take i) s ∧ tot L ≤ 108 * i ∧ (kk < i → kk ≤ s) ∧ Below W.heap.size W wr) (fun s13 _ => n - (intOf s13).toNat)
    case atStart => exact ⟨0, 0, L2, fr2, F2, v2, rfl, Nat.zero_le _, S2, by omega, fun h => absurd h (Nat.not_lt_zero _), hB2⟩
    case round =>
      obtain ⟨i, s, L, fr, F, v, rfl, hin, hS, hT, hk, hBr⟩ := hrel
      by_cases hl : i < n
      · have hil : (i : Int) < (n : Int) := by omega
        obtain ⟨b, off, rfl, hbB, hcells⟩ := hA (by omega)
        have hBwr : Below w.heap.size w wr := hBa.trans (hBr.mono (by omega))
        have ci := hcells i (by omega)
        have hrt : ((cuts 100 n ls).take i).length = i := by rw [List.length_take]; omega
        have hri : (cuts 100 n ls)[i]'(by omega) = ls[i].take 100 := cuts_at _ (by omega)
        have hsn : (cuts 100 n ls).take (i + 1) = (cuts 100 n ls).take i ++ [ls[i].take 100] := by rw [List.take_succ_eq_append_getElem (by omega), hri]
        have hx : (ls[i].take 100).length ≤ 100 := by rw [List.length_take]; omega
        obtain ⟨x, hxe⟩ : ∃ x, x = ls[i] := ⟨_, rfl⟩
        rw [← hxe] at ci hsn hx
        have HSN : Hid _ := hsn
        have hil2 : (i : Int) < (ls.length : Int) := by omega
        clear hri hsn hxe hcells hA
        obtain ⟨rs, hrs⟩ : ∃ rs, rs = (cuts 100 n ls).take i := ⟨_, rfl⟩
        rw [← hrs] at hS hrt HSN
        clear hrs
        by_cases hki : i = kk
        · subst hki
          go_wp2_with fail
          refine (wSync_ap hS (by omega)).mono ?_
          rintro e w3 ⟨rfl, L3, fr3, F3, v3, S3, hb3, T3⟩
          have hB3 : Below W.heap.size W w3 := hBr.trans hb3
          have ci3 : w3.cell? ⟨b, off + i, none⟩ = some (.string (bstr x)) := by
            rw [(bcell (hBa.trans (hB3.mono (by omega)))).1 b (off + i) hbB]; exact ci
          go_wp2_with fail
          refine (cut7_any x 100 w3).mono ?_
          rintro e w4 ⟨rfl, hw4⟩
          obtain rfl : w3 = w4 := hw4.symm
          clear hw4
          go_wp2_with fail
          refine (wApp_ap (x.take 100) S3 (by omega) (by omega) (by omega) (by omega) (by omega)).mono ?_
          rintro e w5 ⟨rfl, L5, fr5, F5, v5, S5, hb5, T5⟩
          go_wp2
          go_roundw
          case rel =>
            refine ⟨i + 1, rs.length, L5, fr5, F5, v5, by simp, hl, ?_, by omega, fun _ => by omega, hB3.trans hb5⟩
            rw [HSN.out]
            exact S5.more (N' := 10 + 3 * (i + 1)) (by omega)
          case measure => simp [intOf]; omega
        · have g : ((i : Int) == (kk : Int)) = false := by rw [beq_eq_false_iff_ne]; omega
          have ci3 : wr.cell? ⟨b, off + i, none⟩ = some (.string (bstr x)) := by
            rw [(bcell hBwr).1 b (off + i) hbB]; exact ci
          go_wp2_with fail
          refine (cut7_any x 100 wr).mono ?_
          rintro e w4 ⟨rfl, hw4⟩
          obtain rfl : wr = w4 := hw4.symm
          clear hw4
          go_wp2_with fail
          refine (wApp_ap (x.take 100) hS (by omega) (by omega) (by omega) (by omega) (by omega)).mono ?_
          rintro e w5 ⟨rfl, L5, fr5, F5, v5, S5, hb5, T5⟩
          go_wp2
          go_roundw
          case rel =>
            refine ⟨i + 1, s, L5, fr5, F5, v5, by simp, hl, ?_, by omega, fun h => hk (by omega), hBr.trans hb5⟩
            rw [HSN.out]
            exact S5.more (by omega)
          case measure => simp [intOf]; omega
      · have hil : ¬ (i : Int) < (n : Int) := by omega
        obtain rfl : i = n := by omega
        rw [List.take_of_length_le (by omega)] at hS
        clear S2 T2 hB2
        go_upto_region 15 with fail
        go_cut [86] from 56 (fun s86 wx => s86 = .bool false ∧ ∃ (s : Nat) (L : List Fl) (fr : Nat) (F : List Wf) (v : Value), kk ≤ s ∧ Sl W.heap.size wx m L fr (11 + 3 * i) k F v 1048576 (cuts 100 i ls) s ∧ tot L ≤ 108 * i ∧ Below W.heap.size W wx)
        case first =>
          by_cases hki : kk = i
          · subst hki
            go_wp2_with fail
            refine (wSync_ap hS (by omega)).mono ?_
            rintro e w3 ⟨rfl, L3, fr3, F3, v3, S3, hb3, T3⟩
            go_wp2
            go_meet
            case rel => exact ⟨rfl, _, L3, fr3, F3, v3, by omega, S3.more (by omega), by omega, hBr.trans hb3⟩
          · have g : ((kk : Int) == (i : Int)) = false := by rw [beq_eq_false_iff_ne]; omega
            go_wp2
            go_meet
            case rel => exact ⟨rfl, s, L, fr, F, v, hk (by omega), hS.more (by omega), hT, hBr⟩
        case rest =>
          clear hS hT hk hBr
          obtain ⟨rfl, s, L, fr, F, v, hks, hS, hT, hBr⟩ := hcut
          have hbkr := (hBr.block _ hWz).trans hbk
          obtain ⟨it, hit, hz0, hz1, hz2⟩ := info_parts Tryz.infoInt
          go_wp2_with fail
          go_loopw [14, 15] (fun s14 s15 wr => ∃ j : Nat, s15 = .int .i64 (j : Int) ∧ j ≤ 40 ∧ wr.ownsRow wc.heap.size 3 1 s14 j (List.replicate j (.int .i64 x1)) ∧ Below wc.heap.size wc wr) (fun _ s15 _ => 40 - (intOf s15).toNat)
          case atStart => exact ⟨0, rfl, Nat.zero_le _, World.ownsRow_nil _ _ _ _, Below.refl _ _⟩
          case round =>
            obtain ⟨j, rfl, hj, hown, hbc⟩ := hrel
            by_cases hj2 : j < 40
            · have hjl : (j : Int) < 40 := by omega
              have a1 := cell_of_row wr w.heap.size 1 _ _ _ ((hbc.block _ (Array.getElem?_eq_some_iff.1 hbkr).1).trans hbkr)
              go_wp2_with (at_builtin; refine wpList_append_own _ rfl _ _ 43 rfl wc.heap.size 3 it (.int .i64 0) 1 8 Tryz.underlying43 hit hz0 hz1 hz2 rfl (by decide) _ _ _ rfl (hown.alloc _) ⟨wr.heap.size, 0, none⟩ 1 1 [.int .i64 x1] rfl rfl ?c1 ?c2 ?c3 ?c4 ?c5 ?_)
              case c1 => exact World.news_of_block (cs := #[.int .i64 x1]) (t := 3) (fr := (0, 0)) (heap_alloc_new wr _)
              case c2 => simp [Value.oneCell']
              case c3 => unfold maxLen; omega
              case c4 => omega
              case c5 => have := hbc.size; simp; omega
              intro v' w5 hown5 hgrow5 _
              go_wp2
              go_roundw
              case rel =>
                refine ⟨j + 1, by simp, by omega, ?_, (hbc.alloc hbc.size _).grown hgrow5 (by have := hbc.size; simp; omega) (fun t ht => (hown.lt t ht).1)⟩
                rw [List.replicate_succ']
                exact hown5
              case measure => simp [intOf]; omega
            · have hjl : ¬ (j : Int) < 40 := by omega
              obtain rfl : j = 40 := by omega
              have hSk := hS.below hbc
              obtain ⟨qk, ck, rfl⟩ := own_slice hown
              have hka : KArg wr qk (List.replicate 40 x1) (Ft k.d m L) := karg_rep hown hSk.lo.dk
              have hcr := Crash_db qk ck (List.replicate 40 x1) hSk.db (by omega) hka (by have := hS.room; omega)
              rw [List.length_replicate] at hcr
              go_wp2_with fail
              refine hcr.mono ?_
              rintro e w6 ⟨rfl, L6, fr6, D6, C6, R6, T6, hb6⟩
              have hkp : k.p = [119] := kp
              have hap := hSk.ap
              rw [kp] at hap
              go_wp2_with fail
              refine (Open_ap (R := 1048576) M D6 hap C6 (by have := hSk.room; omega) (by omega) (by omega) (by omega) (by decide) hmo).mono ?_
              rintro e w7 ⟨k7, jj, rfl, kd7, kp7, km7, hj1, hj2, L7, fr7, F7, v7, S7, hb7, T7⟩
              have hB7 : Below W.heap.size W w7 := (hBr.trans (hbc.mono hS.lo.vw.le)).trans (hb6.trans hb7)
              have hjl2 : ((cuts 100 i ls).take jj).length = jj := by rw [List.length_take]; omega
              obtain ⟨rs, hrs⟩ : ∃ rs, rs = (cuts 100 i ls).take jj := ⟨_, rfl⟩
              have HRS : Hid (rs = (cuts 100 i ls).take jj) := hrs
              rw [← hrs] at S7 hjl2
              clear hrs hS hSk hap hown hcr hka C6 D6
              have hNx := fun w8 (hb : Below w7.heap.size w7 w8) => Next_ap (S7.below hb) (by omega) (by omega)
              rw [hjl2] at hNx
              have g1 : ¬ (((1 + jj : Nat) : Int) < (kk : Int) + 1) := by omega
              have g2 : ¬ ((i : Int) + 1 < ((1 + jj : Nat) : Int)) := by omega
              go_wp2_with fail
              refine (First_ap S7).mono ?_
              rintro e w8 ⟨rfl, hw8⟩
              obtain rfl : w7 = w8 := hw8.symm
              clear hw8
              go_wp2_with fail
              refine (hNx w7 (Below.refl _ _)).mono ?_
              rintro e w8 ⟨rfl, hb8⟩
              go_wp2_with fail
              refine (hNx w8 hb8).mono ?_
              rintro e w9 ⟨rfl, hb9⟩
              have hb79 : Below w7.heap.size w7 w9 := hb8.trans (hb9.mono hb8.size)
              go_wp2_with fail
              go_loopw [16] (fun s16 wx => ∃ t : Nat, s16 = .int .u64 (t : Int) ∧ 1 ≤ t ∧ t ≤ 1 + jj ∧ Below w7.heap.size w7 wx) (fun s16 _ => 1 + jj - (intOf s16).toNat)
              case atStart => exact ⟨1, rfl, Nat.le_refl _, by omega, hb79⟩
              case round =>
                obtain ⟨t, rfl, ht1, ht2, hbx⟩ := hrel
                by_cases htj : t < 1 + jj
                · have htl : (t : Int) < ((1 + jj : Nat) : Int) := by omega
                  obtain ⟨b, off, rfl, hbB, hcells⟩ := hA (by omega)
                  have hge := fun w8 (hb : Below w7.heap.size w7 w8) => Get_ap t (S7.below hb) (by omega) (by omega) ht1 (by omega)
                  have hrt : rs[t - 1]'(by omega) = ls[t - 1].take 100 := by
                    have e1 : rs[t - 1]'(by omega) = ((cuts 100 i ls).take jj)[t - 1]'(by rw [List.length_take]; omega) := by simp only [HRS.out]
                    rw [e1, List.getElem_take]
                    exact cuts_at _ (by omega)
                  rw [hrt] at hge
                  have ci := hcells (t - 1) (by omega)
                  obtain ⟨x, hxe⟩ : ∃ x, x = ls[t - 1] := ⟨_, rfl⟩
                  rw [← hxe] at ci hge
                  clear hrt hxe hcells
                  obtain ⟨z, hz⟩ : ∃ z, z = t - 1 := ⟨_, rfl⟩
                  rw [← hz] at ci
                  have g3 : (t : Int) - 1 = (z : Int) := by omega
                  have g4 : (z : Int) < (ls.length : Int) := by omega
                  have g5 : (0 : Int) ≤ (z : Int) := by omega
                  have g6 : IntKind.u64.wrap (z : Int) = (z : Int) := by rw [IntKind.wrap_u64]; omega
                  have g7 : (z : Int) % 18446744073709551616 = (z : Int) := by omega
                  clear hz
                  go_wp2_with fail
                  refine (hNx _ hbx).mono ?_
                  rintro e y1 ⟨rfl, hy1⟩
                  have hx1' := hbx.trans (hy1.mono hbx.size)
                  go_wp2_with fail
                  refine (hge _ hx1').mono ?_
                  rintro e y2 ⟨rfl, hy2⟩
                  have hx2' := hx1'.trans (hy2.mono hx1'.size)
                  have ci3 : y2.cell? ⟨b, off + z, none⟩ = some (.string (bstr x)) := by
                    rw [(bcell (hBa.trans ((hB7.trans (hx2'.mono S7.lo.vw.le)).mono (by omega)))).1 b (off + z) hbB]; exact ci
                  go_wp2_with fail
                  refine (cut7_any x 100 y2).mono ?_
                  rintro e y3 ⟨rfl, hy3⟩
                  obtain rfl : y2 = y3 := hy3.symm
                  clear hy3
                  go_wp2
                  go_roundw
                  case rel => exact ⟨t + 1, by simp, by omega, by omega, hx2'⟩
                  case measure => simp [intOf]; omega
                · have htl : ¬ (t : Int) < ((1 + jj : Nat) : Int) := by omega
                  go_wp2_with fail
                  refine (hNx _ hbx).mono ?_
                  rintro e y1 ⟨rfl, hy1⟩
                  have hx1' := hbx.trans (hy1.mono hbx.size)
                  go_wp2_with fail
                  refine (hNx _ hx1').mono ?_
                  rintro e y2 ⟨rfl, hy2⟩
                  have hx2' := hx1'.trans (hy2.mono hx1'.size)
                  have S8 := S7.below hx2'
                  go_wp2_with fail
                  refine (wApp_ap [109, 111, 114, 101] S8 (by decide) (by omega) (by simp; omega) (by omega) (by omega)).mono ?_
                  rintro e y3 ⟨rfl, L9, fr9, F9, v9, S9, hb9, T9⟩
                  go_wp2_with fail
                  refine (wSync_ap S9 (by omega)).mono ?_
                  rintro e y4 ⟨rfl, L10, fr10, F10, v10, S10, hb10, T10⟩
                  have hl10 : (rs ++ [[109, 111, 114, 101]]).length = jj + 1 := by simp; omega
                  have hN10 := Next_ap S10 (by omega) (by omega)
                  have hG10 := fun y5 (hb : Below y4.heap.size y4 y5) => Get_ap (1 + jj) (S10.below hb) (by omega) (by omega) (by omega) (by omega)
                  have hgt : (rs ++ [[109, 111, 114, 101]])[1 + jj - 1]'(by omega) = [109, 111, 114, 101] := by
                    rw [List.getElem_append_right (by omega)]
                    simp
                  rw [hgt] at hG10
                  rw [hl10] at hN10
                  have e2 : ((1 + (jj + 1) : Nat) : Int) = ((1 + jj : Nat) : Int) + 1 := by omega
                  rw [e2] at hN10
                  have hB10 : Below W.heap.size W y4 := ((hB7.trans (hx2'.mono S7.lo.vw.le)).trans hb9).trans hb10
                  have hle10 := S10.lo.vw.le
                  clear hgt hl10 e2 hNx
                  go_wp2_with fail
                  refine hN10.mono ?_
                  rintro e y5 ⟨rfl, hb11⟩
                  go_wp2_with fail
                  refine (hG10 y5 hb11).mono ?_
                  rintro e y6 ⟨rfl, hb12⟩
                  have hb46 : Below y4.heap.size y4 y6 := hb11.trans (hb12.mono hb11.size)
                  have hw := works7_any y6 (S10.below hb46).lo.vw
                  have emo : bstr [109, 111, 114, 101] = ⟨#[109, 111, 114, 101]⟩ := rfl
                  rw [emo]
                  clear emo
                  go_wp2_with fail
                  refine hw.mono ?_
                  rintro e y7 ⟨rfl, hb13⟩
                  go_wp2
                  go_ret
                  refine ⟨rfl, hBa.trans (((hB10.trans (hb46.mono hle10)).trans hb13).mono (by omega))⟩

end Go.Proofs.YtpldfakfgngaaaaGreatDoor
