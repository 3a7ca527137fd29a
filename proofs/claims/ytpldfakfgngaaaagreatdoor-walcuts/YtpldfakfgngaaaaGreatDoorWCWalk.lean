/-
  The walk of WalCuts.
-/
import Derived.Test.YtpldfakfgngaaaaGreatDoorWFs2
import Derived.Test.YtpldfakfgngaaaaGreatDoorWLWalk
namespace Go.Proofs.YtpldfakfgngaaaaGreatDoor
open Go.RowKit
attribute [local go_sem] size_bstr toList_bstr append_bstr

theorem nxt_all {F : WF} (h : Chn F) : nxtF F = fstF F + (flatF F).length := by
  by_cases e : F = []
  · subst e; rfl
  · exact nxt_eq h e
theorem Cut_all {B : Nat} {w : World} {m : Nat} {L : List Fl} {fe N : Nat} {k : Wk} {F : List Wf} {v : Value} {R : Nat} (c : Nat) (h : Sf B w m L fe N k F v R) (hnx : nxtF (Pw F) < 18446744073709551616) (hR : R ≤ 1099511627776) (hN : N ≤ 10000) (ht : tot L + tot L ≤ R) :
    Calls Tryz.prog 18 #[.pointer (some ⟨k.g, 0, none⟩), .int .u64 (c : Int)] w fun e w' => e = .returned (.int .i64 (if c < fstF (Pw F) then 2 else 0)) ∧ ∃ L' fe' F' v', Sf B w' m L' fe' (N + N + 4) k F' v' R ∧ Below B w w' ∧ fstF (Pw F') = fstF (Pw F) ∧ nxtF (Pw F') = (if c < fstF (Pw F) then nxtF (Pw F) else min (nxtF (Pw F)) c) ∧ flatF (Pw F') = (flatF (Pw F)).take (nxtF (Pw F') - fstF (Pw F)) := by
  have hl := h.len
  have hn := nxt_all h.fs.lg.chn
  by_cases h1 : c < fstF (Pw F)
  · rw [if_pos h1, if_pos h1]
    refine (Cut_arg c w h.lo.wm h1).mono ?_
    rintro e w' ⟨rfl, rfl⟩
    exact ⟨rfl, L, fe, F, v, h.more (by omega), Below.refl _ _, rfl, rfl, (List.take_of_length_le (by omega)).symm⟩
  · rw [if_neg h1, if_neg h1]
    by_cases h2 : c < nxtF (Pw F)
    · refine (Cut_fs c h hnx hR (by omega) (by omega) h2 ht).mono ?_
      rintro e w' ⟨rfl, L', fe', F', v', a1, a2, a3, a4, a5⟩
      exact ⟨rfl, L', fe', F', v', a1, a2, a3, by omega, by rw [a5]; exact a4⟩
    · refine (Cut_over c w h.lo.wm (by omega) (by omega) (by omega) hnx).mono ?_
      rintro e w' ⟨rfl, hb⟩
      exact ⟨rfl, L, fe, F, v, (h.below hb).more (by omega), hb.mono h.lo.vw.le, rfl, by omega, (List.take_of_length_le (by omega)).symm⟩
theorem val_at {c n s1 NX j : Nat} {ls : List (List UInt8)} (hn : n ≤ ls.length) (h1 : 1 ≤ s1) (h2 : s1 ≤ j) (h3 : j < NX) (h4 : NX ≤ 1 + n) (hj : j - 1 < ls.length) : (((cuts c n ls).drop (s1 - 1)).take (NX - s1))[j - s1]? = some (ls[j - 1].take c) := by
  have hl := cuts_len (c := c) hn
  rw [List.getElem?_take, if_pos (by omega), List.getElem?_drop, show s1 - 1 + (j - s1) = j - 1 by omega, List.getElem?_eq_getElem (by omega), cuts_at (by omega) hj]

set_option maxHeartbeats 600000 in
set_option maxRecDepth 100000 in
theorem cuts_any (q : Option Addr) (cap : Nat) (ls : List (List UInt8)) (x y : Nat) (w : World) (hv : Vw w.heap.size w) (hA : SArg w w.heap.size q ls) (hll : ls.length ≤ 9223372036854775807) (hx : x < 18446744073709551616) (hy : y < 18446744073709551616) :
    Calls Tryz.prog 5 #[.slice q ls.length cap, .int .u64 (x : Int), .int .u64 (y : Int)] w fun e w' => e = .returned (.bool true) ∧ Below w.heap.size w w' := by
  go_enter Tryz.func5, Tryz.ntmps5
  go_wp2_with fail
  refine (New_db w hv 1048576).mono ?_
  rintro e w1 ⟨d, m, rfl, h1, hb1⟩
  go_wp2_with fail
  have hmo : (1 : Int) ≤ 1 + (x : Int) % 97 := by omega
  generalize 1 + (x : Int) % 97 = M at *
  obtain ⟨n, hn⟩ : ∃ n : Nat, n = min ls.length 30 := ⟨_, rfl⟩
  have hmin : min (ls.length : Int) 30 = (n : Int) := by omega
  have hn1 : n ≤ ls.length := by omega
  have hn2 : n ≤ 30 := by omega
  simp only [hmin]
  clear hmin hn
  refine (Open_new (p := [119]) M h1 (by omega) (by decide) hmo).mono ?_
  rintro e w2 ⟨k, rfl, rfl, kp, km, L2, fr2, F2, v2, S2, hb2, T2⟩
  have hB2 : Below w.heap.size w w2 := hb1.trans hb2
  have hrl := cuts_len (c := 60) hn1
  clear hb2 hb1 h1
  go_wp2_with fail
  go_loopw [12] (fun s12 wr => ∃ (i s : Nat) (L : List Fl) (fr : Nat) (F : List Wf) (v : Value), s12 = .int .i64 (i : Int) ∧ i ≤ n ∧ Sl w.heap.size wr m L fr (10 + 2 * i) k F v 1048576 ((cuts 60 n ls).take i) s ∧ tot L ≤ 68 * i ∧ Below w.heap.size w wr) (fun s12 _ => n - (intOf s12).toNat)
  case atStart => exact ⟨0, 0, L2, fr2, F2, v2, rfl, Nat.zero_le _, S2, by omega, hB2⟩
  case round =>
    obtain ⟨i, s, L, fr, F, v, rfl, hin, hS, hT, hBr⟩ := hrel
    by_cases hl : i < n
    · have hil : (i : Int) < (n : Int) := by omega
      obtain ⟨b, off, rfl, hbB, hcells⟩ := hA (by omega)
      have ci := hcells i (by omega)
      have hrt : ((cuts 60 n ls).take i).length = i := by rw [List.length_take]; omega
      have hri : (cuts 60 n ls)[i]'(by omega) = ls[i].take 60 := cuts_at _ (by omega)
      have hsn : (cuts 60 n ls).take (i + 1) = (cuts 60 n ls).take i ++ [ls[i].take 60] := by rw [List.take_succ_eq_append_getElem (by omega), hri]
      have hxl : (ls[i].take 60).length ≤ 60 := by rw [List.length_take]; omega
      obtain ⟨z, hze⟩ : ∃ z, z = ls[i] := ⟨_, rfl⟩
      rw [← hze] at ci hsn hxl
      have HSN : Hid _ := hsn
      have hil2 : (i : Int) < (ls.length : Int) := by omega
      clear hri hsn hze hcells hA
      obtain ⟨rs, hrs⟩ : ∃ rs, rs = (cuts 60 n ls).take i := ⟨_, rfl⟩
      rw [← hrs] at hS hrt HSN
      clear hrs
      have ci3 : wr.cell? ⟨b, off + i, none⟩ = some (.string (bstr z)) := by
        rw [(bcell hBr).1 b (off + i) hbB]; exact ci
      go_wp2_with fail
      refine (cut7_any z 60 wr).mono ?_
      rintro e w4 ⟨rfl, hw4⟩
      obtain rfl : wr = w4 := hw4.symm
      clear hw4
      go_wp2_with fail
      refine (wApp_ap (z.take 60) hS (by omega) (by omega) (by omega) (by omega) (by omega)).mono ?_
      rintro e w5 ⟨rfl, L5, fr5, F5, v5, S5, hb5, T5⟩
      go_wp2
      go_roundw
      case rel =>
        refine ⟨i + 1, s, L5, fr5, F5, v5, by simp, hl, ?_, by omega, hBr.trans hb5⟩
        rw [HSN.out]
        exact S5.more (by omega)
      case measure => simp [intOf]; omega
    · have hil : ¬ (i : Int) < (n : Int) := by omega
      obtain rfl : i = n := by omega
      rw [List.take_of_length_le (by omega)] at hS
      clear S2 T2 hB2
      go_wp2_with fail
      refine (wSync_ap hS (by omega)).mono ?_
      rintro e w3 ⟨rfl, L3, fr3, F3, v3, S3, hb3, T3⟩
      have hnx3 := S3.ap.nxt
      have hft3 := S3.ap.fst
      have hfl3 := S3.ap.flat
      have f3 := Sf.of S3
      obtain ⟨t, ht⟩ : ∃ t : Nat, t = y % 40 := ⟨_, rfl⟩
      have ht2 : (y : Int) % 40 = (t : Int) := by omega
      have htl : t < 40 := by omega
      have hdr := Drop_fs t f3 (by omega) (by omega)
      clear hS S3 ht
      go_wp2_with fail
      refine hdr.mono ?_
      rintro e w4 ⟨rfl, L4, fe4, F4, v4, f4, hb4, T4, a1, a2, a3, a4⟩
      obtain ⟨s1, hs1⟩ : ∃ s1, s1 = fstF (Pw F4) := ⟨_, rfl⟩
      have hfi := First_any w4 f4.lo.wm
      rw [← hs1] at hfi
      have b1 : 1 ≤ s1 := by omega
      have g5 : ¬ (max (t : Int) 1 < (s1 : Int)) := by omega
      have g6 : ¬ ((s1 : Int) < 1) := by omega
      obtain ⟨u, hu⟩ : ∃ u : Nat, u = x % 40 := ⟨_, rfl⟩
      have hu2 : (x : Int) % 40 = (u : Int) := by omega
      have hul : u < 40 := by omega
      have hcu := Cut_all u f4 (by omega) (by omega) (by omega) (by omega)
      rw [← hs1] at hcu
      have HS1 : Hid _ := hs1
      clear hs1 hu hdr
      go_wp2_with fail
      refine hfi.mono ?_
      rintro e w5 ⟨rfl, hw5⟩
      obtain rfl : w4 = w5 := hw5.symm
      clear hw5
      go_wp2_with fail
      refine hcu.mono ?_
      rintro e w6 ⟨rfl, L6, fe6, F6, v6, f6, hb6, c1, c2, c3⟩
      have hB6 : Below w.heap.size w w6 := ((hBr.trans hb3).trans hb4).trans hb6
      obtain ⟨NX, hNX⟩ : ∃ NX, NX = nxtF (Pw F6) := ⟨_, rfl⟩
      have hflat : flatF (Pw F6) = ((cuts 60 i ls).drop (s1 - 1)).take (NX - s1) := by rw [c3, a3, hfl3, hft3, ← hNX, ← HS1.out]
      have hNX2 : (if u < s1 then 1 + i else min (1 + i) u) = NX := by rw [hNX, c2, a4, hnx3, hrl]
      have hNle : NX ≤ 1 + i := by
        rw [← hNX2]
        split <;> omega
      have hl6 := f6.len
      have hpos : s1 < NX → 0 < F6.length := fun h0 => by
        rcases Nat.eq_zero_or_pos F6.length with e | e
        · have := List.eq_nil_of_length_eq_zero e
          subst this
          have : nxtF (Pw []) = 1 := rfl
          omega
        · exact e
      have hD6 : Db w.heap.size w6 k.d m L6 fe6 _ := ⟨f6.lo.dk, f6.lo.geD, f6.lo.vw⟩
      have hka : KArg w6 none ([] : List Int) (Ft k.d m L6) := fun h0 => absurd h0 (by simp)
      have hcr := Crash_db none 0 [] hD6 (by omega) hka (by have := f6.room; omega)
      have hr6 := f6.room
      have FS6 := f6.fs
      rw [kp] at FS6
      have HFS : Hid _ := FS6
      have HFL : Hid _ := hflat
      have HNX : Hid _ := hNX
      have HC1 : Hid _ := c1
      clear hflat hNX c2 c3 a3 a4 hnx3 hft3 hfl3 hcu hfi FS6 f6 f4 f3 c1 a1 hka hD6
      by_cases hus : u < s1
      · have g7 : (u : Int) < (s1 : Int) := by omega
        have g8 : (i : Int) + 1 = (NX : Int) := by rw [if_pos hus] at hNX2; omega
        rw [if_pos hus]
        clear hNX2
        go_wp2_with fail
        clear g8 g7
        refine hcr.mono ?_
        rintro e w7 ⟨rfl, L7, fe7, D7, C7, R7, T7, hb7⟩
        go_wp2_with fail
        refine (Open_fs (R := 1048576) M D7 HFS.out C7 (by omega) (by omega) (by omega) (by decide) hmo).mono ?_
        rintro e w8 ⟨k8, F8, v8, rfl, wm8, pw8, vw8, hb8⟩
        have hB8 : Below w.heap.size w w8 := (hB6.trans hb7).trans hb8
        have hl8 : F8.length = F6.length := by have := congrArg List.length pw8; simpa [Pw] using this
        have hnx8 : nxtF (Pw F8) = NX := by rw [pw8, HNX.out]
        have hft8 : fstF (Pw F8) = s1 := by rw [pw8, HC1.out]
        have hF8 := fun w9 (hb : Below w8.heap.size w8 w9) => First_any w9 (wm8.below hb)
        have hN8 := fun w9 (hb : Below w8.heap.size w8 w9) => Next_any w9 (wm8.below hb) (by omega) (by omega)
        rw [hft8] at hF8
        rw [hnx8] at hN8
        have hge : ∀ (j : Nat) (hj : j - 1 < ls.length), s1 ≤ j → j < NX → ∀ w9, Below w8.heap.size w8 w9 → Calls Tryz.prog 22 #[.pointer (some ⟨k8.g, 0, none⟩), .int .u64 (j : Int)] w9 fun e w' => e = .returned (.tuple #[.string (bstr (ls[j - 1].take 60)), .int .i64 0]) ∧ Below w9.heap.size w9 w' := by
          intro j hj h1 h2 w9 hb9
          have hlg := HFS.out.lg
          rw [← pw8] at hlg
          refine (Get_ok j w9 (wm8.below hb9) hlg.wf hlg.chn (by omega) (by omega) (by omega) (by omega) (by have := hpos (by omega); omega) (fun f hf => hlg.small (pw f) (List.mem_map.2 ⟨f, hf, rfl⟩))).mono ?_
          rintro e w' ⟨⟨b, hb, rfl⟩, hbe⟩
          rw [hft8, pw8, HFL.out, val_at hn1 b1 h1 h2 hNle hj] at hb
          cases hb
          exact ⟨rfl, hbe⟩
        have hgn : ∀ (j : Nat), (j < s1 ∨ NX ≤ j) → ∀ w9, Below w8.heap.size w8 w9 → Calls Tryz.prog 22 #[.pointer (some ⟨k8.g, 0, none⟩), .int .u64 (j : Int)] w9 fun e w' => e = .returned (.tuple #[.string ⟨#[]⟩, .int .i64 5]) ∧ Below w9.heap.size w9 w' :=
          fun j h1 w9 hb9 => Get_none j w9 (wm8.below hb9) (by omega) (by omega) (by omega)
        have HGE : Hid _ := hge
        have HGN : Hid _ := hgn
        clear hge hgn hcr hb7 hb8 D7 C7 pw8 hpos hnx8 hft8
        go_wp2_with fail
        refine (hF8 w8 (Below.refl _ _)).mono ?_
        rintro e w9 ⟨rfl, hw9⟩
        obtain rfl : w8 = w9 := hw9.symm
        clear hw9
        go_wp2_with fail
        refine (hN8 w8 (Below.refl _ _)).mono ?_
        rintro e w9 ⟨rfl, hb9⟩
        clear hF8 hN8
        go_wp2_with fail
        go_loopw [17] (fun s17 wr => ∃ j : Nat, s17 = .int .u64 (j : Int) ∧ j ≤ 40 ∧ Below w8.heap.size w8 wr) (fun s17 _ => 40 - (intOf s17).toNat)
        case atStart => exact ⟨0, rfl, Nat.zero_le _, hb9⟩
        case round =>
          obtain ⟨j, rfl, hj40, hbj⟩ := hrel
          by_cases hj : j < 40
          · have hjl : (j : Int) < 40 := by omega
            by_cases hin2 : s1 ≤ j ∧ j < NX
            · have q1 : ¬ (j : Int) < (s1 : Int) := by omega
              have q2 : ¬ (NX : Int) ≤ (j : Int) := by omega
              obtain ⟨b, off, rfl, hbB, hcells⟩ := hA (by omega)
              have hgj := HGE.out j (by omega) hin2.1 hin2.2
              have ci := hcells (j - 1) (by omega)
              obtain ⟨y1, hxe⟩ : ∃ y1, y1 = ls[j - 1] := ⟨_, rfl⟩
              rw [← hxe] at ci hgj
              clear hxe hcells
              obtain ⟨z, hz⟩ : ∃ z, z = j - 1 := ⟨_, rfl⟩
              rw [← hz] at ci
              have g3 : (j : Int) - 1 = (z : Int) := by omega
              have g4 : (z : Int) < (ls.length : Int) := by omega
              have g5 : (0 : Int) ≤ (z : Int) := by omega
              have g6 : IntKind.u64.wrap (z : Int) = (z : Int) := by rw [IntKind.wrap_u64]; omega
              have g7 : (z : Int) % 18446744073709551616 = (z : Int) := by omega
              clear hz
              go_wp2_with fail
              refine (hgj _ hbj).mono ?_
              rintro e z2 ⟨rfl, hz2⟩
              have hbz := hbj.trans (hz2.mono hbj.size)
              have ci3 : z2.cell? ⟨b, off + z, none⟩ = some (.string (bstr y1)) := by
                rw [(bcell (hB8.trans (hbz.mono vw8.le))).1 b (off + z) hbB]; exact ci
              go_wp2_with fail
              refine (cut7_any y1 60 z2).mono ?_
              rintro e z3 ⟨rfl, hz3⟩
              obtain rfl : z2 = z3 := hz3.symm
              clear hz3
              go_wp2
              go_roundw
              case rel => exact ⟨j + 1, by simp, by omega, hbz⟩
              case measure => simp [intOf]; omega
            · have hgj := HGN.out j (by omega)
              by_cases q0 : j < s1
              · have q1 : (j : Int) < (s1 : Int) := by omega
                go_wp2_with fail
                refine (hgj _ hbj).mono ?_
                rintro e z2 ⟨rfl, hz2⟩
                have hbz := hbj.trans (hz2.mono hbj.size)
                go_wp2
                go_roundw
                case rel => exact ⟨j + 1, by simp, by omega, hbz⟩
                case measure => simp [intOf]; omega
              · have q1 : ¬ (j : Int) < (s1 : Int) := by omega
                have q2 : (NX : Int) ≤ (j : Int) := by omega
                go_wp2_with fail
                refine (hgj _ hbj).mono ?_
                rintro e z2 ⟨rfl, hz2⟩
                have hbz := hbj.trans (hz2.mono hbj.size)
                go_wp2
                go_roundw
                case rel => exact ⟨j + 1, by simp, by omega, hbz⟩
                case measure => simp [intOf]; omega
          · have hjl : ¬ (j : Int) < 40 := by omega
            have hw := works7_any wr (vw8.on hbj)
            go_wp2_with fail
            refine hw.mono ?_
            rintro e z2 ⟨rfl, hz2⟩
            go_wp2
            go_ret
            exact ⟨rfl, (hB8.trans (hbj.mono vw8.le)).trans hz2⟩
      · have g7 : ¬ (u : Int) < (s1 : Int) := by omega
        have g8 : min ((i : Int) + 1) (u : Int) = (NX : Int) := by rw [if_neg hus] at hNX2; omega
        rw [if_neg hus]
        clear hNX2
        go_wp2_with fail
        clear g8 g7
        refine hcr.mono ?_
        rintro e w7 ⟨rfl, L7, fe7, D7, C7, R7, T7, hb7⟩
        go_wp2_with fail
        refine (Open_fs (R := 1048576) M D7 HFS.out C7 (by omega) (by omega) (by omega) (by decide) hmo).mono ?_
        rintro e w8 ⟨k8, F8, v8, rfl, wm8, pw8, vw8, hb8⟩
        have hB8 : Below w.heap.size w w8 := (hB6.trans hb7).trans hb8
        have hl8 : F8.length = F6.length := by have := congrArg List.length pw8; simpa [Pw] using this
        have hnx8 : nxtF (Pw F8) = NX := by rw [pw8, HNX.out]
        have hft8 : fstF (Pw F8) = s1 := by rw [pw8, HC1.out]
        have hF8 := fun w9 (hb : Below w8.heap.size w8 w9) => First_any w9 (wm8.below hb)
        have hN8 := fun w9 (hb : Below w8.heap.size w8 w9) => Next_any w9 (wm8.below hb) (by omega) (by omega)
        rw [hft8] at hF8
        rw [hnx8] at hN8
        have hge : ∀ (j : Nat) (hj : j - 1 < ls.length), s1 ≤ j → j < NX → ∀ w9, Below w8.heap.size w8 w9 → Calls Tryz.prog 22 #[.pointer (some ⟨k8.g, 0, none⟩), .int .u64 (j : Int)] w9 fun e w' => e = .returned (.tuple #[.string (bstr (ls[j - 1].take 60)), .int .i64 0]) ∧ Below w9.heap.size w9 w' := by
          intro j hj h1 h2 w9 hb9
          have hlg := HFS.out.lg
          rw [← pw8] at hlg
          refine (Get_ok j w9 (wm8.below hb9) hlg.wf hlg.chn (by omega) (by omega) (by omega) (by omega) (by have := hpos (by omega); omega) (fun f hf => hlg.small (pw f) (List.mem_map.2 ⟨f, hf, rfl⟩))).mono ?_
          rintro e w' ⟨⟨b, hb, rfl⟩, hbe⟩
          rw [hft8, pw8, HFL.out, val_at hn1 b1 h1 h2 hNle hj] at hb
          cases hb
          exact ⟨rfl, hbe⟩
        have hgn : ∀ (j : Nat), (j < s1 ∨ NX ≤ j) → ∀ w9, Below w8.heap.size w8 w9 → Calls Tryz.prog 22 #[.pointer (some ⟨k8.g, 0, none⟩), .int .u64 (j : Int)] w9 fun e w' => e = .returned (.tuple #[.string ⟨#[]⟩, .int .i64 5]) ∧ Below w9.heap.size w9 w' :=
          fun j h1 w9 hb9 => Get_none j w9 (wm8.below hb9) (by omega) (by omega) (by omega)
        have HGE : Hid _ := hge
        have HGN : Hid _ := hgn
        clear hge hgn hcr hb7 hb8 D7 C7 pw8 hpos hnx8 hft8
        go_wp2_with fail
        refine (hF8 w8 (Below.refl _ _)).mono ?_
        rintro e w9 ⟨rfl, hw9⟩
        obtain rfl : w8 = w9 := hw9.symm
        clear hw9
        go_wp2_with fail
        refine (hN8 w8 (Below.refl _ _)).mono ?_
        rintro e w9 ⟨rfl, hb9⟩
        clear hF8 hN8
        go_wp2_with fail
        go_loopw [17] (fun s17 wr => ∃ j : Nat, s17 = .int .u64 (j : Int) ∧ j ≤ 40 ∧ Below w8.heap.size w8 wr) (fun s17 _ => 40 - (intOf s17).toNat)
        case atStart => exact ⟨0, rfl, Nat.zero_le _, hb9⟩
        case round =>
          obtain ⟨j, rfl, hj40, hbj⟩ := hrel
          by_cases hj : j < 40
          · have hjl : (j : Int) < 40 := by omega
            by_cases hin2 : s1 ≤ j ∧ j < NX
            · have q1 : ¬ (j : Int) < (s1 : Int) := by omega
              have q2 : ¬ (NX : Int) ≤ (j : Int) := by omega
              obtain ⟨b, off, rfl, hbB, hcells⟩ := hA (by omega)
              have hgj := HGE.out j (by omega) hin2.1 hin2.2
              have ci := hcells (j - 1) (by omega)
              obtain ⟨y1, hxe⟩ : ∃ y1, y1 = ls[j - 1] := ⟨_, rfl⟩
              rw [← hxe] at ci hgj
              clear hxe hcells
              obtain ⟨z, hz⟩ : ∃ z, z = j - 1 := ⟨_, rfl⟩
              rw [← hz] at ci
              have g3 : (j : Int) - 1 = (z : Int) := by omega
              have g4 : (z : Int) < (ls.length : Int) := by omega
              have g5 : (0 : Int) ≤ (z : Int) := by omega
              have g6 : IntKind.u64.wrap (z : Int) = (z : Int) := by rw [IntKind.wrap_u64]; omega
              have g7 : (z : Int) % 18446744073709551616 = (z : Int) := by omega
              clear hz
              go_wp2_with fail
              refine (hgj _ hbj).mono ?_
              rintro e z2 ⟨rfl, hz2⟩
              have hbz := hbj.trans (hz2.mono hbj.size)
              have ci3 : z2.cell? ⟨b, off + z, none⟩ = some (.string (bstr y1)) := by
                rw [(bcell (hB8.trans (hbz.mono vw8.le))).1 b (off + z) hbB]; exact ci
              go_wp2_with fail
              refine (cut7_any y1 60 z2).mono ?_
              rintro e z3 ⟨rfl, hz3⟩
              obtain rfl : z2 = z3 := hz3.symm
              clear hz3
              go_wp2
              go_roundw
              case rel => exact ⟨j + 1, by simp, by omega, hbz⟩
              case measure => simp [intOf]; omega
            · have hgj := HGN.out j (by omega)
              by_cases q0 : j < s1
              · have q1 : (j : Int) < (s1 : Int) := by omega
                go_wp2_with fail
                refine (hgj _ hbj).mono ?_
                rintro e z2 ⟨rfl, hz2⟩
                have hbz := hbj.trans (hz2.mono hbj.size)
                go_wp2
                go_roundw
                case rel => exact ⟨j + 1, by simp, by omega, hbz⟩
                case measure => simp [intOf]; omega
              · have q1 : ¬ (j : Int) < (s1 : Int) := by omega
                have q2 : (NX : Int) ≤ (j : Int) := by omega
                go_wp2_with fail
                refine (hgj _ hbj).mono ?_
                rintro e z2 ⟨rfl, hz2⟩
                have hbz := hbj.trans (hz2.mono hbj.size)
                go_wp2
                go_roundw
                case rel => exact ⟨j + 1, by simp, by omega, hbz⟩
                case measure => simp [intOf]; omega
          · have hjl : ¬ (j : Int) < 40 := by omega
            have hw := works7_any wr (vw8.on hbj)
            go_wp2_with fail
            refine hw.mono ?_
            rintro e z2 ⟨rfl, hz2⟩
            go_wp2
            go_ret
            exact ⟨rfl, (hB8.trans (hbj.mono vw8.le)).trans hz2⟩

end Go.Proofs.YtpldfakfgngaaaaGreatDoor
