/-
  The law ManifestLasts, walked.
  ManifestLasts: what was saved last is what is loaded, behind any loss of power, and a save that the disk has no room for turns nothing; for any saves, twelve at most, any room. No condition but the card's own: the listed package-level variables hold what the program's text lays.
-/
import Derived.Test.YtnfnlfdplnekgaaDoorGVLs1
import Derived.Deep.RegionHeld3
import Derived.Deep.CutRange
import Derived.Lib.MinMax
import Derived.Test.YtnfnlfdplnekgaaDoorCards
import Derived.Test.YtnfnlfdplnekgaaDoorTie
import Derived.Test.YtnfnlfdplnekgaaDoorGTLaid
import Derived.Test.YtnfnlfdplnekgaaDoorVOpen2
namespace Go.Proofs.YtnfnlfdplnekgaaDoor
open Go.RowKit Go.BigFrame Go.Sort
attribute [local go_sem] size_bstr toList_bstr ls_def

set_option maxHeartbeats 8000000 in
set_option maxRecDepth 100000 in
theorem MLasts_any (room : Int) (q : Option Addr) (b off cap : Nat) (l : List SvV) (w : World) (hroom : room ≤ 9223372036854775807) (hq : 0 < l.length → q = some ⟨b, off, none⟩ ∧ SvRow w b off l ∧ b < w.heap.size) (hok : ∀ x ∈ l, SvOk w x) (hT : Tabs w) :
    Calls Tryd.prog 3 #[.int .i64 room, .slice q l.length cap] w fun e w' => e = .returned (.bool true) ∧ Below w.heap.size w w' := by
  obtain ⟨B, hB⟩ : ∃ B, B = w.heap.size := ⟨_, rfl⟩
  have hTB := hT.1
  rw [← hB] at hTB
  go_enter Tryd.func3, Tryd.ntmps3
  go_wp2_with fail
  refine (Ds.New_any room w).mono ?_
  rintro e w1 ⟨d, m, rfl, hD1, hb1, hf1⟩
  obtain ⟨R, hR⟩ : ∃ R, R = room.toNat := ⟨_, rfl⟩
  have hRR : R ≤ 9223372036854775807 := by omega
  rw [← hR] at hD1
  obtain ⟨bl, hbl⟩ : ∃ bl, bl = w1.heap.size := ⟨_, rfl⟩
  obtain ⟨w2, hw2⟩ : ∃ w2, w2 = w1.alloc (.cells #[.int .u64 0, .int .u64 0, .slice none 0 0] 28) := ⟨_, rfl⟩
  have hb2 : Below w1.heap.size w1 w2 := by rw [hw2]; exact (Below.refl _ _).alloc (Nat.le_refl _) _
  have hM2 : MDk w2 B d m none R 0 := ⟨[], R, hD1.below hb2, rfl, rfl, by rw [hB]; exact hf1⟩
  have hF2 : FsB w2 bl 0 0 (.slice none 0 0) := by rw [hw2, hbl]; exact heap_alloc_new w1 _
  have hb12 := below2 hb1 hb2
  have hblB : B ≤ bl := by rw [hbl, hB]; exact hb1.size
  have hdm := hD1.ne
  have HW2 : Hid _ := hw2
  have HBL : Hid _ := hbl
  have HB : Hid _ := hB
  clear hw2 hD1 hf1 hbl hR hB
  go_wp2
  rw [← HW2.out, ← HBL.out]
  clear HW2 HBL
  go_loopw [7, 8] (fun s7 s8 wr => ∃ (i : Nat) (sm : Bool) (o : Option (List UInt8)), s8 = .int .i64 (i : Int) ∧ s7 = .bool sm ∧ i ≤ l.length ∧ i ≤ 12 ∧ Hid (MDk wr B d m o R (2 * i) ∧ LstF wr bl o sm ∧ Below B w wr)) (fun _ s8 _ => 13 - (intOf s8).toNat)
  case atStart => exact ⟨0, false, none, rfl, rfl, by omega, by omega, ⟨hM2, .inl ⟨rfl, rfl, hF2⟩, by rw [HB.out]; exact hb12⟩⟩
  case round =>
    clear hM2 hF2 hb12 hb1 hb2
    obtain ⟨i, sm, o, rfl, rfl, hil, hi12, HS⟩ := hrel
    by_cases hlt : i < l.length ∧ i < 12
    · obtain ⟨hl1, hl2⟩ := hlt
      obtain ⟨hM, hLs, hbr⟩ := HS.out
      obtain ⟨rfl, hrow, hbw⟩ := hq (by omega)
      have hA := hrow i hl1
      obtain ⟨x, hx⟩ : ∃ x, x = l[i] := ⟨_, rfl⟩
      rw [← hx] at hA
      have hxo : SvOk w x := by rw [hx]; exact hok _ (List.getElem_mem hl1)
      obtain ⟨lq, lc, xs, log, kq, kc, ks⟩ := x
      obtain ⟨g1, g2, g3, g4, g5⟩ := hxo
      obtain ⟨a0, a1, a2⟩ := hA
      simp only at g1 g2 g3 g4 g5 a0 a1 a2
      have hbB : b < B := by rw [HB.out]; exact hbw
      have hcB : ∀ {W : World} {bb oo : Nat} {v : Value}, Below B w W → bb < B → w.cell? ⟨bb, oo, none⟩ = some v → W.cell? ⟨bb, oo, none⟩ = some v := fun h hb2 hv => by rw [World.cell?_of_block (h.block _ hb2)]; exact hv
      have hBr : B ≤ wr.heap.size := by have := hbr.size; rw [HB.out]; omega
      have hmk : ∀ X, Below wr.heap.size wr X → Calls Tryd.prog 5 #[.slice lq xs.length lc, .int .u32 (log : Int)] X fun e w' => ∃ v vs, e = .returned (.agg #[.int .u64 (mdN xs (kOf xs) : Int), .int .u64 (1 + log : Int), v]) ∧ Own2 w' (X.heap.size + 1 + 1) xs (kOf xs) v vs ∧ Below X.heap.size X w' := by
        intro X hX
        have hwX : Below B w X := ⟨hX.os.trans hbr.os, hX.tape.trans hbr.tape, hX.output.trans hbr.output, Nat.le_trans hbr.size hX.size, fun j hj => (hX.block j (by omega)).trans (hbr.block j hj)⟩
        by_cases h0 : 0 < xs.length
        · obtain ⟨b1, off1, e1, h1, h2⟩ := g1 h0
          rw [← HB.out] at h2
          exact made_own lq b1 off1 lc xs log X (fun _ => ⟨e1, fun j hj => hcB hwX h2 (h1 j hj), by have := hX.size; omega⟩) g2 g3
        · exact made_own lq 0 0 lc xs log X (fun h => absurd h h0) g2 g3
      have c0 := hcB hbr hbB a0
      have c1 := hcB hbr hbB a1
      have hi1 : (i : Int) < (l.length : Int) := by omega
      have hi2 : (i : Int) < 12 := by omega
      have HX : Hid _ := hx
      have HG : Hid _ := And.intro g1 (And.intro g2 (And.intro g3 (And.intro g4 g5)))
      have HA : Hid _ := And.intro a0 (And.intro a1 a2)
      clear hx hrow a0 a1 a2 g1 g2 g3 g4 g5
      go_upto_region 9 with fail
      go_cut [9] from 27 to 84 (fun s9 wx => ∃ (P : Nat) (v : Value) (vs : List Value) (B' : Nat), s9 = .pointer (some ⟨P, 0, none⟩) ∧ FsB wx P (mdN xs (kOf xs) : Int) (1 + log : Int) v ∧ Own2 wx B' xs (kOf xs) v vs ∧ Below wr.heap.size wr wx ∧ wr.heap.size ≤ P)
      case first =>
        have hz : b ≠ wr.heap.size := by omega
        go_region_held3 (fun w' => w'.cell? ⟨b, off + i * 3, none⟩ = some (.slice lq xs.length lc) ∧ w'.cell? ⟨b, off + i * 3 + 1, none⟩ = some (.int .u32 (log : Int))) (first | with_reducible exact ⟨c0, c1⟩ | with_reducible exact ⟨(cell_set3 hz).trans c0, (cell_set3 hz).trans c1⟩ | go_keep)
          (first
            | (go_at_call 5; with_reducible refine (hmk _ ?_).mono ?_; (· repeat (first | exact RowKit.Below.refl _ _ | refine RowKit.Below.drew ?_ | refine RowKit.Below.alloc ?_ (by simp) _)); rintro e wf ⟨v, vs, rfl, hO2, hbf⟩; obtain ⟨X, hX⟩ : ∃ X, RowKit.Below wr.heap.size wr X ∧ RowKit.Below X.heap.size X wf := ⟨_, (by repeat (first | exact RowKit.Below.refl _ _ | refine RowKit.Below.drew ?_ | refine RowKit.Below.alloc ?_ (by simp) _)), hbf⟩; replace c0 := kcV hX.1 hX.2 c0; replace c1 := kcV hX.1 hX.2 c1; have hbz := below2 hX.1 hX.2; obtain ⟨q5, n5, cap5, rfl⟩ := hO2.sl; (first | (have b0 := fzo1 hbf; obtain ⟨q0, q1, q2⟩ := b0.facts; have fz := b0.frz) | (have b0 := fzo2 hbf; obtain ⟨q0, q1, q2⟩ := b0.facts; have fz := b0.frz) | (have b0 := fzo3 hbf; obtain ⟨q0, q1, q2⟩ := b0.facts; have fz := b0.frz) | skip)))
        · go_wp2_with fail
          go_meet
          case rel => exact ⟨wf.heap.size, _, vs, _, rfl, heap_alloc_new wf _, hO2.below ((Below.refl _ _).alloc (Nat.le_refl _) _), hbz.alloc hbz.size _, hbz.size⟩
        · have HR : Hid _ := b0.set (mdN xs (kOf xs) : Int) (1 + log : Int) (.slice q5 n5 cap5)
          have HO : Hid _ := hO2.set3 (p := .int .u64 (mdN xs (kOf xs) : Int)) (q := .int .u64 (1 + log : Int)) (r := .slice q5 n5 cap5) b0
          have HBS : Hid _ := below_setv (below_setv (below_setv hbz (Nat.le_refl _) (o := 0) (.int .u64 (mdN xs (kOf xs) : Int))) (Nat.le_refl _) (o := 1) (.int .u64 (1 + log : Int))) (Nat.le_refl _) (o := 2) (Value.slice q5 n5 cap5)
          clear b0 q0 q1 q2 fz hO2
          go_wp2_with fail
          go_meet
          case rel => exact ⟨wr.heap.size, _, vs, _, rfl, HR.out, HO.out, HBS.out, Nat.le_refl _⟩
      case rest =>
        obtain ⟨P, v, vs, B', rfl, hFP, hO, hbc, hP⟩ := hcut
        obtain ⟨q5, n5, cap5, rfl⟩ := hO.sl
        have hlfc := Lft.of hbc hBr
        have hMc := hM.below hbc
        have hLc := hLs.left hlfc
        have hbwc := belL hbr hlfc
        have hBc : B ≤ wc.heap.size := Nat.le_trans hBr hbc.size
        have hTc : Tabs wc := hT.below (by rw [← HB.out]; exact hbwc)
        obtain ⟨g1, g2, g3, g4, g5⟩ := HG.out
        have hsv := Save_any (.slice q5 n5 cap5) vs (mdN xs (kOf xs)) (1 + log) (mdS xs (kOf xs)) hO.arg (frF_ok xs log g3) hTc hMc hBc hRR (by omega)
        have el : ((1 + log : Nat) : Int) = 1 + (log : Int) := by omega
        rw [el] at hsv
        obtain ⟨p0, p1, p2⟩ := hFP.facts
        have hE1 : (⟨#[109]⟩ : ByteArray) = bstr [109] := rfl
        have HGG : Hid _ := And.intro g4 g5
        clear g1 g2 g4 g5 hM hLs hmk c0 c1
        go_wp2_with fail
        refine hsv.mono ?_
        rintro e w4 ⟨o', hcase, hM4, hlf4⟩
        have hF4 := hFP.left hlf4
        have hO4 := hO.left hlf4
        have hL4 := hLc.left hlf4
        have hb4 := belL hbwc hlf4
        clear hsv p0 p1 p2 hFP hO hLc hMc hTc
        obtain ⟨ev, he9, hc9⟩ : ∃ ev : Int, e = .returned (.int .i64 ev) ∧ ((ev = 0 ∧ o' = some (frF xs log)) ∨ (ev = 7 ∧ o' = o)) := by
          rcases hcase with ⟨h1, h2⟩ | ⟨h1, h2⟩
          · exact ⟨0, h1, .inl ⟨rfl, h2⟩⟩
          · exact ⟨7, h1, .inr ⟨rfl, h2⟩⟩
        clear hcase
        subst he9
        go_upto_if 42 with fail
        go_cut [7] from 43 to 84 (fun s7 wx => ∃ (sm' : Bool) (o9 : Option (List UInt8)), s7 = .bool sm' ∧ MDk wx B d m o9 R (2 * i + 2) ∧ LstF wx bl o9 sm' ∧ Below B w wx)
        case first =>
          rcases hc9 with ⟨rfl, rfl⟩ | ⟨rfl, rfl⟩
          · obtain ⟨p0, p1, p2⟩ := hF4.facts
            obtain ⟨fl, n0, g0, v0, hbx⟩ := hL4.frz
            obtain ⟨y0, y1, y2⟩ := hbx.facts
            have HFn : Hid _ := hbx.set (mdN xs (kOf xs) : Int) (1 + log : Int) (.slice q5 n5 cap5)
            have HOn : Hid _ := hO4.set3 (p := .int .u64 (mdN xs (kOf xs) : Int)) (q := .int .u64 (1 + log : Int)) (r := .slice q5 n5 cap5) hbx
            have HMn : Hid _ := hM4.set3 (p := .int .u64 (mdN xs (kOf xs) : Int)) (q := .int .u64 (1 + log : Int)) (r := .slice q5 n5 cap5) hbx
            have HBn : Hid _ := below_setv (below_setv (below_setv hb4 hblB (o := 0) (.int .u64 (mdN xs (kOf xs) : Int))) hblB (o := 1) (.int .u64 (1 + log : Int))) hblB (o := 2) (Value.slice q5 n5 cap5)
            clear hF4 hO4 hM4 hb4 hL4 hbx
            go_wp2
            go_meet
            case rel => exact ⟨true, _, rfl, HMn.out, .inr ⟨rfl, xs, log, _, _, vs, g3, rfl, HFn.out, HOn.out⟩, HBn.out⟩
          · clear hF4 hO4
            go_wp2
            go_meet
            case rel => exact ⟨sm, _, rfl, hM4, hL4, hb4⟩
        case rest =>
          clear hF4 hO4 hM4 hL4 hb4 hc9 hlf4
          obtain ⟨sm', o9, rfl, hM5, hL5, hb5⟩ := hcut
          obtain ⟨g4, g5⟩ := HGG.out
          obtain ⟨a0, a1, a2⟩ := HA.out
          have hB5 : B ≤ wc.heap.size := by have := hb5.size; rw [HB.out]; exact this
          obtain ⟨kt, hkt⟩ : ∃ kt, kt = min ks.length 9 := ⟨_, rfl⟩
          have hkm : min (ks.length : Int) 9 = (kt : Int) := by omega
          have hkl : (ks.take kt).length = kt := by rw [List.length_take]; omega
          have hhd := fun W => vhead_run (P := Tryd.prog) (t := 32) (q := kq) (len := ks.length) (cap := kc) (n := kt) (s := 1) Tryd.underlying32 (fun W => Tryd.sizeOf3 W) (by omega) W
          have hcr : ∀ X, Below wc.heap.size wc X → Calls Tryd.prog 7 #[.pointer (some ⟨d, 0, none⟩), .slice kq kt kc] X fun e w' => e = .returned (.tuple #[]) ∧ MDk w' B d m o9 R (2 * i + 2) ∧ Lft wc w' B := by
            intro X hX
            have h9 := Crash_one kq kc (ks.take kt) (hM5.below hX) (by omega) (Nat.le_trans hB5 hX.size) (fun h0 => by
              obtain ⟨b1, off1, e1, h1, h2⟩ := g4 (by omega)
              rw [← HB.out] at h1
              refine ⟨b1, off1, e1, h1, fun j hj => ?_⟩
              rw [World.cell?_of_block ((hX.block b1 (by omega)).trans (hb5.block b1 h1)), h2 j (by omega), List.getElem_take]) hRR hL5.len
            rw [hkl] at h9
            exact h9.mono fun e w' ⟨e1, e2, e3⟩ => ⟨e1, e2, (Lft.of hX hB5).trans e3⟩
          have c2 := hcB hb5 hbB a2
          clear g4 g5 a0 a1 a2 hkl hkt
          go_upto_region 16 with fail
          go_region_held3 (fun w' => w'.cell? ⟨b, off + i * 3 + 2, none⟩ = some (.slice kq ks.length kc)) (first | with_reducible exact c2 | go_keep)
            (first
              | (go_at_call 7; with_reducible refine (hcr _ ?_).mono ?_; (· repeat (first | exact RowKit.Below.refl _ _ | refine RowKit.Below.drew ?_)); rintro e w6 ⟨rfl, hM6, hlf6⟩; have c2 := hcB (belL hb5 hlf6) hbB HA.out.2.2))
          have hL6 := hL5.left hlf6
          have hb6 := belL hb5 hlf6
          have hT6 : Tabs w6 := hT.below (by rw [← HB.out]; exact hb6)
          have hB6 : B ≤ w6.heap.size := Nat.le_trans hB5 hlf6.bl.size
          clear hL5 hb5 hM5 hcr c2 hlf6 hhd hkm
          rcases hL6 with ⟨rfl, rfl, hF6⟩ | ⟨rfl, xs', log', B6, v6, vs6, hlg6, rfl, hF6, hO6⟩
          · go_wp2_with fail
            refine (Load_none hM6).mono ?_
            rintro e w7 ⟨rfl, hb7⟩
            have hb67 := belB hb6 hb7 hB6
            have hB7 : B ≤ w7.heap.size := Nat.le_trans hB6 hb7.size
            have hb8 : Below w7.heap.size w7 (w7.alloc (.cells #[.int .u64 0, .int .u64 0, .slice none 0 0] 28)) := (Below.refl _ _).alloc (Nat.le_refl _) _
            have HN : Hid (MDk (w7.alloc (.cells #[.int .u64 0, .int .u64 0, .slice none 0 0] 28)) B d m none R (2 * (i + 1)) ∧ LstF (w7.alloc (.cells #[.int .u64 0, .int .u64 0, .slice none 0 0] 28)) bl none false ∧ Below B w (w7.alloc (.cells #[.int .u64 0, .int .u64 0, .slice none 0 0] 28))) :=
              ⟨(hM6.below hb7).below hb8, .inl ⟨rfl, rfl, (hF6.below hb7 (lt_of_block hF6)).below hb8 (Nat.lt_of_lt_of_le (lt_of_block hF6) hb7.size)⟩, belB hb67 hb8 hB7⟩
            have HI : Hid _ := And.intro hl1 hl2
            clear hM6 hF6 hb6 hb7 hb67 hb8 hT6
            go_wp2
            go_roundw
            case rel => exact ⟨i + 1, false, none, by go_num, rfl, by have := HI.out; omega, by have := HI.out; omega, HN⟩
            case measure => have := HI.out; simp [intOf]; omega
          · have hok6 := frF_ok xs' log' hlg6
            have el6 : ((1 + log' : Nat) : Int) = 1 + (log' : Int) := by omega
            have hld := Load_some (mdN xs' (kOf xs')) (1 + log') (mdS xs' (kOf xs')) hok6 hT6 hM6
            simp only [el6] at hld
            go_wp2_with fail
            refine hld.mono ?_
            rintro e w7 ⟨vx, vsx, rfl, hLx, hb7⟩
            obtain ⟨qx, capx, rfl, _, _⟩ := id hLx.sl
            have hb67 := belB hb6 hb7 hB6
            have hB7 : B ≤ w7.heap.size := Nat.le_trans hB6 hb7.size
            obtain ⟨w8, hw8⟩ : ∃ w8, w8 = w7.alloc (.cells #[.int .u64 (mdN xs' (kOf xs') : Int), .int .u64 (1 + log' : Int), .slice qx (mdS xs' (kOf xs')).length capx] 28) := ⟨_, rfl⟩
            have hb8 : Below w7.heap.size w7 w8 := by rw [hw8]; exact (Below.refl _ _).alloc (Nat.le_refl _) _
            have hX8 : FsB w8 w7.heap.size (mdN xs' (kOf xs') : Int) (1 + log' : Int) (.slice qx (mdS xs' (kOf xs')).length capx) := by rw [hw8]; exact heap_alloc_new w7 _
            have hM8 := (hM6.below hb7).below hb8
            have hF8 := (hF6.below hb7 (lt_of_block hF6)).below hb8 (Nat.lt_of_lt_of_le (lt_of_block hF6) hb7.size)
            have hO8 := (hO6.below hb7).below hb8
            have hb78 := belB hb67 hb8 hB7
            have hB8 : B ≤ w8.heap.size := Nat.le_trans hB7 hb8.size
            have hsm := same_ok _ _ vsx vs6 (mdN xs' (kOf xs')) (1 + log') (mdS xs' (kOf xs')) w8 (hLx.below hb8) hO8.arg hok6.l hok6.m
            simp only [el6] at hsm
            obtain ⟨q6, n6, cap6, rfl⟩ := hO8.sl
            obtain ⟨y0, y1, y2⟩ := hF8.facts
            obtain ⟨z0, z1, z2⟩ := hX8.facts
            have HW8 : Hid _ := hw8
            have HI : Hid _ := And.intro hl1 hl2
            have HK : Hid _ := And.intro hM8 (And.intro hF8 (And.intro hO8 hlg6))
            clear hw8 hM6 hF6 hO6 hLx hb6 hb7 hb67 hb8 hld hM8 hF8 hO8 hX8 hT6 hok6 el6
            go_upto_region 18 with fail
            rw [← HW8.out]
            clear HW8
            go_wp2_with fail
            refine hsm.mono ?_
            rintro e w9 ⟨rfl, hb9⟩
            obtain ⟨hM8, hF8, hO8, hlg6⟩ := HK.out
            have HN : Hid (MDk w9 B d m (some (frF xs' log')) R (2 * (i + 1)) ∧ LstF w9 bl (some (frF xs' log')) true ∧ Below B w w9) :=
              ⟨hM8.below hb9, .inr ⟨rfl, xs', log', _, _, vs6, hlg6, rfl, hF8.below hb9 (lt_of_block hF8), hO8.below hb9⟩, belB hb78 hb9 hB8⟩
            clear hM8 hF8 hO8 hsm y0 y1 y2 z0 z1 z2 hb9 hb78
            go_wp2
            go_roundw
            case rel => exact ⟨i + 1, true, _, by go_num, rfl, by have := HI.out; omega, by have := HI.out; omega, HN⟩
            case measure => have := HI.out; simp [intOf]; omega
    · obtain ⟨_, _, hbr⟩ := HS.out
      have hTr : Tabs wr := hT.below (by rw [← HB.out]; exact hbr)
      have hwk := works13_any wr hTr
      have hBr : B ≤ wr.heap.size := by have := hbr.size; rw [HB.out]; exact this
      by_cases hi1 : i < l.length
      · have g1 : (i : Int) < (l.length : Int) := by omega
        have g2 : ¬ (i : Int) < 12 := by omega
        clear hlt
        go_wp2_with fail
        refine hwk.mono ?_
        rintro e w9 ⟨rfl, hb9⟩
        have hfin := belB hbr hb9 hBr
        go_wp2
        go_ret
        exact ⟨rfl, by rw [← HB.out]; exact hfin⟩
      · have g1 : ¬ (i : Int) < (l.length : Int) := by omega
        clear hlt
        go_wp2_with fail
        refine hwk.mono ?_
        rintro e w9 ⟨rfl, hb9⟩
        have hfin := belB hbr hb9 hBr
        go_wp2
        go_ret
        exact ⟨rfl, by rw [← HB.out]; exact hfin⟩

end Go.Proofs.YtnfnlfdplnekgaaDoor

namespace Go.Proofs.YtnfnlfdplnekgaaDoor
set_option maxRecDepth 100000
open Go.ChangeShapes Go.WideShapes Go.ChangeAt Go.RowKit

theorem manifestLasts_met (os : Os) : laidMet Tryd.prog Rows.manifestLastsRow.laid ((World.laidAll Tryd.prog os laid2).forCall (fun _ _ => 0) ⟨#[], #[.int .i64 0, .slice none 0 0], []⟩).memory :=
  laidMet_laidAll (laid := laid2) _ (by kernel_rfl) (by kernel_rfl)
theorem manifestLasts_reads (os : Os) {H : Type} (enc : TypeId × Value → H) : ∃ places, DataW.whole enc Tryd.prog ((World.laidAll Tryd.prog os laid2).forCall (fun _ _ => 0) ⟨#[], #[.int .i64 0, .slice none 0 0], []⟩).memory Tryd.f3.params.toList Rows.manifestLastsSpec.vars false #[Value.int .i64 0, .slice none 0 0].toList 8 = some ([.lit (.int .i64 0), .nil], [], places) :=
  ⟨[], by kernel_rfl⟩

theorem manifestLasts_contract (H : Type) (enc : TypeId × Value → H) (W : World) (base : Nat) (args : Array Value) (ds gs : List (DataW H)) (before : List MemPlace)
    (hval : ∀ (j : Nat) t v, Tryd.f3.params[j]? = some t → args[j]? = some v → Value.okWide Tryd.prog W .any base t v)
    (hW : DataW.Whole enc Tryd.prog Tryd.f3.params.toList Rows.manifestLastsSpec.vars false W args.toList ds gs before)
    (hwt : (DataW.weightsEach Tryd.prog (Tryd.f3.params.toList ++ (OpenSpec.ofChange Rows.manifestLastsSpec).bare.plain.varTypes Tryd.prog) (ds ++ gs)).all (· ≤ reachBytes) = true)
    (hL : laidMetH Tryd.prog Rows.manifestLastsRow.laid W) :
    Calls Tryd.prog 3 args W fun e W' => ∃ v, e = .returned v ∧ Rows.manifestLastsSpec.post enc Tryd.prog Tryd.f3 false true false false W args v W' := by
  have hW' := hW
  obtain ⟨p, q, hA0, hV, rfl, hfz, hnd⟩ := hW
  have hA : DataW.TrodAll enc Tryd.prog W 0 (fun _ => true) true Tryd.f3.params.toList args.toList ds p := hA0
  rw [Tryd.params3] at hA hval
  obtain ⟨v0, vs0, d0, ds0, p0, q0, hargs0, rfl, rfl, h0, r0⟩ := trodAll_cons hA
  obtain ⟨v1, vs1, d1, ds1, p1, q1, hargs1, rfl, rfl, h1, r1⟩ := trodAll_cons r0
  obtain ⟨rfl, rfl, rfl⟩ := trodAll_nil r1
  obtain rfl : args = #[v0, v1] := by cases args; simp_all
  obtain ⟨rfl, rfl⟩ := trodVars_none hV
  have lt0 : ∀ x ∈ p0, x.block < W.heap.size := by obtain ⟨m, hm⟩ := h0; exact DataW.trod_lt m _ _ _ hm
  have lt1 : ∀ x ∈ p1, x.block < W.heap.size := by obtain ⟨m, hm⟩ := h1; exact DataW.trod_lt m _ _ _ hm
  obtain ⟨a0, rfl, hd0, hp0, hs0⟩ := open_int Tryd.underlying3 (hval 0 3 v0 rfl rfl) h0
  obtain ⟨q1, b1, off1, cap1, l1, rfl, hq1, hx1⟩ := arg_saves (hval 1 22 v1 rfl rfl) h1
  clear hA0
  simp only [List.append_nil] at hW'
  have hwalk := MLasts_any a0 q1 b1 off1 cap1 l1 W (bounds_i64 hs0).2 hq1 hx1 (tabs_of_laid hL) 
  refine hwalk.mono fun e W' ⟨he, bel⟩ => ?_
  subst he
  exact ⟨_, rfl, _, _, _, [], _, [], hW', trodAll_mk1 (shut_bool Tryd.underlying4 _), (trodAll_cons_mk (Below.trod k_laidOut (by kernel_rfl) (of_decide_eq_true (by kernel_rfl)) h0 bel lt0) (trodAll_cons_mk (Below.trod k_laidOut (by kernel_rfl) (of_decide_eq_true (by kernel_rfl)) h1 bel lt1) trodAll_mk0)), rfl, bel.frame _, fun h => by cases h⟩

theorem manifestLasts_lifted (os : Os) (started : os.Started) (H : Type) (enc : TypeId × Value → H) (F : Stop.Interp) :
    ReturnsInHanded {} Tryd.checked os 3 .any ((OpenSpec.ofChange Rows.manifestLastsSpec).preRow enc Tryd.prog Tryd.f3 Rows.manifestLastsRow.domain false Rows.manifestLastsRow.laid) (((OpenSpec.ofChange Rows.manifestLastsSpec).at F).post enc Tryd.prog Tryd.f3 false true false false) := by
  obtain ⟨places, hx⟩ := manifestLasts_reads os enc
  refine returnsInHanded_of_row (C := Tryd.checked) (s := OpenSpec.ofChange Rows.manifestLastsSpec) own started (by kernel_rfl) Tryd.func3
    (witness_row_at (enc := enc) (C := Tryd.checked) false (World.laidAll Tryd.prog os laid2) #[.int .i64 0, .slice none 0 0] (World.laidAll_os _ _ _) (by kernel_rfl) (by kernel_rfl) (by kernel_rfl)
      (OpenSpec.preRow_of_cond 8 hx (by kernel_rfl) (fun k hk => by cases hk) (by kernel_rfl) (manifestLasts_met os))) ?_
  intro W base args ds gs before hval hW _ _ hwt hL _ _
  exact manifestLasts_contract H enc W base args ds gs before hval hW hwt hL

theorem manifestLasts_said : Rows.ManifestLastsSaid :=
  OpenClaim.holds_of_cond 3 Tryd.f3 rfl rfl rfl rfl rfl rfl rfl ⟨rfl, rfl, rfl, rfl, rfl⟩ rfl rfl rfl rfl rfl (by kernel_rfl) Tryd.func3 (by kernel_rfl)
    (of_decide_eq_true (by kernel_rfl)) (by unfold Func.isWrapper; first | (rw [if_pos (by decide +kernel)]; kernel_rfl) | (rw [if_neg (by decide +kernel)]; exact ⟨rfl, rfl⟩))
    (fun os started H enc _ F => by rw [OpenClaim.pre_eq_preRow]; exact manifestLasts_lifted os started H enc F)

theorem manifestLasts_plain (f : FuncId) (fn : Func) (hf : Tryd.pinned.checked.prog.funcNamed "acreage/acreagelaw13.ManifestLasts" = some f) (hfn : Tryd.pinned.checked.prog.funcs[f]? = some fn) :
    false = Tryd.pinned.checked.prog.looks [] ∧ ∀ (j : Nat) t, fn.params[j]? = some t → Tryd.pinned.checked.prog.wantsStandIn t = false := by
  obtain rfl : f = 3 := Option.some.inj ((show Tryd.prog.funcNamed "acreage/acreagelaw13.ManifestLasts" = some 3 by kernel_rfl).symm.trans hf) |>.symm
  obtain rfl : fn = Tryd.f3 := (Option.some.inj (Tryd.func3.symm.trans hfn)).symm
  refine ⟨by kernel_rfl, fun j t ht => ?_⟩
  rw [Tryd.params3] at ht
  have hm : t ∈ [3, 22] := by simpa using Array.mem_of_getElem? ht
  have hall : ([3, 22].all fun u => !Tryd.prog.wantsStandIn u) = true := by kernel_rfl
  exact (show Tryd.prog.wantsStandIn t = false by simpa using List.all_eq_true.1 hall t hm)

/-- THE STATEMENT. -/
theorem manifestLasts_card : Rows.ManifestLastsCardSaid :=
  Claim7.holds_tied_plain_at .later [] _ _ _ _ manifestLasts_said (fun _ h => by cases h) (by kernel_rfl) (fun _ h => by cases h) manifestLasts_row_tie rfl ⟨rfl, rfl⟩ (by kernel_rfl) rfl manifestLasts_plain (by kernel_rfl)
#print axioms manifestLasts_card

end Go.Proofs.YtnfnlfdplnekgaaDoor
