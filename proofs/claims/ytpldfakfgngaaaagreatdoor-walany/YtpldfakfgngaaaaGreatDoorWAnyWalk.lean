/-
  The walk of WalAny.
-/
import Derived.Test.YtpldfakfgngaaaaGreatDoorWAny
namespace Go.Proofs.YtpldfakfgngaaaaGreatDoor
open Go.RowKit
attribute [local go_sem] size_bstr toList_bstr append_bstr

theorem new_app {s t : List UInt8} {P : List F3} (h : lkP s P = none) : wthP (s, gtP s P ++ t, syP s P) P = wthP (s, t, 0) P := by
  have h2 : syP s P = 0 := by unfold syP; rw [ofP_lk, h]; rfl
  rw [gtP_none h, h2, List.nil_append]
theorem no5 : lkP n5 [] = none := rfl
theorem nov (b : List UInt8) : lkP nv (wthP (n5, b, 0) []) = none := by rw [lkP_wth_other List.Pairwise.nil (f := (n5, b, 0)) ne5v.symm]; rfl
theorem notm (b : List UInt8) : lkP nt (wthP (nv, [109, 105, 110, 101], 0) (wthP (n5, b, 0) [])) = none := by
  rw [lkP_wth_other (s5 b) (f := (nv, [109, 105, 110, 101], 0)) nevt.symm, lkP_wth_other List.Pairwise.nil (f := (n5, b, 0)) ne5t.symm]; rfl
theorem noa (b : List UInt8) : lkP na (wthP (nt, [120], 0) (wthP (nv, [109, 105, 110, 101], 0) (wthP (n5, b, 0) []))) = none := by
  rw [lkP_wth_other (sv b) (f := (nt, [120], 0)) neta.symm, lkP_wth_other (s5 b) (f := (nv, [109, 105, 110, 101], 0)) neva.symm, lkP_wth_other List.Pairwise.nil (f := (n5, b, 0)) ne5a.symm]; rfl
theorem noz (b : List UInt8) : lkP nz (wthP (na, [121], 0) (wthP (nt, [120], 0) (wthP (nv, [109, 105, 110, 101], 0) (wthP (n5, b, 0) [])))) = none := by
  rw [lkP_wth_other (st b) (f := (na, [121], 0)) neaz.symm, lkP_wth_other (sv b) (f := (nt, [120], 0)) netz.symm, lkP_wth_other (s5 b) (f := (nv, [109, 105, 110, 101], 0)) nevz.symm, lkP_wth_other List.Pairwise.nil (f := (n5, b, 0)) ne5z.symm]; rfl

theorem run_take {P : Program} (t : TypeId) (L : List UInt8) (n : Nat) (hn : n ≤ L.length) (w : World) (ht : P.underlying t = some .string) :
    (Instr.slice t (.string (bstr L)) none (some (.int .i64 (n : Int))) none).run P w = .ok (.string (bstr (L.take n))) w := by
  have h := run_cut (P := P) t L (n : Int) n rfl w ht
  rwa [show min (L.length : Int) (n : Int) = (n : Int) by omega] at h

set_option maxHeartbeats 600000 in
set_option maxRecDepth 100000 in
theorem any_any (x : List UInt8) (w : World) (hv : Vw w.heap.size w) :
    Calls Tryz.prog 6 #[.string (bstr x)] w fun e w' => e = .returned (.bool true) ∧ Below w.heap.size w w' := by
  obtain ⟨b, hb⟩ : ∃ b, b = x.take 2000 := ⟨_, rfl⟩
  have hbl : b.length ≤ 2000 := by rw [hb, List.length_take]; omega
  have hcu := cut7_any x 2000 w
  rw [← hb] at hcu
  clear hb
  go_enter Tryz.func6, Tryz.ntmps6
  go_wp2_with fail
  refine hcu.mono ?_
  rintro e w0 ⟨rfl, hw0⟩
  obtain rfl : w = w0 := hw0.symm
  clear hw0
  go_wp2_with fail
  refine (New_db w hv 1048576).mono ?_
  rintro e w1 ⟨d, m, rfl, D1, hb1⟩
  go_wp2_with fail
  refine (App_db n5 b D1 (by decide) (by omega) (by simp [tot]) (by simp [tot]; omega)).mono ?_
  rintro e w2 ⟨rfl, L2, fr2, D2, P2, R2, T2, hb2⟩
  have P2 : Pu L2 = wthP (n5, b, 0) [] := P2.trans (new_app no5)
  have R2 : fr2 + tot L2 = 1048576 := R2
  have T2 : tot L2 ≤ 2000 := by have : tot [] = 0 := rfl; omega
  go_wp2_with fail
  refine (App_db nv [109, 105, 110, 101] D2 (by decide) (by omega) (by omega) (by simp only [List.length_cons, List.length_nil]; omega)).mono ?_
  rintro e w3 ⟨rfl, L3, fr3, D3, P3, R3, T3, hb3⟩
  have P3 : Pu L3 = wthP (nv, [109, 105, 110, 101], 0) (wthP (n5, b, 0) []) := by rw [P3, P2]; exact new_app (nov b)
  simp only [List.length_cons, List.length_nil] at T3
  go_wp2_with fail
  refine (App_db nt [120] D3 (by decide) (by omega) (by omega) (by simp only [List.length_cons, List.length_nil]; omega)).mono ?_
  rintro e w4 ⟨rfl, L4, fr4, D4, P4, R4, T4, hb4⟩
  have P4 : Pu L4 = wthP (nt, [120], 0) (wthP (nv, [109, 105, 110, 101], 0) (wthP (n5, b, 0) [])) := by rw [P4, P3]; exact new_app (notm b)
  simp only [List.length_cons, List.length_nil] at T4
  go_wp2_with fail
  refine (App_db na [121] D4 (by decide) (by omega) (by omega) (by simp only [List.length_cons, List.length_nil]; omega)).mono ?_
  rintro e w5 ⟨rfl, L5, fr5, D5, P5, R5, T5, hb5⟩
  have P5 : Pu L5 = wthP (na, [121], 0) (wthP (nt, [120], 0) (wthP (nv, [109, 105, 110, 101], 0) (wthP (n5, b, 0) []))) := by rw [P5, P4]; exact new_app (noa b)
  simp only [List.length_cons, List.length_nil] at T5
  go_wp2_with fail
  refine (App_db nz [122] D5 (by decide) (by omega) (by omega) (by simp only [List.length_cons, List.length_nil]; omega)).mono ?_
  rintro e w6 ⟨rfl, L6, fr6, D6, P6, R6, T6, hb6⟩
  have P6 : Pu L6 = pAny b := by rw [P6, P5]; exact new_app (noz b)
  simp only [List.length_cons, List.length_nil] at T6
  have hB6 : Below w.heap.size w w6 := hb1.trans (hb2.trans (hb3.trans (hb4.trans (hb5.trans hb6))))
  have N6 : fr6 + tot L6 = 1048576 := by omega
  clear hb1 hb2 hb3 hb4 hb5 hb6 P2 P3 P4 P5 D1 D2 D3 D4 D5
  go_wp2_with fail
  refine (Open_any [119] 50 w6 D6.vw D6.dk D6.ge (by decide) (by decide) (by omega) (by omega) (by omega)).mono ?_
  rintro e w7 ⟨L7, fr7, S7, P7, R7, hb7, _, ok7⟩
  have ht6 : totP (pAny b) = tot L6 := by rw [← P6, totP_Pu]
  rw [N6, P6, opAny b 1048576 (by omega)] at P7 ok7
  obtain ⟨k, F, v, rfl, kd, kp, km, h7, hF, hW⟩ := ok7 rfl
  have hF : Pw F = [(5, scn' b)] := hF
  obtain ⟨r1, r2, r3, r4, r5, r6⟩ := rAny P7
  have hsl := scn'_len b
  have hl7 : F.length = 1 := by have := congrArg List.length hF; simpa [Pw] using this
  have hn7 : nxtF (Pw F) = 5 + (scn' b).length := by rw [hF]; rfl
  have hf7 : fstF (Pw F) = 5 := by rw [hF]; rfl
  have hsr : F.Pairwise (fun a b => a.num < b.num) := by
    match F, hl7 with
    | [x], _ => exact List.pairwise_singleton _ _
  have hsm : ∀ f ∈ F, ∀ r ∈ f.recs, r.length ≤ 1048576 := fun f hf r hr => by
    have hm : pw f ∈ Pw F := List.mem_map.2 ⟨f, hf, rfl⟩
    rw [hF] at hm
    have e : f.recs = scn' b := congrArg Prod.snd (List.mem_singleton.1 hm)
    rw [e] at hr
    exact scn_small _ _ r hr
  have hfl7 : flatF (Pw F) = scn' b := by rw [hF]; simp [flatF]
  have hsc := Scan_any b w7 (by omega) h7.vw.tabs
  have esc : scn b.length b = scn' b := rfl
  rw [esc] at hsc
  have hge : ∀ (i : Nat) (hi : i < (scn' b).length) (w8 : World), Below w7.heap.size w7 w8 → Calls Tryz.prog 22 #[.pointer (some ⟨k.g, 0, none⟩), .int .u64 ((5 + i : Nat) : Int)] w8 fun e w' => e = .returned (.tuple #[.string (bstr (scn' b)[i]), .int .i64 0]) ∧ Below w8.heap.size w8 w' := by
    intro i hi w8 hb8
    refine (Get_ok (5 + i) w8 (h7.wm.below hb8) hsr (by rw [hF]; trivial) (by omega) (by omega) (by omega) (by omega) (by omega) hsm).mono ?_
    rintro e w' ⟨⟨c, hc, rfl⟩, hbc⟩
    rw [hfl7, hf7, show 5 + i - 5 = i by omega, List.getElem?_eq_getElem hi] at hc
    cases hc
    exact ⟨rfl, hbc⟩
  have hfi := fun w8 (hb : Below w7.heap.size w7 w8) => First_any w8 (h7.wm.below hb)
  have hnx := fun w8 (hb : Below w7.heap.size w7 w8) => Next_any w8 (h7.wm.below hb) (by omega) (by omega)
  rw [hf7] at hfi
  rw [hn7] at hnx
  have hD7 : Db w.heap.size w7 d m L7 fr7 (2 * 5 + 10) := by
    obtain ⟨kd', rfl⟩ : ∃ x, d = x := ⟨d, rfl⟩
    exact ⟨S7.dk.mono (by omega), fun i hi => by
      rcases S7.ft i hi with a | a
      · exact D6.ge i a
      · exact Nat.le_trans D6.vw.le a, D6.vw.below hb7⟩
  have hB7 := hB6.trans hb7
  have hst := scn'_tot b
  have gv : gtP nv (Pu L7) = [109, 105, 110, 101] := gtP_some r3
  have ga : gtP na (Pu L7) = [121] := gtP_some r4
  have gz : gtP nz (Pu L7) = [122] := gtP_some r5
  have hR5 := fun w8 (hb : Below w7.heap.size w7 w8) => Read_db n5 (hD7.below hb) (by decide)
  have hRv := fun w8 (hb : Below w7.heap.size w7 w8) => Read_db nv (hD7.below hb) (by decide)
  have hRa := fun w8 (hb : Below w7.heap.size w7 w8) => Read_db na (hD7.below hb) (by decide)
  have hRt := fun w8 (hb : Below w7.heap.size w7 w8) => Read_db nt (hD7.below hb) (by decide)
  have hRz := fun w8 (hb : Below w7.heap.size w7 w8) => Read_db nz (hD7.below hb) (by decide)
  rw [r1, r2] at hR5
  rw [gv, r3] at hRv
  rw [ga, r4] at hRa
  rw [gz, r5] at hRz
  rw [r6] at hRt
  simp only [Option.isSome_some, Option.isSome_none, Bool.false_eq_true, if_true, if_false] at hR5 hRv hRa hRz hRt
  have HGE : Hid _ := hge
  clear hsr hsm hF esc hge hfl7 hl7 hf7 hn7 ok7 P7 r1 r2 r3 r4 r5 r6 gv ga gz
  generalize scn' b = G at *
  go_wp2_with fail
  refine hsc.mono ?_
  rintro e w8 ⟨u, rfl, own8, hb8⟩
  obtain ⟨q8, cap8, rfl⟩ := own_slice own8
  go_wp2_with fail
  refine (hfi w8 hb8).mono ?_
  rintro e w9 ⟨rfl, hw9⟩
  obtain rfl : w8 = w9 := hw9.symm
  clear hw9
  go_wp2_with fail
  refine (hnx w8 hb8).mono ?_
  rintro e w9 ⟨rfl, hb9⟩
  have hb79 : Below w7.heap.size w7 w9 := hb8.trans (hb9.mono hb8.size)
  have own9 := own_belowS own8 hb9
  have e5 : ((5 + G.length : Nat) : Int) = 5 + (G.length : Int) := by omega
  rw [e5]
  clear e5
  go_wp2_with fail
  go_loopw [8] (fun s8 wx => ∃ i : Nat, s8 = .int .i64 (i : Int) ∧ i ≤ G.length ∧ Below w7.heap.size w7 wx ∧ wx.ownsRow w7.heap.size 9 1 (.slice q8 G.length cap8) G.length (strCells G)) (fun s8 _ => G.length - (intOf s8).toNat)
  case atStart => exact ⟨0, rfl, Nat.zero_le _, hb79, own9⟩
  case round =>
    obtain ⟨i, rfl, hi, hbx, ownx⟩ := hrel
    clear own8 own9
    by_cases hl : i < G.length
    · have hil : (i : Int) < (G.length : Int) := by omega
      have hge := fun w8 hb => HGE.out i hl w8 hb
      have e6 : ((5 + i : Nat) : Int) = 5 + (i : Int) := by omega
      rw [e6] at hge
      clear e6
      obtain ⟨x1, hx1⟩ : ∃ x1, x1 = G[i] := ⟨_, rfl⟩
      have hcell : ∀ y : World, Below wr.heap.size wr y → ∃ g, q8 = some ⟨g, 0, none⟩ ∧ y.cell? ⟨g, i, none⟩ = some (.string (bstr x1)) := by
        intro y hy
        have hown := own_belowS ownx hy
        rcases hown.2 with ⟨_, h1⟩ | ⟨g, c, cur, e, _⟩
        · omega
        · cases e
          refine ⟨g, rfl, ?_⟩
          have := hown.cells (g := g) rfl i (.string (bstr x1)) (by rw [hx1]; simp [strCells, hl])
          rw [Addr.add_lit, Nat.zero_add] at this
          exact this
      rw [← hx1] at hge
      clear hx1
      have g7 : (i : Int) % 18446744073709551616 = (i : Int) := by omega
      have g8 : (5 + (i : Int)) % 18446744073709551616 = 5 + (i : Int) := by omega
      go_wp2_with fail
      refine (hge _ hbx).mono ?_
      rintro e y1 ⟨rfl, hy1⟩
      obtain ⟨g, rfl, ci⟩ := hcell y1 hy1
      have hbx1 := hbx.trans (hy1.mono hbx.size)
      have own1 := own_belowS ownx hy1
      go_wp2
      go_roundw
      case rel => exact ⟨i + 1, by simp, by omega, hbx1, own1⟩
      case measure => simp [intOf]; omega
    · have hil : ¬ (i : Int) < (G.length : Int) := by omega
      have hsl := fun w : World => run_take (P := Tryz.prog) 9 b (totS G) hst w Tryz.underlying9
      have hwk := works7_any wr (hD7.below hbx).vw
      have em : bstr [109, 105, 110, 101] = ⟨#[109, 105, 110, 101]⟩ := rfl
      have ey : bstr [121] = ⟨#[121]⟩ := rfl
      have ez : bstr [122] = ⟨#[122]⟩ := rfl
      rw [em] at hRv
      rw [ey] at hRa
      rw [ez] at hRz
      clear em ey ez
      go_wp2_with fail
      refine (hR5 wr hbx).mono ?_
      rintro e y1 ⟨rfl, hy1⟩
      obtain rfl : wr = y1 := hy1.symm
      clear hy1
      go_wp2_with fail
      refine (hRv wr hbx).mono ?_
      rintro e y1 ⟨rfl, hy1⟩
      obtain rfl : wr = y1 := hy1.symm
      clear hy1
      go_wp2_with fail
      refine (hRa wr hbx).mono ?_
      rintro e y1 ⟨rfl, hy1⟩
      obtain rfl : wr = y1 := hy1.symm
      clear hy1
      go_wp2_with fail
      refine (hRt wr hbx).mono ?_
      rintro e y1 ⟨rfl, hy1⟩
      obtain rfl : wr = y1 := hy1.symm
      clear hy1
      go_wp2_with fail
      refine (hRz wr hbx).mono ?_
      rintro e y1 ⟨rfl, hy1⟩
      obtain rfl : wr = y1 := hy1.symm
      clear hy1
      go_wp2_with fail
      refine hwk.mono ?_
      rintro e y1 ⟨rfl, hb9'⟩
      go_wp2
      go_ret
      exact ⟨rfl, (hB7.trans (hbx.mono hD7.vw.le)).trans hb9'⟩

end Go.Proofs.YtpldfakfgngaaaaGreatDoor
