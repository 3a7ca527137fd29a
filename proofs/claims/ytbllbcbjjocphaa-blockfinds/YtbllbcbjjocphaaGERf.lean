/-
  The document's Read and Find.
  The document's Find.
-/
import Derived.Test.YtbllbcbjjocphaaERBl
import Derived.Test.YtbllbcbjjocphaaEFnd
import Derived.Test.YtbllbcbjjocphaaGERr
import Derived.Deep.Cut
import Derived.Deep.CutBlock
import Derived.Deep.CutRange
namespace Go.Proofs.Ytbllbcbjjocphaa
open Go.RowKit Go.BigFrame Go.Sort
attribute [local go_sem] size_bstr getElem_bstr toList_bstr ls_def append_bstr

theorem bldE_zero {L : List Cl} (h : bldE L = 0) : Good L := by
  unfold bldE at h
  split at h
  · rename_i hk
    split at h
    · rename_i hl
      exact ⟨(okL_iff.1 hk).1, (okL_iff.1 hk).2, hl⟩
    · cases h
  · cases h
theorem bld_of_good {L : List Cl} (g : Good L) : bldB L = blkB L ∧ bldE L = 0 := bld_ok (okL_iff.2 ⟨g.ok, g.asc⟩) g.len
/-- What the document's reader has read, and what is left. -/
structure Rw (b : List UInt8) (L : List Cl) (l : List UInt8) : Prop where
  goes : Goes b L l
  len : L.length + l.length ≤ b.length
  row : (lastR [] L).length ≤ 32 * L.length
theorem Rw.start (b : List UInt8) : Rw b [] b := ⟨Goes.start b, by simp, by simp [lastR]⟩
theorem Rw.ahd_le {b : List UInt8} {L : List Cl} {l : List UInt8} (h : Rw b L l) : (ahd L).length ≤ 32 * L.length := by
  unfold ahd
  split
  · simp
  · exact h.row
theorem Rw.no {b : List UInt8} {L : List Cl} {l : List UInt8} (h : Rw b L l) (hl : l ≠ []) (hk : rawB 32 16 65536 (ahd L) l = false) : ∀ cs, Good cs → body cs ≠ b := by
  intro cs g e
  obtain ⟨c, ds, h1, h2, h3, _⟩ := h.goes.next (m := 32) (k := 16) (z := 65536) hl (by omega) (by omega) (by omega) g e
  rw [hk] at h3
  cases h3
theorem Rw.step {b : List UInt8} {L : List Cl} {l : List UInt8} (h : Rw b L l) (hl : l ≠ []) (hk : rawB 32 16 65536 (ahd L) l = true) : Rw b (L ++ [cellB 32 16 65536 (ahd L) l]) (q6 32 16 65536 l) ∧ (q6 32 16 65536 l).length + 1 ≤ l.length := by
  have hq := q6_len hk
  refine ⟨⟨h.goes.step hl (by omega) (by omega) (by omega), ?_, ?_⟩, hq⟩
  · have := h.len
    rw [List.length_append, List.length_singleton]
    omega
  · rw [lastR_snoc, List.length_append, List.length_singleton]
    show ((ahd L).take (nV l) ++ tV 32 (q1 l)).length ≤ _
    have := h.ahd_le
    have := tV_len 32 (q1 l)
    rw [List.length_append, List.length_take]
    omega
theorem Rw.fin {s : List UInt8} {m : Nat} {L : List Cl} (h : Rw (s.take m) L []) (hm : m + tl2 s = s.length) (hb : ¬ (bldE L = 0 ∧ bldB L = s)) : ∀ cs, Good cs → blkB cs ≠ s := by
  intro cs g e
  have := h.goes.end_ g (g.body_of e hm).1
  subst this
  exact hb ⟨(bld_of_good g).2, (bld_of_good g).1.trans e⟩
theorem Rr.other {w w' : World} {g B e size n : Nat} {s : ByteArray} {v : Value} {xs : List Value} (h : Rr w g s) (h2 : w.ownsRow B e size v n xs) (hB : g < B) (hg : w.grownBy w' v.ownBlock) : Rr w' g s :=
  (hg.block g h.lt (fun hs => by have := (h2.lt g hs.symm).1; omega)).trans h
theorem rrLeft_of {W : World} {g : Nat} {l : List UInt8} (h : Rr W g (bstr l)) : rdLeft W g = l.length := by
  unfold rdLeft
  rw [h.cell0]
  exact size_bstr l

set_option maxHeartbeats 8000000 in
set_option maxRecDepth 100000 in
theorem RRead_any (s : List UInt8) (w : World) (hs : s.length ≤ 9223372036854775807) :
    Calls Try.prog 15 #[.string (bstr s)] w fun e w' => RdQ w s e w' ∧ RowKit.Below w.heap.size w w' := by
  go_enter Try.func15, Try.ntmps15
  by_cases h2 : s.length < 2
  · have HN : Hid (∀ L, Good L → blkB L ≠ s) := by
      intro L hL he
      have := hL.parts.2.2.2.2
      rw [he] at this
      omega
    go_wp2
    go_ret2
    exact ⟨.inr ⟨rfl, HN.out⟩, RowKit.Below.refl _ _⟩
  · by_cases h3 : 32768 < s.length
    · have HN : Hid (∀ L, Good L → blkB L ≠ s) := by
        intro L hL he
        have := hL.len
        rw [he] at this
        omega
      go_wp2
      go_ret2
      exact ⟨.inr ⟨rfl, HN.out⟩, RowKit.Below.refl _ _⟩
    · have ht := tl2_get (s := s) (by omega)
      have i1 : (s.length : Int) - 2 = ((s.length - 2 : Nat) : Int) := by omega
      have i2 : (s.length : Int) - 1 = ((s.length - 1 : Nat) : Int) := by omega
      have g1 : s.length - 2 < s.length := by omega
      have g2 : s.length - 1 < s.length := by omega
      have ho := i64_or2 (s[s.length - 2]'g1) (s[s.length - 1]'g2)
      have hrd : rd2 (s[s.length - 2]'g1) (s[s.length - 1]'g2) < 65536 := by
        have := (s[s.length - 2]'g1).toNat_lt
        have := (s[s.length - 1]'g2).toNat_lt
        unfold rd2
        omega
      have b1 := (s[s.length - 2]'g1).toNat_lt
      have b2 := (s[s.length - 1]'g2).toNat_lt
      have HT : Hid _ := ht
      clear ht
      generalize hxa : s[s.length - 2]'g1 = xa at *
      generalize hxb : s[s.length - 1]'g2 = xb at *
      generalize rd2 xa xb = n at *
      go_wp2_with fail
      go_quiet (fail)
      have hbq := below_drewN (RowKit.Below.refl w.heap.size w) nq
      generalize w.drewN nq = w0 at *
      clear ho b1 b2 hxa hxb i1 i2 g1 g2
      by_cases hle : s.length < 2 * n + 2
      · have HN : Hid (∀ L, Good L → blkB L ≠ s) := by
          intro L hL he
          have := hL.parts.2.2.2.1
          rw [he, HT.out] at this
          omega
        go_wp2
        go_ret2
        exact ⟨.inr ⟨rfl, HN.out⟩, hbq⟩
      · obtain ⟨m, hm⟩ : ∃ m : Nat, m + tl2 s = s.length := ⟨s.length - tl2 s, by have := HT.out; omega⟩
        have hml : m ≤ s.length := by omega
        have hmi : (s.length : Int) - (2 * (n : Int) + 2) = (m : Int) := by have := HT.out; omega
        have hsl := fun W => erun_head (P := Try.prog) 9 .i64 s m hml W Try.underlying9
        have HM : Hid _ := hm
        clear hm
        go_wp2_with fail
        refine (RNew_any (bstr (s.take m)) w0).mono ?_
        rintro e w2 ⟨rfl, hr2, hb2⟩
        obtain ⟨j0, hj0, hy0, hy1, hy2⟩ := info_parts Try.infoCell
        go_wp2
        have hbw2 := below2 hbq hb2
        have hGw : w.heap.size ≤ w0.heap.size := hbq.size
        have hs2 : w0.heap.size + 1 ≤ w2.heap.size := hr2.lt
        clear hb2 hbq hsl hmi
        obtain ⟨G, hG⟩ : ∃ G, w0.heap.size = G := ⟨_, rfl⟩
        rw [hG] at hr2 hGw hs2
        rw [hG]
        clear hG
        have hm32 : m ≤ 32768 := by omega
        go_loopw [6, 7] (fun s6 s7 W => ∃ (L : List Cl) (l A : List UInt8) (q6' : Option Addr) (c6 : Nat), s6 = .slice q6' L.length c6 ∧ s7 = .string (bstr A) ∧ Hid (lastR [] L = A) ∧ Hid (Rw (s.take m) L l) ∧ Rr W G (bstr l) ∧ W.ownsRow (G + 1) 35 5 (.slice q6' L.length c6) L.length (ccells L) ∧ RowKit.Below w.heap.size w W ∧ G + 1 ≤ W.heap.size) (fun _ _ W => rdLeft W G)
        case atStart => exact ⟨[], s.take m, [], none, 0, rfl, rfl, rfl, Rw.start _, hr2, World.ownsRow_nil _ _ _ _, hbw2, hs2⟩
        case round =>
          obtain ⟨L, l, A, q6', c6, rfl, rfl, HAL, HS, hr, hOL, hbel, hsz⟩ := hrel
          clear hr2 hbw2 hs2
          have HRL : Hid (rdLeft wr G = l.length) := rrLeft_of hr
          have hmn := HS.out.len
          rw [List.length_take, Nat.min_eq_left hml] at hmn
          have hAl : A.length ≤ 1048576 := by
            have := HS.out.row
            rw [HAL.out] at this
            omega
          go_wp2_with fail
          refine (RLeft_any G l wr hr).mono ?_
          rintro e wr ⟨rfl, rfl⟩
          by_cases hl : l.length = 0
          · have hle : l = [] := List.eq_nil_of_length_eq_zero hl
            subst hle
            have hl0 : ((0 : Nat) : Int) = 0 := rfl
            clear HRL hl
            obtain ⟨g7, hg7⟩ : ∃ g7, 0 < L.length → q6' = some ⟨g7, 0, none⟩ ∧ CRow wr g7 0 L ∧ g7 < wr.heap.size := by
              by_cases h0 : L = []
              · exact ⟨0, fun h => by rw [h0] at h; simp at h⟩
              · obtain ⟨g7, cap7, hv7, _, hg7, _, _, hCR, _⟩ := own_crow hOL h0
                injection hv7 with hv7a _ _
                exact ⟨g7, fun _ => ⟨hv7a, hCR, hg7⟩⟩
            have hBd := RBuild_any q6' g7 0 c6 L wr hg7 (by omega)
            clear hg7
            by_cases he : bldE L = 0
            · by_cases hbs : bldB L = s
              · have hG := bldE_zero he
                have HG : Hid (Good L ∧ blkB L = s) := ⟨hG, by rw [← (bld_of_good hG).1]; exact hbs⟩
                have hss : (s == s) = true := by simp
                rw [he, hbs] at hBd
                clear hG he hbs
                go_wp2_with fail
                refine hBd.mono ?_
                rintro e w5 ⟨rfl, hb5⟩
                have hO5 := own_step hOL hb5
                have hbe5 := below2 hbel hb5
                clear hBd hOL hbel hb5
                go_wp2
                go_ret2
                exact ⟨.inl ⟨L, q6', c6, rfl, HG.out.1, HG.out.2, own_base hO5 (by omega)⟩, hbe5⟩
              · have HN : Hid (∀ cs, Good cs → blkB cs ≠ s) := HS.out.fin HM.out fun h => hbs h.2
                have hss : (bldB L == s) = false := by rw [beq_eq_false_iff_ne]; exact hbs
                rw [he] at hBd
                clear he hbs
                generalize bldB L = bb at *
                go_wp2_with fail
                refine hBd.mono ?_
                rintro e w5 ⟨rfl, hb5⟩
                have hbe5 := below2 hbel hb5
                clear hBd hOL hbel hb5
                go_wp2
                go_ret2
                exact ⟨.inr ⟨rfl, HN.out⟩, hbe5⟩
            · have HN : Hid (∀ cs, Good cs → blkB cs ≠ s) := HS.out.fin HM.out fun h => he h.1
              generalize bldB L = bb at *
              generalize bldE L = ee at *
              go_wp2_with fail
              refine hBd.mono ?_
              rintro e w5 ⟨rfl, hb5⟩
              have hbe5 := below2 hbel hb5
              clear hBd hOL hbel hb5
              go_wp2
              go_ret2
              exact ⟨.inr ⟨rfl, HN.out⟩, hbe5⟩
          · have hl0 : l ≠ [] := by intro h; rw [h] at hl; exact hl rfl
            have hlp : (0 : Int) < (l.length : Int) := by omega
            obtain ⟨A1, hah⟩ : ∃ A1, ahd L = A1 := ⟨_, rfl⟩
            have hA1 : A1.length ≤ 1048576 := by
              have := HS.out.ahd_le
              rw [hah] at this
              omega
            go_upto_if 64 with fail
            go_cut [7] from 65 to 144 (fun s7 wx => wx = wr ∧ s7 = .string (bstr A1))
            case first =>
              by_cases h8 : L.length % 8 = 0
              · have hmod : ((L.length : Int) % 8 == 0) = true := by rw [beq_iff_eq]; omega
                go_wp2_with fail
                go_meet
                case rel => exact ⟨rfl, by rw [← hah, ahd_whole h8]; rfl⟩
              · have hmod : ((L.length : Int) % 8 == 0) = false := by rw [beq_eq_false_iff_ne]; omega
                go_wp2_with fail
                go_meet
                case rel => exact ⟨rfl, by rw [← hah, ahd_not h8, HAL.out]⟩
            case rest =>
              obtain ⟨hwx, rfl⟩ := hcut
              replace hwx := hwx.symm
              subst hwx
              clear HAL hAl
              go_wp2_with fail
              clear hlp
              have e1 : (q1 l).length ≤ l.length := nR_len l
              have e2 : (q2 32 l).length ≤ (q1 l).length := tR_len 32 (q1 l)
              have e3 : (q3 32 16 l).length ≤ (q2 32 l).length := tR_len 16 (q2 32 l)
              have e4 : (q4 32 16 l).length ≤ (q3 32 16 l).length := nR_len (q3 32 16 l)
              have e5 : (q5 32 16 l).length ≤ (q4 32 16 l).length := bR_len (q4 32 16 l)
              refine (RNumber_r G l wr hr (by omega)).mono ?_
              rintro e w10 ⟨rfl, r0, g0⟩
              have o0 := own_grown hOL g0 (Nat.lt_succ_self _)
              have b0 : RowKit.Below w.heap.size w w10 := hbel.grown g0 hbel.size (fun k hk => by cases hk; exact hGw)
              have z0 : G + 1 ≤ w10.heap.size := Nat.le_trans hsz g0.size
              clear hr hOL hbel hsz g0
              go_wp2_with fail
              refine (RText_r G 32 (q1 l) w10 r0 (by omega) (by omega)).mono ?_
              rintro e w11 ⟨rfl, r1, g1⟩
              have o1 := own_grown o0 g1 (Nat.lt_succ_self _)
              have b1 : RowKit.Below w.heap.size w w11 := b0.grown g1 b0.size (fun k hk => by cases hk; exact hGw)
              have z1 : G + 1 ≤ w11.heap.size := Nat.le_trans z0 g1.size
              clear r0 o0 b0 z0 g1
              go_wp2_with fail
              refine (RText_r G 16 (q2 32 l) w11 r1 (by omega) (by omega)).mono ?_
              rintro e w12 ⟨rfl, r2, g2⟩
              have o2 := own_grown o1 g2 (Nat.lt_succ_self _)
              have b2 : RowKit.Below w.heap.size w w12 := b1.grown g2 b1.size (fun k hk => by cases hk; exact hGw)
              have z2 : G + 1 ≤ w12.heap.size := Nat.le_trans z1 g2.size
              clear r1 o1 b1 z1 g2
              go_wp2_with fail
              refine (RNumber_r G (q3 32 16 l) w12 r2 (by omega)).mono ?_
              rintro e w13 ⟨rfl, r3, g3⟩
              have o3 := own_grown o2 g3 (Nat.lt_succ_self _)
              have b3 : RowKit.Below w.heap.size w w13 := b2.grown g3 b2.size (fun k hk => by cases hk; exact hGw)
              have z3 : G + 1 ≤ w13.heap.size := Nat.le_trans z2 g3.size
              clear r2 o2 b2 z2 g3
              go_wp2_with fail
              refine (RByte_r G (q4 32 16 l) w13 r3).mono ?_
              rintro e w14 ⟨rfl, r4, g4⟩
              have o4 := own_grown o3 g4 (Nat.lt_succ_self _)
              have b4 : RowKit.Below w.heap.size w w14 := b3.grown g4 b3.size (fun k hk => by cases hk; exact hGw)
              have z4 : G + 1 ≤ w14.heap.size := Nat.le_trans z3 g4.size
              clear r3 o3 b3 z3 g4
              go_wp2_with fail
              refine (RText_r G 65536 (q5 32 16 l) w14 r4 (by omega) (by omega)).mono ?_
              rintro e w15 ⟨rfl, r5, g5⟩
              have o5 := own_grown o4 g5 (Nat.lt_succ_self _)
              have b5 : RowKit.Below w.heap.size w w15 := b4.grown g5 b4.size (fun k hk => by cases hk; exact hGw)
              have z5 : G + 1 ≤ w15.heap.size := Nat.le_trans z4 g5.size
              clear r4 o4 b4 z4 g5
              have r6 : Rr w15 G (bstr (q6 32 16 65536 l)) := r5
              have hK : Hid (rawB 32 16 65536 A1 l = (okN l && okT 32 (q1 l) && okT 16 (q2 32 l) && okN (q3 32 16 l) && okB (q4 32 16 l) && okT 65536 (q5 32 16 l) && decide ((bV (q4 32 16 l)).toNat ≤ 1) && decide (nV l ≤ A1.length))) := rfl
              have hC : Hid (cellB 32 16 65536 A1 l = ⟨A1.take (nV l) ++ tV 32 (q1 l), tV 16 (q2 32 l), (nV (q3 32 16 l) : Int), bV (q4 32 16 l) == 1, tV 65536 (q5 32 16 l)⟩) := rfl
              have HNO0 := HS.out.no hl0
              have HST0 := HS.out.step hl0
              rw [hah] at HNO0 HST0
              rw [hC.out] at HST0
              have HNO' : Hid _ := HNO0
              have HST' : Hid _ := HST0
              have hn := nV_lt l
              have hgb := (bV (q4 32 16 l)).toNat_lt
              have htl : (tV 32 (q1 l)).length ≤ 32 := tV_len _ _
              clear e1 e2 e3 e4 e5 r5 HNO0 HST0 hC
              generalize rawB 32 16 65536 A1 l = rb at *
              generalize okN l = y0 at *
              generalize okT 32 (q1 l) = y1 at *
              generalize okT 16 (q2 32 l) = y2 at *
              generalize okN (q3 32 16 l) = y3 at *
              generalize okT 65536 (q5 32 16 l) = y5 at *
              generalize okB (q4 32 16 l) = y4 at *
              generalize q6 32 16 65536 l = l6 at *
              generalize tV 65536 (q5 32 16 l) = x at *
              generalize bV (q4 32 16 l) = gb at *
              generalize nV (q3 32 16 l) = v at *
              generalize tV 16 (q2 32 l) = k at *
              generalize tV 32 (q1 l) = t at *
              generalize nV l = n1 at *
              cases y0 with
              | false =>
                have HNO : Hid (∀ cs, Good cs → body cs ≠ s.take m) := HNO'.out (by rw [hK.out]; simp)
                clear HNO' HST' hK o5 r6
                go_wp2
                go_ret2
                exact ⟨.inr ⟨rfl, no_blk HM.out HNO.out⟩, b5⟩
              | true =>
                cases y1 with
                | false =>
                  have HNO : Hid (∀ cs, Good cs → body cs ≠ s.take m) := HNO'.out (by rw [hK.out]; simp)
                  clear HNO' HST' hK o5 r6
                  go_wp2
                  go_ret2
                  exact ⟨.inr ⟨rfl, no_blk HM.out HNO.out⟩, b5⟩
                | true =>
                  cases y2 with
                  | false =>
                    have HNO : Hid (∀ cs, Good cs → body cs ≠ s.take m) := HNO'.out (by rw [hK.out]; simp)
                    clear HNO' HST' hK o5 r6
                    go_wp2
                    go_ret2
                    exact ⟨.inr ⟨rfl, no_blk HM.out HNO.out⟩, b5⟩
                  | true =>
                    cases y3 with
                    | false =>
                      have HNO : Hid (∀ cs, Good cs → body cs ≠ s.take m) := HNO'.out (by rw [hK.out]; simp)
                      clear HNO' HST' hK o5 r6
                      go_wp2
                      go_ret2
                      exact ⟨.inr ⟨rfl, no_blk HM.out HNO.out⟩, b5⟩
                    | true =>
                      cases y4 with
                      | false =>
                        have HNO : Hid (∀ cs, Good cs → body cs ≠ s.take m) := HNO'.out (by rw [hK.out]; simp)
                        clear HNO' HST' hK o5 r6
                        go_wp2
                        go_ret2
                        exact ⟨.inr ⟨rfl, no_blk HM.out HNO.out⟩, b5⟩
                      | true =>
                        cases y5 with
                        | false =>
                          have HNO : Hid (∀ cs, Good cs → body cs ≠ s.take m) := HNO'.out (by rw [hK.out]; simp)
                          clear HNO' HST' hK o5 r6
                          go_wp2
                          go_ret2
                          exact ⟨.inr ⟨rfl, no_blk HM.out HNO.out⟩, b5⟩
                        | true =>
                          by_cases hna : n1 ≤ A1.length
                          · have hnd : decide ((A1.length : Int) < (n1 : Int)) = false := by rw [decide_eq_false_iff_not]; omega
                            by_cases hg1 : gb.toNat ≤ 1
                            · have hgd : decide ((1 : Int) < (gb.toNat : Int)) = false := by rw [decide_eq_false_iff_not]; omega
                              obtain ⟨HS2', hless⟩ := HST'.out (by rw [hK.out, decide_eq_true hg1, decide_eq_true hna]; rfl)
                              have HS2 : Hid _ := HS2'
                              clear HS2' HST' HNO' hK
                              have hb1 : ((gb.toNat : Int) == 1) = (gb == 1) := by
                                by_cases hx : gb = 1
                                · subst hx; rfl
                                · have hx2 : ¬ (gb.toNat : Int) = 1 := fun e => hx (UInt8.toNat_inj.1 (show gb.toNat = 1 by omega))
                                  have : (gb == 1) = false := by simpa using hx
                                  rw [this]
                                  simpa using hx2
                              generalize (gb == 1) = gd at *
                              have hsl := fun W => erun_head (P := Try.prog) 9 .u64 A1 n1 hna W Try.underlying9
                              have hap : bstr (A1.take n1) ++ bstr t = bstr (A1.take n1 ++ t) := append_bstr _ _
                              have hrl : (A1.take n1).length ≤ 2000000 := by rw [List.length_take]; omega
                              have hN5 := CellAt.new w15 35 (A1.take n1 ++ t) k (v : Int) gd x
                              have hB5 : RowKit.Below w15.heap.size w15 (w15.alloc (.cells #[.string (bstr (A1.take n1 ++ t)), .string (bstr k), .int .u64 (v : Int), .bool gd, .string (bstr x)] 35)) := (RowKit.Below.refl _ _).alloc (Nat.le_refl _) _
                              generalize hrow : A1.take n1 = at1 at *
                              clear hrow
                              go_upto_region 21 with fail
                              generalize at1 ++ t = row at *
                              generalize w15.alloc (.cells #[.string (bstr row), .string (bstr k), .int .u64 (v : Int), .bool gd, .string (bstr x)] 35) = W5 at *
                              clear hsl hap hb1 hgd hnd hna hrl
                              have hO5 := own_step o5 hB5
                              have hr5 := r6.below hB5 r6.lt
                              have hbe5 := below2 b5 hB5
                              have hsz5 := Nat.le_trans z5 hB5.size
                              have hrowb : some w15.heap.size ≠ (Value.slice q6' L.length c6).ownBlock := fun hk => Nat.lt_irrefl _ (o5.lt _ hk.symm).2
                              clear hB5 o5 r6 b5 z5
                              generalize w15.heap.size = nx at *
                              obtain ⟨d0, d1, d2, d3, d4⟩ := id hN5
                              have hnews := cell_news W5 ⟨row, k, (v : Int), gd, x⟩ 35
                              go_wp2_with (at_builtin; refine wpList_append_own _ rfl _ _ 22 rfl (G + 1) 35 j0 (.agg #[.string ⟨#[]⟩, .string ⟨#[]⟩, .int .u64 0, .bool false, .string ⟨#[]⟩]) 5 64 Try.underlying22 hj0 hy0 hy1 hy2 rfl (by decide) _ _ _ rfl (hO5.alloc _) ⟨W5.heap.size, 0, none⟩ 1 1 (encC ⟨row, k, (v : Int), gd, x⟩) rfl rfl hnews (encC_one _) (by unfold maxLen; omega) (by omega) (by simp; omega) ?_)
                              intro v' w6 hO6 hgrow _
                              have hal : RowKit.Below W5.heap.size W5 (W5.alloc (.cells #[.string (bstr row), .string (bstr k), .int .u64 (v : Int), .bool gd, .string (bstr x)] 35)) := (RowKit.Below.refl _ _).alloc (Nat.le_refl _) _
                              have hr6 := (hr5.below hal hr5.lt).other (hO5.alloc _) (Nat.lt_succ_self _) hgrow
                              have hN6 := (hN5.step hal).grow hgrow hrowb
                              have hbe6 : RowKit.Below w.heap.size w w6 := (below2 hbe5 hal).grown hgrow (by have := hbe5.size; simp; omega) (fun k hk => Nat.le_trans (by omega) (hO5.lt k hk).1)
                              have hsz6 : G + 1 ≤ w6.heap.size := Nat.le_trans hsz5 (Nat.le_trans hal.size hgrow.size)
                              have hO7 : w6.ownsRow (G + 1) 35 5 v' (L ++ [Cl.mk row k (v : Int) gd x]).length (ccells (L ++ [Cl.mk row k (v : Int) gd x])) := by
                                rw [List.length_append, ccells_append]
                                exact hO6
                              obtain ⟨q9, c9, rfl⟩ := own_shape hO7
                              have d0 := hN6.c0
                              clear hO6 hgrow hO5 hr5 hbe5 hsz5 hN5 d0 d1 d2 d3 d4 hnews hal
                              have d0 := hN6.c0
                              go_wp2
                              go_roundw
                              case rel => exact ⟨L ++ [⟨row, k, (v : Int), gd, x⟩], l6, row, q9, c9, rfl, rfl, by show _ = _; exact lastR_snoc _ _ _, HS2, hr6, hO7, hbe6, hsz6⟩
                              case measure => rw [rrLeft_of hr6, HRL.out]; omega
                            · have hgd : decide ((1 : Int) < (gb.toNat : Int)) = true := by rw [decide_eq_true_eq]; omega
                              have HNO : Hid (∀ cs, Good cs → body cs ≠ s.take m) := HNO'.out (by rw [hK.out, decide_eq_false hg1]; simp)
                              clear HNO' HST' hK o5 r6
                              go_wp2
                              go_ret2
                              exact ⟨.inr ⟨rfl, no_blk HM.out HNO.out⟩, b5⟩
                          · have hnd : decide ((A1.length : Int) < (n1 : Int)) = true := by rw [decide_eq_true_eq]; omega
                            have HNO : Hid (∀ cs, Good cs → body cs ≠ s.take m) := HNO'.out (by rw [hK.out, decide_eq_false hna]; simp)
                            clear HNO' HST' hK o5 r6
                            go_wp2
                            go_ret2
                            exact ⟨.inr ⟨rfl, no_blk HM.out HNO.out⟩, b5⟩

end Go.Proofs.Ytbllbcbjjocphaa

namespace Go.Proofs.Ytbllbcbjjocphaa
open Go.RowKit Go.BigFrame Go.Sort
attribute [local go_sem] size_bstr toList_bstr ls_def

theorem fnd_drop {row col : List UInt8} {L : List Cl} {i : Nat} (hi : i < L.length) : fnd row col (L.drop i) = if L[i].row = row ∧ L[i].col = col then some L[i] else fnd row col (L.drop (i + 1)) := by
  rw [List.drop_eq_getElem_cons hi, fnd]

set_option maxHeartbeats 4000000 in
set_option maxRecDepth 100000 in
theorem RFind_any (s row col : List UInt8) (w : World) (hs : s.length ≤ 9223372036854775807) :
    Calls Try.prog 17 #[.string (bstr s), .string (bstr row), .string (bstr col)] w fun e w' => FnQ s row col e ∧ RowKit.Below w.heap.size w w' := by
  go_enter Try.func17, Try.ntmps17
  go_wp2_with fail
  have hz := Rz.new w
  have hB0 : RowKit.Below w.heap.size w (w.alloc (.cells #[.string ⟨#[]⟩, .string ⟨#[]⟩, .int .u64 0, .bool false, .string ⟨#[]⟩] 35)) := (RowKit.Below.refl _ _).alloc (Nat.le_refl _) _
  generalize w.alloc (.cells #[.string ⟨#[]⟩, .string ⟨#[]⟩, .int .u64 0, .bool false, .string ⟨#[]⟩] 35) = w0 at *
  refine (RRead_any s w0 hs).mono ?_
  rintro e w1 ⟨hQ, hb1⟩
  have hbw := below2 hB0 hb1
  replace hz := hz.step hb1
  rcases hQ with ⟨L, q, c, rfl, hG, hL, hown⟩ | ⟨rfl, hno⟩
  · have HG : Hid _ := hG
    have hlen : L.length ≤ 40000 := by
      have h1 := body_many L hG.ok
      have h2 := hG.len
      rw [blkB_len] at h2
      omega
    obtain ⟨g7, hg7⟩ : ∃ g7, 0 < L.length → q = some ⟨g7, 0, none⟩ ∧ CRow w1 g7 0 L ∧ g7 < w1.heap.size := by
      by_cases h0 : L = []
      · exact ⟨0, fun h => by rw [h0] at h; simp at h⟩
      · obtain ⟨g7, cap7, hv7, _, hg7, _, _, hCR, _⟩ := own_crow hown h0
        injection hv7 with hv7a _ _
        exact ⟨g7, fun _ => ⟨hv7a, hCR, hg7⟩⟩
    clear hG hb1 hB0 hown
    obtain ⟨z0, z1, z2, z3, z4, f0, f1, f2, f3, f4⟩ := hz.facts
    go_wp2
    go_loop [11] (fun s11 => ∃ i : Nat, s11 = .int .i64 (i : Int) ∧ i ≤ L.length ∧ Hid (fnd row col L = fnd row col (L.drop i))) (fun s11 => L.length - (intOf s11).toNat)
    case atStart => exact ⟨0, rfl, by omega, by show _ = _; simp⟩
    case round =>
      obtain ⟨i, rfl, him, HI⟩ := hrel
      by_cases hlt : i < L.length
      · obtain ⟨rfl, hR, hgl⟩ := hg7 (by omega)
        have hAt := hR i hlt
        rw [Nat.zero_add] at hAt
        have hfd := fnd_drop (row := row) (col := col) hlt
        by_cases hp1 : L[i].row = row
        · have hpr : (L[i].row == row) = true := by rw [hp1]; simp
          by_cases hp2 : L[i].col = col
          · have hpc : (L[i].col == col) = true := by rw [hp2]; simp
            rw [if_pos ⟨hp1, hp2⟩] at hfd
            have HF : Hid (fnd row col L = some L[i]) := HI.out.trans hfd
            clear hp1 hp2 hR hfd
            generalize L[i] = c' at *
            obtain ⟨r, k, v, z, x⟩ := c'
            obtain ⟨c0, c1, c2, c3, c4⟩ := hAt
            simp only at c0 c1 c2 c3 c4 hpr hpc
            go_wp2
            generalize hW : ((((w1.setCell ⟨w.heap.size, 0, none⟩ _).setCell ⟨w.heap.size, 1, none⟩ _).setCell ⟨w.heap.size, 2, none⟩ _).setCell ⟨w.heap.size, 3, none⟩ _).setCell ⟨w.heap.size, 4, none⟩ _ = W'
            obtain ⟨q0, q1, q2, q3, q4⟩ := set5_reads z0 z1 z2 z3 z4 hW
            refine bodyPost_ret (v := .tuple #[clV ⟨r, k, v, z, x⟩, .bool true, .int .i64 0]) (by rw [res_cell3 Try.results17]; simp [go_sem, q0, q1, q2, q3, q4]) rfl ⟨.inl ⟨L, HG.out, hL, by rw [HF.out]; rfl⟩, ?_⟩
            rw [← hW]
            exact below_set5 _ _ _ _ _ hbw (Nat.le_refl _)
          · have hpc : (L[i].col == col) = false := by rw [beq_eq_false_iff_ne]; exact hp2
            rw [if_neg (fun h => hp2 h.2)] at hfd
            have HI2 : Hid (fnd row col L = fnd row col (L.drop (i + 1))) := HI.out.trans hfd
            clear hp1 hp2 hR hfd
            generalize L[i] = c' at *
            obtain ⟨r, k, v, z, x⟩ := c'
            obtain ⟨c0, c1, c2, c3, c4⟩ := hAt
            simp only at c0 c1 c2 c3 c4 hpr hpc
            go_wp2
            go_round
            case rel => exact ⟨i + 1, by go_num, by omega, HI2⟩
            case measure => simp [intOf]; omega
        · have hpr : (L[i].row == row) = false := by rw [beq_eq_false_iff_ne]; exact hp1
          rw [if_neg (fun h => hp1 h.1)] at hfd
          have HI2 : Hid (fnd row col L = fnd row col (L.drop (i + 1))) := HI.out.trans hfd
          clear hp1 hR hfd
          generalize L[i] = c' at *
          obtain ⟨r, k, v, z, x⟩ := c'
          obtain ⟨c0, c1, c2, c3, c4⟩ := hAt
          simp only at c0 c1 c2 c3 c4 hpr
          go_wp2
          go_round
          case rel => exact ⟨i + 1, by go_num, by omega, HI2⟩
          case measure => simp [intOf]; omega
      · have hie : i = L.length := by omega
        subst hie
        have HF : Hid (fnd row col L = none) := by show _ = _; rw [HI.out, List.drop_length]; rfl
        go_wp2
        generalize hW : ((((w1.setCell ⟨w.heap.size, 0, none⟩ _).setCell ⟨w.heap.size, 1, none⟩ _).setCell ⟨w.heap.size, 2, none⟩ _).setCell ⟨w.heap.size, 3, none⟩ _).setCell ⟨w.heap.size, 4, none⟩ _ = W'
        obtain ⟨q0, q1, q2, q3, q4⟩ := set5_reads z0 z1 z2 z3 z4 hW
        refine bodyPost_ret (v := .tuple #[clV (optC none), .bool false, .int .i64 0]) (by rw [res_cell3 Try.results17]; simp [go_sem, q0, q1, q2, q3, q4]; exact ⟨rfl, rfl, rfl, rfl, rfl⟩) rfl ⟨.inl ⟨L, HG.out, hL, by rw [HF.out]; rfl⟩, ?_⟩
        rw [← hW]
        exact below_set5 _ _ _ _ _ hbw (Nat.le_refl _)
  · obtain ⟨z0, z1, z2, z3, z4, f0, f1, f2, f3, f4⟩ := hz.facts
    have HN : Hid _ := hno
    clear hno hb1 hB0
    go_wp2
    generalize hW : ((((w1.setCell ⟨w.heap.size, 0, none⟩ _).setCell ⟨w.heap.size, 1, none⟩ _).setCell ⟨w.heap.size, 2, none⟩ _).setCell ⟨w.heap.size, 3, none⟩ _).setCell ⟨w.heap.size, 4, none⟩ _ = W'
    obtain ⟨q0, q1, q2, q3, q4⟩ := set5_reads z0 z1 z2 z3 z4 hW
    refine bodyPost_ret (v := .tuple #[clV (optC none), .bool false, .int .i64 4]) (by rw [res_cell3 Try.results17]; simp [go_sem, q0, q1, q2, q3, q4]; exact ⟨rfl, rfl, rfl, rfl, rfl⟩) rfl ⟨.inr ⟨rfl, HN.out⟩, ?_⟩
    rw [← hW]
    exact below_set5 _ _ _ _ _ hbw (Nat.le_refl _)

end Go.Proofs.Ytbllbcbjjocphaa

