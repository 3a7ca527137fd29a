/-
  The walk of the law SealRow over this seat's translation: it returns true, and of what was there nothing has turned.
-/
import Derived.Test.YtmimmbcchbmnbaaDoorRowAid
import Derived.Deep.Cut
import Derived.Deep.CutBlock
namespace Go.Proofs.YtmimmbcchbmnbaaDoor
open Go.RowKit
attribute [local go_sem] size_bstr getElem_bstr toList_bstr append_bstr

set_option maxHeartbeats 4000000 in
set_option maxRecDepth 100000 in
theorem row_walk (L : List (List UInt8)) (p0 : Option Addr) (cap0 : Nat) (cut : Int) (nz : Nat) (w : World) (ht : Tabs w) (hL : L = [] ∨ ∃ g0 off, p0 = some ⟨g0, off, none⟩ ∧ StrsAt w g0 off L ∧ g0 < w.heap.size) (hll : L.length ≤ 9223372036854775807) (hlb : ∀ b ∈ L, b.length ≤ 9223372036854775807) (hnz : nz < 256) :
    Calls Tryd.prog 8 #[.slice p0 L.length cap0, .int .i64 cut, .int .u8 (nz : Int)] w fun e w' => e = .returned (.bool true) ∧ Below w.heap.size w w' := by
  have hE0 : (⟨#[]⟩ : ByteArray) = bstr [] := rfl
  obtain ⟨i0, hi, hz0, hz1, hz2⟩ := info_parts Tryd.infoStr
  obtain ⟨j0, hj, hy0, hy1, hy2⟩ := info_parts Tryd.infoInt
  have HLB : Hid _ := hlb
  have HL : Hid _ := hL
  clear hlb hL
  go_enter Tryd.func8, Tryd.ntmps8
  go_wp2_with fail
  refine (works_any _ ht).mono ?_
  rintro e w1 ⟨rfl, hb1⟩
  have hnil1 : w1.ownsRow w.heap.size 9 1 (.slice none 0 0) 0 (strCells []) := ⟨rfl, .inl ⟨rfl, rfl⟩⟩
  have hnil2 : w1.ownsRow w.heap.size 3 1 (.slice none 0 0) 0 (intCells []) := ⟨rfl, .inl ⟨rfl, rfl⟩⟩
  go_upto_block 0 with fail
  go_cut [7, 8, 9] from 10 (fun va vb ve wx => ∃ G : List (List UInt8), Hid (∀ x ∈ G, x.length ≤ 1048576) ∧ G.length ≤ 50 ∧ tot G ≤ 52429200 ∧ va = .string (bstr (fr G)) ∧ wx.ownsRow w.heap.size 9 1 vb G.length (strCells G) ∧ wx.ownsRow w.heap.size 3 1 ve G.length (intCells (ends G)) ∧ Below w.heap.size w wx)
  case first =>
    go_wp2_with fail
    go_loopw [7, 8, 9, 10] (fun va vb ve vi wr => ∃ (k : Nat) (G : List (List UInt8)), vi = .int .i64 k ∧ k ≤ L.length ∧ k ≤ 50 ∧ G.length ≤ k ∧ Hid (G = may (L.take k)) ∧ tot G ≤ 1048584 * G.length ∧ va = .string (bstr (fr G)) ∧ wr.ownsRow w.heap.size 9 1 vb G.length (strCells G) ∧ wr.ownsRow w.heap.size 3 1 ve G.length (intCells (ends G)) ∧ Below w.heap.size w wr) (fun _ _ _ vi _ => 50 - (intOf vi).toNat)
    case atStart => exact ⟨0, [], rfl, by omega, by omega, by simp, rfl, by simp [tot], rfl, hnil1, hnil2, hb1⟩
    case round =>
      obtain ⟨k, G, rfl, hk, hk50, hGk, HG, htG, rfl, hownb, howne, hbel⟩ := hrel
      have htx := ht.below hbel
      have hfl := fr_length G
      by_cases hkl : k < L.length ∧ k < 50
      · obtain ⟨hkl1, hkl2⟩ := hkl
        obtain ⟨g0, off, rfl, HL0, hg0⟩ : ∃ g0 off, p0 = some ⟨g0, off, none⟩ ∧ Hid (StrsAt w g0 off L) ∧ g0 < w.heap.size := by
          rcases HL.out with h0 | ⟨g0, off, h1, h2, h3⟩
          · rw [h0] at hkl1
            simp at hkl1
          · exact ⟨g0, off, h1, h2, h3⟩
        have hc : wr.cell? ⟨g0, off + k, none⟩ = some (.string (bstr L[k])) := ((bcell hbel).1 g0 (off + k) hg0).trans (HL0.out k hkl1)
        have hlk : L[k].length ≤ 9223372036854775807 := HLB.out _ (List.getElem_mem hkl1)
        have hgd1 : decide (k < L.length) = true := decide_eq_true hkl1
        obtain ⟨b, hb⟩ : ∃ b, b = L[k] := ⟨_, rfl⟩
        have HB : Hid _ := hb
        rw [← hb] at hc hlk
        clear hb
        by_cases hbl : b.length ≤ 1048576
        · have hfb := frm_length b
          go_wp2_with fail
          refine (Frame_ok b _ hbl htx).mono ?_
          rintro e w2 ⟨rfl, hq⟩
          have hc2 : w2.cell? ⟨g0, off + k, none⟩ = some (.string (bstr b)) := ((bcell hq).1 g0 (off + k) (by have := hbel.size; omega)).trans hc
          have hownb2 := own_below hownb hq
          have howne2 := own_below howne hq
          have hbel2 := bstep hbel hq
          clear hownb howne hq hc
          go_wp2_with (at_builtin; refine wpList_append_own _ rfl _ _ 33 rfl w.heap.size 9 i0 (.string ⟨#[]⟩) 1 16 Tryd.underlying33 hi hz0 hz1 hz2 rfl (by decide) _ _ _ rfl (hownb2.alloc _) ⟨w2.heap.size, 0, none⟩ 1 1 [.string (bstr b)] rfl rfl ?c1 ?c2 ?c3 ?c4 ?c5 ?_)
          case c1 =>
            intro j u hj
            match j, hj with
            | 0, hj => simp at hj; subst hj; simp [Addr.add]
          case c2 => intro u hu; simp at hu; subst hu; rfl
          case c3 => unfold maxLen; omega
          case c4 => omega
          case c5 => have := hbel2.size; simp; omega
          intro vb' w3 hownb3 hgrow _
          have howne3 := own_other (howne2.alloc _) (hownb2.alloc _) (by decide) hgrow
          have hbel3 : Below w.heap.size w w3 := (hbel2.alloc hbel2.size _).grown hgrow (by have := hbel2.size; simp; omega) (fun k hk => (hownb2.lt k hk).1)
          clear hgrow howne2 hownb2
          go_wp2_with (at_builtin; refine wpList_append_own _ rfl _ _ 38 rfl w.heap.size 3 j0 (.int .i64 0) 1 8 Tryd.underlying38 hj hy0 hy1 hy2 rfl (by decide) _ _ _ rfl (howne3.alloc _) ⟨w3.heap.size, 0, none⟩ 1 1 [.int .i64 ((tot G : Int) + ((b.length : Int) + 8))] rfl rfl ?d1 ?d2 ?d3 ?d4 ?d5 ?_)
          case d1 =>
            intro j u hj
            match j, hj with
            | 0, hj => simp at hj; subst hj; simp [Addr.add]
          case d2 => intro u hu; simp at hu; subst hu; rfl
          case d3 => unfold maxLen; omega
          case d4 => omega
          case d5 => have := hbel3.size; simp; omega
          intro ve' w4 howne4 hgrow _
          have hownb4 := own_other (hownb3.alloc _) (howne3.alloc _) (by decide) hgrow
          have hbel4 : Below w.heap.size w w4 := (hbel3.alloc hbel3.size _).grown hgrow (by have := hbel3.size; simp; omega) (fun k hk => (howne3.lt k hk).1)
          clear hgrow howne3 hownb3
          go_wp2
          go_roundw
          case rel =>
            have hts : tot (G ++ [b]) = tot G + (b.length + 8) := tot_snoc G b
            refine ⟨k + 1, G ++ [b], by go_num, by omega, by omega, by rw [List.length_append, List.length_singleton]; omega, by rw [may_yes L k hkl1 (by rw [← HB.out]; exact hbl), ← HB.out, ← HG.out]; exact (rfl : G ++ [b] = G ++ [b]), by rw [List.length_append, List.length_singleton, hts]; omega, ?_, ?_, ?_, hbel4⟩
            · rw [fr_append, fr_cons, fr_nil, List.append_nil]
            · rw [strCells_snoc, List.length_append, List.length_singleton]
              exact hownb4
            · rw [ends_snoc, List.length_append, List.length_singleton, hts]
              have e : intCells (ends G ++ [tot G + (b.length + 8)]) = intCells (ends G) ++ [.int .i64 ((tot G : Int) + ((b.length : Int) + 8))] := by
                unfold intCells
                simp
              rw [e]
              exact howne4
          case measure => simp [intOf]; omega
        · go_wp2_with fail
          refine (Frame_long b _ (by omega) (by omega)).mono ?_
          rintro e w2 ⟨rfl, hq⟩
          have hownb2 := own_below hownb hq
          have howne2 := own_below howne hq
          have hbel2 := bstep hbel hq
          clear hownb howne hq hc
          go_wp2
          go_roundw
          case rel => exact ⟨k + 1, G, by go_num, by omega, by omega, by omega, by rw [may_no L k hkl1 (by rw [← HB.out]; exact hbl)]; exact HG.out, htG, rfl, hownb2, howne2, hbel2⟩
          case measure => simp [intOf]; omega
      · have HGG : Hid (∀ x ∈ G, x.length ≤ 1048576) := by
          intro x hx
          rw [HG.out] at hx
          exact may_le _ x hx
        have htot50 : tot G ≤ 52429200 := by omega
        by_cases hx : k < L.length
        · have hgd : decide (k < L.length) = true := decide_eq_true hx
          have hk5 : k = 50 := by omega
          subst hk5
          go_wp2_with fail
          go_meet
          case rel => exact ⟨G, HGG, by omega, htot50, rfl, hownb, howne, hbel⟩
        · have hgd : decide (k < L.length) = false := decide_eq_false hx
          go_wp2_with fail
          go_meet
          case rel => exact ⟨G, HGG, by omega, htot50, rfl, hownb, howne, hbel⟩
  case rest =>
    obtain ⟨G, HGG, hG50, htG, rfl, hownb, howne, hbel⟩ := hcut
    clear hnil1 hnil2 HL HLB hb1
    have hfl := fr_length G
    obtain ⟨pb, cb, rfl, hsb⟩ := shows_of_owns hownb
    obtain ⟨pe, ce, rfl, hse⟩ := ints_of_owns (ends_length G) howne
    have htc := ht.below hbel
    have hmb : (cut.tmod ((tot G : Int) + 1)).natAbs < tot G + 1 := by
      rw [Int.natAbs_tmod]
      exact Nat.mod_lt _ (by omega)
    have HOB : Hid _ := hownb
    have HSB : Hid _ := hsb
    have HSE : Hid _ := hse
    clear hownb howne hsb hse
    go_upto_if 65 with fail
    generalize cut.tmod ((tot G : Int) + 1) = m at *
    go_cut [13] from 14 (fun s13 wx => wx = wc ∧ ∃ n : Nat, n ≤ tot G ∧ s13 = .int .i64 (n : Int))
    case first =>
      go_wp2_with fail
      · go_meet
        case rel => exact ⟨rfl, (m + (tot G : Int) + 1).toNat, by omega, by congr 1; omega⟩
      · go_meet
        case rel => exact ⟨rfl, m.toNat, by omega, by congr 1; omega⟩
    case rest =>
      obtain ⟨rfl, n, hn, rfl⟩ := hcut
      clear hmb
      go_upto_block 2 with fail
      go_cut [14, 15] from 16 (fun s14 s15 wx => wx = wc ∧ ∃ i : Nat, i ≤ G.length ∧ tot (G.take i) ≤ n ∧ (i < G.length → n < tot (G.take (i + 1))) ∧ s14 = .int .i64 (i : Int) ∧ s15 = .int .i64 (tot (G.take i) : Int))
      case first =>
        go_wp2_with fail
        go_loop [14, 15, 16] (fun s14 s15 s16 => ∃ i : Nat, i ≤ G.length ∧ tot (G.take i) ≤ n ∧ s14 = .int .i64 (i : Int) ∧ s15 = .int .i64 (tot (G.take i) : Int) ∧ s16 = .int .i64 (i : Int)) (fun _ _ s16 => G.length - (intOf s16).toNat)
        case atStart => exact ⟨0, by omega, by simp [tot], rfl, rfl, rfl⟩
        case round =>
          obtain ⟨i, hi, hin, rfl, rfl, rfl⟩ := hrel
          by_cases h : i < G.length
          · have hgd : decide (i < G.length) = true := decide_eq_true h
            obtain ⟨ge, rfl, hge⟩ : ∃ ge, pe = some ⟨ge, 0, none⟩ ∧ ∀ (j n : Nat), (ends G)[j]? = some n → wc.cell? ⟨ge, j, none⟩ = some (.int .i64 (n : Int)) := by
              rcases HSE.out with h0 | h1
              · omega
              · exact h1
            have hce := hge i _ (ends_get G i h)
            clear hge
            have htl : tot (G.take (i + 1)) ≤ 52429200 := by
              have h1 : G = G.take (i + 1) ++ G.drop (i + 1) := (List.take_append_drop _ _).symm
              have h2 : tot G = tot (G.take (i + 1)) + tot (G.drop (i + 1)) := by rw [← tot_append, ← h1]
              omega
            generalize hte : tot (G.take (i + 1)) = te at *
            have HTE : Hid _ := hte
            clear hte
            by_cases hle : te ≤ n
            · go_wp2_with fail
              go_round
              case rel => exact ⟨i + 1, by omega, by rw [HTE.out]; exact hle, by go_num, by rw [HTE.out], by go_num⟩
              case measure => simp [intOf]; omega
            · go_wp2_with fail
              go_meet
              case rel => exact ⟨rfl, i, hi, hin, fun _ => by rw [HTE.out]; omega, rfl, rfl⟩
          · have hgd : decide (i < G.length) = false := decide_eq_false h
            go_wp2_with fail
            go_meet
            case rel => exact ⟨rfl, i, hi, hin, fun h2 => absurd h2 h, rfl, rfl⟩
      case rest =>
        obtain ⟨rfl, i, hi, hin, hnx, rfl, rfl⟩ := hcut
        have HSC1 : Hid (scn ((fr G).take n).length ((fr G).take n) = G.take i) := scn_cut G n i _ HGG.out hi (by rw [List.length_take, fr_length]; have h1 := tot_ge (G.take i); rw [List.length_take] at h1; omega) hin hnx
        have HSC2 : Hid (scn (fr G ++ zeros nz).length (fr G ++ zeros nz) = G) := scn_frames G (zeros nz) _ (by rw [List.length_append, fr_length]; have := tot_ge G; omega) HGG.out (zeros_none nz)
        have hsl := fun W : World => run_head (P := Tryd.prog) 9 (fr G) n (by omega) W Tryd.underlying9
        have hmk := fun W : World => make_run .u8 nz (by omega) W
        have hcv := fun W : World => made_run nz (by omega) W
        have hzl := zeros_length nz
        have htl1 : ((fr G).take n).length ≤ 52429200 := by rw [List.length_take]; omega
        clear hnx HSE
        have hli : (G.take i).length = i := by rw [List.length_take]; omega
        go_wp2_with fail
        refine (Scan_any _ _ (by omega) htc).mono ?_
        rintro e w2 ⟨v17, rfl, hown17, hq⟩
        rw [HSC1.out] at hown17 ⊢
        have hownb2 := own_below HOB.out hq
        have ht2 := htc.below hq
        have hbel2 := bstep hbel hq
        have hqa : Below w2.heap.size w2 (w2.alloc (.cells (zs nz) 5)) := (Below.refl _ _).alloc (Nat.le_refl _) _
        clear hq HSC1 HSB HOB
        obtain ⟨p17, c17, hv17, _⟩ := shows_of_owns hown17
        rw [hli] at hv17
        subst hv17
        go_wp2_with fail
        refine (Scan_any _ _ (by rw [List.length_append, hzl]; omega) (ht2.below hqa)).mono ?_
        rintro e w3 ⟨v19, rfl, hown19, hq⟩
        rw [HSC2.out] at hown19 ⊢
        replace hq := hqa.trans (hq.mono hqa.size)
        have hbel3 := bstep hbel2 hq
        have hownb3 := own_below hownb2 hq
        have hown173 := own_below hown17 hq
        clear hq hqa HSC2 hown17 hownb2 hbel2
        obtain ⟨p19, c19, hv19, hs19⟩ := shows_of_owns hown19
        subst hv19
        obtain ⟨pb', cb', hvb, hsb⟩ := shows_of_owns hownb3
        obtain ⟨p17', c17', hv17, hs17⟩ := shows_of_owns hown173
        obtain ⟨rfl, -, rfl⟩ := Value.slice.inj hvb
        obtain ⟨rfl, -, rfl⟩ := Value.slice.inj hv17
        have H19 : Hid _ := hs19
        have HB3 : Hid _ := hsb
        have H17 : Hid _ := hs17
        clear hs19 hsb hs17 hvb hv17 hown19 hownb3 hown173 hsl hmk hcv
        go_wp2_with fail
        go_loopw [21] (fun vj wr => ∃ j : Nat, vj = .int .i64 (j : Int) ∧ j ≤ G.length ∧ Hid (wr.heap = w3.heap) ∧ Below w.heap.size w wr) (fun vj _ => G.length - (intOf vj).toNat)
        case atStart => exact ⟨0, rfl, by omega, rfl, hbel3⟩
        case round =>
          obtain ⟨j, rfl, hj, HH, hbr⟩ := hrel
          by_cases h : j < G.length
          · have hcell : ∀ a, wr.cell? a = w3.cell? a := by
              intro a
              unfold World.cell?
              rw [HH.out]
            obtain ⟨gf, rfl, hgf⟩ : ∃ g, p19 = some ⟨g, 0, none⟩ ∧ StrsAt w3 g 0 G := by
              rcases H19.out with h0 | h1
              · rw [h0] at h; simp at h
              · exact h1
            obtain ⟨gb, rfl, hgb⟩ : ∃ g, pb = some ⟨g, 0, none⟩ ∧ StrsAt w3 g 0 G := by
              rcases HB3.out with h0 | h1
              · rw [h0] at h; simp at h
              · exact h1
            have c1 : wr.cell? ⟨gf, j, none⟩ = some (.string (bstr G[j])) := by
              have := hgf j h
              rw [Nat.zero_add] at this
              rw [hcell, this]
            have c2 : wr.cell? ⟨gb, j, none⟩ = some (.string (bstr G[j])) := by
              have := hgb j h
              rw [Nat.zero_add] at this
              rw [hcell, this]
            by_cases hji : j < i
            · obtain ⟨gg, rfl, hgg⟩ : ∃ g, p17 = some ⟨g, 0, none⟩ ∧ StrsAt w3 g 0 (G.take i) := by
                rcases H17.out with h0 | h1
                · rw [h0] at hli; simp at hli; omega
                · exact h1
              have c3 : wr.cell? ⟨gg, j, none⟩ = some (.string (bstr G[j])) := by
                have := hgg j (by omega)
                rw [Nat.zero_add, List.getElem_take] at this
                rw [hcell, this]
              clear hcell hgf hgb hgg
              have hgd : decide (j < i) = true := decide_eq_true hji
              generalize G[j] = b at *
              go_wp2_with fail
              go_quiet (fail)
              go_wp2_with fail
              go_roundw
              case rel => exact ⟨j + 1, by go_num, by omega, HH, below_drewN hbr _⟩
              case measure => simp [intOf]; omega
            · clear hcell hgf hgb
              have hgd : decide (j < i) = false := decide_eq_false hji
              generalize G[j] = b at *
              go_wp2_with fail
              go_quiet (fail)
              go_wp2_with fail
              go_roundw
              case rel => exact ⟨j + 1, by go_num, by omega, HH, below_drewN hbr _⟩
              case measure => simp [intOf]; omega
          · go_wp2_with fail
            go_ret
            exact ⟨rfl, hbr⟩

end Go.Proofs.YtmimmbcchbmnbaaDoor
