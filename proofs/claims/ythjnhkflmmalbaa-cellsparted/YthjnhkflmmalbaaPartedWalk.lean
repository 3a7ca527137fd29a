/-
  The walk of the law CellsParted.
-/
import Derived.Test.YthjnhkflmmalbaaCWks
namespace Go.Proofs.Ythjnhkflmmalbaa
open Go.RowKit Go.BigFrame Go.Sort
attribute [local go_sem] size_bstr toList_bstr ls_def
attribute [local go_sem high] cell_eql5 cell_neq5 cell_guard

theorem filter_idx {α : Type} (p : α → Bool) (l : List α) (n : Nat) (h : n < l.length) (hp : p l[n] = true) : ∃ hi : ((l.take n).filter p).length < (l.filter p).length, (l.filter p)[((l.take n).filter p).length] = l[n] := by
  have e : l = l.take n ++ l[n] :: l.drop (n + 1) := by rw [← List.drop_eq_getElem_cons h]; exact (List.take_append_drop n l).symm
  have e2 : l.filter p = (l.take n).filter p ++ l[n] :: (l.drop (n + 1)).filter p := by
    conv => lhs; rw [e]
    rw [List.filter_append, List.filter_cons_of_pos hp]
  have hi : ((l.take n).filter p).length < (l.filter p).length := by rw [e2]; simp
  refine ⟨hi, ?_⟩
  have : ∀ (m : List α) (hm : m = (l.take n).filter p ++ l[n] :: (l.drop (n + 1)).filter p) (hj : ((l.take n).filter p).length < m.length), m[((l.take n).filter p).length] = l[n] := by
    rintro m rfl hj
    simp
  exact this _ e2 hi
theorem has_left {key r : List UInt8} (hk : key ≠ []) : hasB [] key r = ls r key := by simp [hasB, ls_nil, hk]
theorem has_right (key r : List UInt8) : hasB key [] r = !ls r key := by simp [hasB]
theorem within_any (l : List Cl) : withinL [] [] l = l := by
  unfold withinL
  rw [List.filter_eq_self]
  intro c _
  simp [hasB, ls_nil]

set_option maxHeartbeats 4000000 in
set_option maxRecDepth 100000 in
theorem parted_walk (q : Option Addr) (b off cap : Nat) (cs : List Cl) (key : List UInt8) (w : World) (hq : 0 < cs.length → q = some ⟨b, off, none⟩ ∧ CRow w b off cs ∧ b < w.heap.size) (hf : ∀ c ∈ cs, Fits c) (hn : cs.length * 64 ≤ 140737488351232) :
    Calls Try.prog 7 #[.slice q cs.length cap, .string (bstr key)] w fun e w' => e = .returned (.bool true) ∧ RowKit.Below w.heap.size w w' := by
  have hqs : ∀ W, RowKit.Below w.heap.size w W → (0 < cs.length → q = some ⟨b, off, none⟩ ∧ CRow W b off cs ∧ b < W.heap.size) := fun W hb h => ⟨(hq h).1, (hq h).2.1.step hb (hq h).2.2, Nat.lt_of_lt_of_le (hq h).2.2 hb.size⟩
  go_enter Try.func7, Try.ntmps7
  go_wp2_with fail
  refine (works_any _).mono ?_
  rintro e w1 ⟨rfl, hb1⟩
  by_cases hk : key = []
  · subst hk
    go_wp2_with fail
    refine (Within_any q b off cap cs [] [] w1 (hqs w1 hb1) hf hn).mono ?_
    rintro e w2 ⟨v2, rfl, hown, hb2⟩
    rw [within_any] at hown
    replace hb2 := below2 hb1 hb2
    obtain ⟨p, c, rfl, _, _, hrow⟩ := own_cslice hown
    have hq2 := hqs w2 hb2
    have hsame : Calls Try.prog 21 #[.slice p cs.length c, .slice q cs.length cap] w2 fun e w' => e = .returned (.bool true) ∧ RowKit.Below w2.heap.size w2 w' := by
      by_cases h0 : 0 < cs.length
      · obtain ⟨g, rfl, _, _, hr, _⟩ := hrow h0
        exact same_any _ q g 0 c b off cap cs w2 (fun _ => ⟨rfl, hr⟩) (fun h => ⟨(hq2 h).1, (hq2 h).2.1⟩) (by omega)
      · exact same_any p q 0 0 c b off cap cs w2 (fun h => absurd h h0) (fun h => absurd h h0) (by omega)
    clear hown hrow hb1
    go_wp2_with fail
    refine hsame.mono ?_
    rintro e w3 ⟨rfl, hb3⟩
    replace hb3 := below2 hb2 hb3
    clear hsame hb2
    go_wp2
    go_ret
    exact ⟨rfl, hb3⟩
  · have hk1 : (key == ([] : List UInt8)) = false := by simpa using hk
    go_wp2_with fail
    refine (Within_any q b off cap cs [] key w1 (hqs w1 hb1) hf hn).mono ?_
    rintro e w2 ⟨v2, rfl, hownL, hb2⟩
    replace hb2 := below2 hb1 hb2
    clear hb1
    go_wp2_with fail
    refine (Within_any q b off cap cs key [] w2 (hqs w2 hb2) hf hn).mono ?_
    rintro e w3 ⟨v3, rfl, hownR, hb3⟩
    have hownL3 := own_cbelow hownL hb3
    replace hb3 := below2 hb2 hb3
    clear hb2 hownL
    obtain ⟨pl, cl, rfl, hclm, hcl, hrl⟩ := own_cslice hownL3
    obtain ⟨pr, cr, rfl, hcrm, hcr, hrr⟩ := own_cslice hownR
    clear hownL3 hownR
    have hlen1 : (withinL [] key cs).length ≤ cs.length := List.length_filter_le _ _
    have hlen2 : (withinL key [] cs).length ≤ cs.length := List.length_filter_le _ _
    go_wp2
    go_loopw [7, 8, 9] (fun s7 s8 s9 wr => ∃ n i k : Nat, s9 = .int .i64 (n : Int) ∧ s7 = .int .i64 (i : Int) ∧ s8 = .int .i64 (k : Int) ∧ n ≤ cs.length ∧ Hid (i = (withinL [] key (cs.take n)).length) ∧ Hid (k = (withinL key [] (cs.take n)).length) ∧ RowKit.Below w3.heap.size w3 wr) (fun _ _ s9 _ => cs.length - (intOf s9).toNat)
    case atStart => exact ⟨0, 0, 0, rfl, rfl, rfl, by omega, by show _ = _; rfl, by show _ = _; rfl, RowKit.Below.refl _ _⟩
    case round =>
      obtain ⟨n, i, k, rfl, rfl, rfl, hnl, HI, HK, hbel⟩ := hrel
      have hin : i ≤ n := by rw [HI.out]; exact within_len _ _ _ _
      have hkn : k ≤ n := by rw [HK.out]; exact within_len _ _ _ _
      by_cases hlt : n < cs.length
      · obtain ⟨rfl, hR, hbl⟩ := hqs w3 hb3 (by omega)
        have hAt := (hR n hlt).step hbel hbl
        have heq := eqC_self cs[n]
        have hnz : (n : Int) < (cs.length : Int) := by omega
        cases hls : ls cs[n].row key with
        | true =>
          have hh : hasB [] key cs[n].row = true := by rw [has_left hk, hls]
          have hh2 : hasB key [] cs[n].row = false := by rw [has_right, hls]; rfl
          obtain ⟨hi, hid⟩ := filter_idx (fun c => hasB [] key c.row) cs n hlt hh
          have HI2 : Hid (i + 1 = (withinL [] key (cs.take (n + 1))).length) := by show _ = _; rw [within_yes hlt hh, List.length_append, ← HI.out]; rfl
          have HK2 : Hid (k = (withinL key [] (cs.take (n + 1))).length) := by show _ = _; rw [within_no hlt hh2]; exact HK.out
          have hiN : i < (withinL [] key cs).length := by rw [HI.out]; exact hi
          have hid2 : (withinL [] key cs)[i] = cs[n] := by
            have e := HI.out
            subst e
            exact hid
          obtain ⟨gl, rfl, hg1, hg2, hrow, _⟩ := hrl (by omega)
          have hAl := (hrow i hiN).step hbel hg2
          rw [hid2, Nat.zero_add] at hAl
          have hge : decide (((withinL [] key cs).length : Int) ≤ (i : Int)) = false := by rw [decide_eq_false_iff_not]; omega
          have hiz : (i : Int) < ((withinL [] key cs).length : Int) := by omega
          clear hh hh2 hi hid hid2 hR HI HK hrow hrl
          generalize cs[n] = c at *
          obtain ⟨r, kk, v, z, x⟩ := c
          obtain ⟨c0, c1, c2, c3, c4⟩ := hAt
          obtain ⟨d0, d1, d2, d3, d4⟩ := hAl
          simp only at c0 c1 c2 c3 c4 d0 d1 d2 d3 d4 hls
          go_wp2_with fail
          go_quiet (fail)
          have hbe := below_drewN hbel nq
          clear c0 c1 c2 c3 c4 d0 d1 d2 d3 d4 hbel
          go_wp2
          go_roundw
          case rel => exact ⟨n + 1, i + 1, k, by go_num, by go_num, rfl, by omega, HI2, HK2, hbe⟩
          case measure => simp [intOf]; omega
        | false =>
          have hh : hasB key [] cs[n].row = true := by rw [has_right, hls]; rfl
          have hh2 : hasB [] key cs[n].row = false := by rw [has_left hk, hls]
          obtain ⟨hi, hid⟩ := filter_idx (fun c => hasB key [] c.row) cs n hlt hh
          have HK2 : Hid (k + 1 = (withinL key [] (cs.take (n + 1))).length) := by show _ = _; rw [within_yes hlt hh, List.length_append, ← HK.out]; rfl
          have HI2 : Hid (i = (withinL [] key (cs.take (n + 1))).length) := by show _ = _; rw [within_no hlt hh2]; exact HI.out
          have hiN : k < (withinL key [] cs).length := by rw [HK.out]; exact hi
          have hid2 : (withinL key [] cs)[k] = cs[n] := by
            have e := HK.out
            subst e
            exact hid
          obtain ⟨gl, rfl, hg1, hg2, hrow, _⟩ := hrr (by omega)
          have hAl := (hrow k hiN).step hbel hg2
          rw [hid2, Nat.zero_add] at hAl
          have hge : decide (((withinL key [] cs).length : Int) ≤ (k : Int)) = false := by rw [decide_eq_false_iff_not]; omega
          have hiz : (k : Int) < ((withinL key [] cs).length : Int) := by omega
          clear hh hh2 hi hid hid2 hR HI HK hrow hrr
          generalize cs[n] = c at *
          obtain ⟨r, kk, v, z, x⟩ := c
          obtain ⟨c0, c1, c2, c3, c4⟩ := hAt
          obtain ⟨d0, d1, d2, d3, d4⟩ := hAl
          simp only at c0 c1 c2 c3 c4 d0 d1 d2 d3 d4 hls
          go_wp2_with fail
          go_quiet (fail)
          have hbe := below_drewN hbel nq
          clear c0 c1 c2 c3 c4 d0 d1 d2 d3 d4 hbel
          go_wp2
          go_roundw
          case rel => exact ⟨n + 1, i, k + 1, by go_num, rfl, by go_num, by omega, HI2, HK2, hbe⟩
          case measure => simp [intOf]; omega
      · have hie : n = cs.length := by omega
        subst hie
        have e1 := HI.out
        have e2 := HK.out
        rw [List.take_length] at e1 e2
        subst e1 e2
        have hbe := below2 hb3 hbel
        clear HI HK hbel hb3
        go_wp2
        go_ret
        exact ⟨rfl, hbe⟩

end Go.Proofs.Ythjnhkflmmalbaa
