/-
  The contract of the document's Decode: it answers what the program's does.
-/
import Derived.Test.YtjnfhbhcbcpjnaaRRd
import Derived.Test.YtjnfhbhcbcpjnaaCDecode
namespace Go.Proofs.Ytjnfhbhcbcpjnaa
open Go.RowKit Go.BigFrame Go.Sort
attribute [local go_sem] size_bstr toList_bstr ls_def

theorem okT_mono {m m' : Nat} {l : List UInt8} (h : m ≤ m') (ho : okT m l = true) : okT m' l = true ∧ tV m l = tV m' l ∧ tR m l = tR m' l := by
  have ho' : okT m' l = true := by
    simp only [okT, Bool.and_eq_true, decide_eq_true_eq] at ho ⊢
    omega
  unfold tV tR
  rw [ho, ho']
  exact ⟨rfl, rfl, rfl⟩
theorem okT_less {m m' : Nat} {l : List UInt8} (ho : okT m' l = true) (h : (tV m' l).length ≤ m) : okT m l = true := by
  have hv : tV m' l = (l.drop (numOf l).2).take (numOf l).1 := by unfold tV; rw [ho, if_pos rfl]
  rw [hv] at h
  simp only [okT, Bool.and_eq_true, decide_eq_true_eq] at ho ⊢
  rw [List.length_take, List.length_drop] at h
  omega
def k1 (l : List UInt8) : List UInt8 := tR 32 l
def k2 (l : List UInt8) : List UInt8 := tR 16 (k1 l)
def k3 (l : List UInt8) : List UInt8 := nR (k2 l)
def k4 (l : List UInt8) : List UInt8 := bR (k3 l)
def k5 (l : List UInt8) : List UInt8 := tR 65536 (k4 l)
def cellK (l : List UInt8) : Cl := ⟨tV 32 l, tV 16 (k1 l), (nV (k2 l) : Int), bV (k3 l) == 1, tV 65536 (k4 l)⟩
def takeK (l : List UInt8) : Bool := okT 32 l && okT 16 (k1 l) && okN (k2 l) && okB (k3 l) && okT 65536 (k4 l) && decide ((bV (k3 l)).toNat ≤ 1) && okC (cellK l)
theorem take_eq {l : List UInt8} (h1 : okT 32 l = true) (h2 : okT 16 (k1 l) = true) : k1 l = l1 l ∧ k2 l = l2 l ∧ k3 l = l3 l ∧ k4 l = l4 l ∧ k5 l = l5 l ∧ cellK l = cellOf l ∧ takeK l = takeOk l := by
  obtain ⟨a1, a2, a3⟩ := okT_mono (m := 32) (m' := 65536) (by omega) h1
  have e1 : k1 l = l1 l := a3
  rw [e1] at h2
  obtain ⟨b1, b2, b3⟩ := okT_mono (m := 16) (m' := 65536) (by omega) h2
  have e2 : k2 l = l2 l := by unfold k2 l2; rw [e1]; exact b3
  have e3 : k3 l = l3 l := by unfold k3 l3; rw [e2]
  have e4 : k4 l = l4 l := by unfold k4 l4; rw [e3]
  have e5 : k5 l = l5 l := by unfold k5 l5; rw [e4]
  have e6 : cellK l = cellOf l := by unfold cellK cellOf; rw [e1, e2, e3, e4, a2, b2]
  refine ⟨e1, e2, e3, e4, e5, e6, ?_⟩
  unfold takeK takeOk
  rw [e1, e2, e3, e4, e6, h1, h2, a1, b1]
theorem take_same (l : List UInt8) : takeK l = takeOk l ∧ (takeK l = true → cellK l = cellOf l ∧ k5 l = l5 l) := by
  cases hK : takeK l with
  | true =>
    have h := hK
    simp only [takeK, Bool.and_eq_true] at h
    obtain ⟨_, _, _, _, e5, e6, e7⟩ := take_eq h.1.1.1.1.1.1 h.1.1.1.1.1.2
    exact ⟨by rw [← e7, hK], fun _ => ⟨e6, e5⟩⟩
  | false =>
    refine ⟨?_, fun h => by cases h⟩
    cases hO : takeOk l with
    | false => rfl
    | true =>
      exfalso
      have h := hO
      simp only [takeOk, Bool.and_eq_true] at h
      have hc := okC_len h.2
      have h1 : okT 32 l = true := okT_less h.1.1.1.1.1.1 hc.1
      have e1 : k1 l = l1 l := (okT_mono (m := 32) (m' := 65536) (by omega) h1).2.2
      have h2 : okT 16 (k1 l) = true := by rw [e1]; exact okT_less h.1.1.1.1.1.2 hc.2.1
      have e7 := (take_eq h1 h2).2.2.2.2.2.2
      rw [hK, hO] at e7
      cases e7
theorem decN_long : ∀ (n : Nat) (l : List UInt8), l.length < n → decN n l = none
  | 0, _, h => by omega
  | n + 1, l, h => by
    rw [decN]
    split
    · rename_i ht
      have tb := congrArg List.length (take_back ht).1
      have tl := lay_pos (cellOf l)
      rw [List.length_append] at tb
      rw [decN_long n (l5 l) (by omega)]
      rfl
    · rfl
theorem Rr.grown {W W' : World} {n g : Nat} {s : ByteArray} (h : Rr W n s) (hg : W.grownBy W' (some g)) (hne : g ≠ n) : Rr W' n s := (hg.block n h.lt (fun e => hne (by cases e; rfl))).trans h

set_option maxHeartbeats 8000000 in
set_option maxRecDepth 100000 in
theorem RDecode_any (s : List UInt8) (w : World) (hs : s.length ≤ 140737488355328) :
    Calls Try.prog 14 #[.string (bstr s)] w fun e w' => (∀ cs, decR s = some cs → ∃ v, e = .returned (.tuple #[v, .int .i64 0]) ∧ w'.ownsRow w.heap.size 35 5 v cs.length (ccells cs)) ∧ (decR s = none → e = .returned (.tuple #[.slice none 0 0, .int .i64 4])) ∧ RowKit.Below w.heap.size w w' := by
  obtain ⟨i0, hi0, hz0, hz1, hz2⟩ := info_parts Try.infoCell
  by_cases hl : s.length ≤ 1048576
  · have hgt : decide ((1048576 : Int) < (s.length : Int)) = false := by rw [decide_eq_false_iff_not]; omega
    go_enter Try.func14, Try.ntmps14
    go_wp2_with fail
    refine (RNew_any (bstr s) w).mono ?_
    rintro e w1 ⟨rfl, r1, hb1⟩
    go_wp2_with fail
    refine (RNumber_r w.heap.size s w1 r1 (by omega)).mono ?_
    rintro e w2 ⟨rfl, r2, g2⟩
    have hb2 : RowKit.Below w.heap.size w w2 := hb1.grown g2 hb1.size (fun k hk => by cases hk; exact Nat.le_refl _)
    have hnl := nR_len s
    clear r1 g2 hb1
    cases ho : okN s with
    | false =>
      have HD : Hid (decR s = none) := by show _ = _; unfold decR; rw [if_pos hl, ho]; rfl
      go_wp2
      go_ret2
      exact ⟨(fun cs h => by rw [HD.out] at h; cases h), fun _ => rfl, hb2⟩
    | true =>
      have HD : Hid (decR s = fin (decN (nV s) (nR s))) := by show _ = _; unfold decR; rw [if_pos hl, ho, if_pos rfl]
      have hvl : nV s < 18446744073709551616 := (okN_back ho).2
      generalize nV s = n at *
      generalize nR s = l at *
      by_cases hbig : n ≤ s.length
      · have hg2 : decide (s.length < n) = false := by rw [decide_eq_false_iff_not]; omega
        go_wp2
        go_loopw [7, 8] (fun s7 s8 wr => ∃ (i : Nat) (acc : List Cl) (l' : List UInt8), s8 = .int .u64 (i : Int) ∧ i ≤ n ∧ Rr wr w.heap.size (bstr l') ∧ wr.ownsRow (w.heap.size + 1) 35 5 s7 acc.length (ccells acc) ∧ Hid (decN n l = (decN (n - i) l').map (fun p => (acc ++ p.1, p.2))) ∧ acc.length + l'.length ≤ l.length ∧ RowKit.Below w.heap.size w wr) (fun _ s8 _ => n - (intOf s8).toNat)
        case atStart => exact ⟨0, [], l, rfl, by omega, r2, ⟨rfl, .inl ⟨rfl, rfl⟩⟩, by show _ = _; simp, by simp, hb2⟩
        case round =>
          obtain ⟨i, acc, l', rfl, hin, hr, hown, hD, hlen, hbel⟩ := hrel
          have hrl := hr.lt
          by_cases hlt : i < n
          · have hiz : (i : Int) < (n : Int) := by omega
            have ⟨k, hk⟩ : ∃ k, n - i = k + 1 := ⟨n - i - 1, by omega⟩
            have hk2 : n - (i + 1) = k := by omega
            rw [hk] at hD
            obtain ⟨hts, htc⟩ := take_same l'
            have e1 : (k1 l').length ≤ l'.length := tR_len 32 l'
            have e2 : (k2 l').length ≤ (k1 l').length := tR_len 16 (k1 l')
            have e3 : (k3 l').length ≤ (k2 l').length := nR_len (k2 l')
            have e4 : (k4 l').length ≤ (k3 l').length := bR_len (k3 l')
            have hgne : w.heap.size ≠ wr.heap.size := by omega
            have hwr : w.heap.size ≤ wr.heap.size := by omega
            have hB0 : RowKit.Below wr.heap.size wr (wr.alloc (.cells #[.string ⟨#[]⟩, .string ⟨#[]⟩, .int .u64 0, .bool false, .string ⟨#[]⟩] 35)) := (RowKit.Below.refl _ _).alloc (Nat.le_refl _) _
            have h0 := hr.next hB0
            have z := Rz.new wr
            have hG : wr.grownBy (wr.alloc (.cells #[.string ⟨#[]⟩, .string ⟨#[]⟩, .int .u64 0, .bool false, .string ⟨#[]⟩] 35)) (some w.heap.size) := grown_of_below hB0
            clear hB0 hr
            go_wp2_with fail
            generalize wr.alloc (.cells #[.string ⟨#[]⟩, .string ⟨#[]⟩, .int .u64 0, .bool false, .string ⟨#[]⟩] 35) = w0 at *
            refine (RText_r w.heap.size 32 l' w0 h0 (by omega) (by omega)).mono ?_
            rintro e w1 ⟨rfl, r1, g1⟩
            replace z := z.grown g1 hgne
            replace hG := grown_trans hG g1
            clear h0 g1
            go_wp2_with fail
            refine (RText_r w.heap.size 16 (k1 l') w1 r1 (by omega) (by omega)).mono ?_
            rintro e w2 ⟨rfl, r2, g2⟩
            replace z := z.grown g2 hgne
            replace hG := grown_trans hG g2
            clear r1 g2
            go_wp2_with fail
            refine (RNumber_r w.heap.size (k2 l') w2 r2 (by omega)).mono ?_
            rintro e w3 ⟨rfl, r3, g3⟩
            replace z := z.grown g3 hgne
            replace hG := grown_trans hG g3
            clear r2 g3
            go_wp2_with fail
            refine (RByte_r w.heap.size (k3 l') w3 r3).mono ?_
            rintro e w4 ⟨rfl, r4, g4⟩
            replace z := z.grown g4 hgne
            replace hG := grown_trans hG g4
            clear r3 g4
            go_wp2_with fail
            refine (RText_r w.heap.size 65536 (k4 l') w4 r4 (by omega) (by omega)).mono ?_
            rintro e w5 ⟨rfl, r5, g5⟩
            replace z := z.grown g5 hgne
            replace hG := grown_trans hG g5
            clear r4 g5
            obtain ⟨z0, z1, z2, z3, z4, f0, f1, f2, f3, f4⟩ := z.facts
            cases ha : okT 32 l' with
            | false =>
              have HB := ha
              have ht : Hid (takeOk l' = false) := by show _ = _; rw [← hts]; simp [takeK, HB]
              have HN : Hid (decR s = none) := by show _ = _; rw [HD.out, hD.out, decN, ht.out]; rfl
              clear hD HD ht
              go_wp2
              go_ret2
              exact ⟨(fun cs h => by rw [HN.out] at h; cases h), fun _ => rfl, hbel.grown (g_put5 hG (Nat.le_refl _)) hbel.size (fun k hk => by cases hk; exact Nat.le_refl _)⟩
            | true =>
              cases hb : okT 16 (k1 l') with
              | false =>
                have HB := hb
                have ht : Hid (takeOk l' = false) := by show _ = _; rw [← hts]; simp [takeK, HB]
                have HN : Hid (decR s = none) := by show _ = _; rw [HD.out, hD.out, decN, ht.out]; rfl
                clear hD HD ht
                go_wp2
                go_ret2
                exact ⟨(fun cs h => by rw [HN.out] at h; cases h), fun _ => rfl, hbel.grown (g_put5 hG (Nat.le_refl _)) hbel.size (fun k hk => by cases hk; exact Nat.le_refl _)⟩
              | true =>
                cases hd : okN (k2 l') with
                | false =>
                  have HB := hd
                  have ht : Hid (takeOk l' = false) := by show _ = _; rw [← hts]; simp [takeK, HB]
                  have HN : Hid (decR s = none) := by show _ = _; rw [HD.out, hD.out, decN, ht.out]; rfl
                  clear hD HD ht
                  go_wp2
                  go_ret2
                  exact ⟨(fun cs h => by rw [HN.out] at h; cases h), fun _ => rfl, hbel.grown (g_put5 hG (Nat.le_refl _)) hbel.size (fun k hk => by cases hk; exact Nat.le_refl _)⟩
                | true =>
                  cases he : okB (k3 l') with
                  | false =>
                    have HB := he
                    have ht : Hid (takeOk l' = false) := by show _ = _; rw [← hts]; simp [takeK, HB]
                    have HN : Hid (decR s = none) := by show _ = _; rw [HD.out, hD.out, decN, ht.out]; rfl
                    clear hD HD ht
                    go_wp2
                    go_ret2
                    exact ⟨(fun cs h => by rw [HN.out] at h; cases h), fun _ => rfl, hbel.grown (g_put5 hG (Nat.le_refl _)) hbel.size (fun k hk => by cases hk; exact Nat.le_refl _)⟩
                  | true =>
                    cases hf : okT 65536 (k4 l') with
                    | false =>
                      have HB := hf
                      have ht : Hid (takeOk l' = false) := by show _ = _; rw [← hts]; simp [takeK, HB]
                      have HN : Hid (decR s = none) := by show _ = _; rw [HD.out, hD.out, decN, ht.out]; rfl
                      clear hD HD ht
                      go_wp2
                      go_ret2
                      exact ⟨(fun cs h => by rw [HN.out] at h; cases h), fun _ => rfl, hbel.grown (g_put5 hG (Nat.le_refl _)) hbel.size (fun k hk => by cases hk; exact Nat.le_refl _)⟩
                    | true =>
                      by_cases hgo : (bV (k3 l')).toNat ≤ 1
                      · have hg1 : decide ((1 : Int) < ((bV (k3 l')).toNat : Int)) = false := by rw [decide_eq_false_iff_not]; omega
                        have hb1 : (((bV (k3 l')).toNat : Int) == 1) = (bV (k3 l') == 1) := by
                          generalize bV (k3 l') = x
                          by_cases hx : x = 1
                          · subst hx; rfl
                          · have hx2 : ¬ (x.toNat : Int) = 1 := fun e => hx (UInt8.toNat_inj.1 (show x.toNat = 1 by omega))
                            have : (x == 1) = false := by simpa using hx
                            rw [this]
                            simpa using hx2
                        have hcon := fun W => RCell_any (tV 32 l') (tV 16 (k1 l')) (nV (k2 l') : Int) (bV (k3 l') == 1) (tV 65536 (k4 l')) W
                        go_wp2_with fail
                        generalize hW : ((((w5.setCell ⟨wr.heap.size, 0, none⟩ _).setCell ⟨wr.heap.size, 1, none⟩ _).setCell ⟨wr.heap.size, 2, none⟩ _).setCell ⟨wr.heap.size, 3, none⟩ _).setCell ⟨wr.heap.size, 4, none⟩ _ = W'
                        obtain ⟨q0, q1, q2, q3, q4⟩ := set5_reads z0 z1 z2 z3 z4 hW
                        have hG' : wr.grownBy W' (some w.heap.size) := by rw [← hW]; exact g_put5 hG (Nat.le_refl _)
                        have r5' : Rr W' w.heap.size (bstr (k5 l')) := by rw [← hW]; exact Rr.below r5 (below_set5 (n := wr.heap.size) _ _ _ _ _ (RowKit.Below.refl wr.heap.size w5) (Nat.le_refl _)) hrl
                        clear hW z z0 z1 z2 z3 z4 f0 f1 f2 f3 f4 r5 hG
                        have hNlt := block_lt_of_cell q0
                        have hown5 := own_grown hown hG' (Nat.lt_succ_self _)
                        have hbel5 : RowKit.Below w.heap.size w W' := hbel.grown hG' hbel.size (fun k hk => by cases hk; exact Nat.le_refl _)
                        have hs5 := hG'.size
                        refine (hcon _).mono ?_
                        rintro e w6 ⟨rfl, hb6⟩
                        have r6 := r5'.next hb6
                        have hown6 := own_cbelow hown5 hb6
                        have hbel6 := below2 hbel5 hb6
                        have hs6 := hb6.size
                        replace q0 := (hb6.cell (p := ⟨wr.heap.size, 0, none⟩) hNlt).trans q0
                        replace q1 := (hb6.cell (p := ⟨wr.heap.size, 1, none⟩) hNlt).trans q1
                        replace q2 := (hb6.cell (p := ⟨wr.heap.size, 2, none⟩) hNlt).trans q2
                        replace q3 := (hb6.cell (p := ⟨wr.heap.size, 3, none⟩) hNlt).trans q3
                        replace q4 := (hb6.cell (p := ⟨wr.heap.size, 4, none⟩) hNlt).trans q4
                        clear hb6 hcon hown5 hbel5 hG' r5' hown hbel hb2
                        cases hm : mayC (tV 32 l') (tV 16 (k1 l')) (nV (k2 l') : Int) (bV (k3 l') == 1) (tV 65536 (k4 l')) with
                        | true =>
                          have hK : takeK l' = true := by
                            have : okC (cellK l') = true := hm
                            simp [takeK, ha, hb, hd, he, hf, hgo, this]
                          obtain ⟨hc1, hc2⟩ := htc hK
                          have ht : takeOk l' = true := by rw [← hts]; exact hK
                          have tb := (take_back ht).1
                          have tl : 1 ≤ (layL (cellOf l')).length := lay_pos _
                          have tl2 : (l5 l').length + 1 ≤ l'.length := by
                            have := congrArg List.length tb
                            rw [List.length_append] at this
                            omega
                          have HE : Hid (decN n l = (decN (n - (i + 1)) (l5 l')).map (fun p => ((acc ++ [cellK l']) ++ p.1, p.2))) := by
                            show _ = _
                            rw [hD.out, decN, ht, if_pos rfl, hk2, Option.map_map, hc1]
                            congr 1
                            funext p
                            simp
                          rw [hc2] at r6
                          rw [if_pos rfl]
                          have hcK : cellK l' = ⟨tV 32 l', tV 16 (k1 l'), (nV (k2 l') : Int), bV (k3 l') == 1, tV 65536 (k4 l')⟩ := rfl
                          rw [hcK] at HE
                          clear hD HD ht hts htc hK hc1 hc2 tb tl hm ha hb hd he hf hb1 hcK e1 e2 e3 e4
                          generalize l5 l' = l2' at *
                          generalize tV 32 l' = r at *
                          generalize tV 16 (k1 l') = k' at *
                          generalize (nV (k2 l') : Int) = v at *
                          generalize (bV (k3 l') == 1) = z at *
                          generalize tV 65536 (k4 l') = x at *
                          go_wp2_with (at_builtin; refine wpList_append_own _ rfl _ _ 22 rfl (w.heap.size + 1) 35 i0 (.agg #[.string ⟨#[]⟩, .string ⟨#[]⟩, .int .u64 0, .bool false, .string ⟨#[]⟩]) 5 64 Try.underlying22 hi0 hz0 hz1 hz2 rfl (by decide) _ _ _ rfl (hown6.alloc _) ⟨w6.heap.size, 0, none⟩ 1 1 (encC ⟨r, k', v, z, x⟩) rfl rfl (cell_news w6 ⟨r, k', v, z, x⟩ 35) (encC_one _) ?c3 ?c4 ?c5 ?_)
                          case c3 => unfold maxLen; omega
                          case c4 => omega
                          case c5 => simp; omega
                          intro v' w7 hown7 hgrow _
                          have hb67 : RowKit.Below (w.heap.size + 1) w6 w7 := ((RowKit.Below.refl _ _).alloc (by omega) _).grown hgrow (by simp; omega) (fun k hk => (hown6.lt k hk).1)
                          have hbel7 : RowKit.Below w.heap.size w w7 := (hbel6.alloc hbel6.size _).grown hgrow (by have := hbel6.size; simp; omega) (fun k hk => Nat.le_of_succ_le (hown6.lt k hk).1)
                          have r7 := r6.below hb67 (Nat.lt_succ_self _)
                          have hown8 : w7.ownsRow (w.heap.size + 1) 35 5 v' (acc ++ [Cl.mk r k' v z x]).length (ccells (acc ++ [Cl.mk r k' v z x])) := by
                            rw [List.length_append, ccells_append]
                            exact hown7
                          clear hown6 hown7 hgrow hb67 r6 hbel6 q0 q1 q2 q3 q4
                          go_wp2
                          go_roundw
                          case rel => exact ⟨i + 1, acc ++ [⟨r, k', v, z, x⟩], l2', by go_num, by omega, r7, hown8, HE, by simp; omega, hbel7⟩
                          case measure => simp [intOf]; omega
                        | false =>
                          have HB : okC (cellK l') = false := hm
                          have ht : Hid (takeOk l' = false) := by show _ = _; rw [← hts]; simp [takeK, HB]
                          have HN : Hid (decR s = none) := by show _ = _; rw [HD.out, hD.out, decN, ht.out]; rfl
                          rw [if_neg (by simp)]
                          clear hD HD ht hm
                          go_wp2
                          go_ret2
                          exact ⟨(fun cs h => by rw [HN.out] at h; cases h), fun _ => rfl, hbel6⟩
                      · have hg1 : decide ((1 : Int) < ((bV (k3 l')).toNat : Int)) = true := by rw [decide_eq_true_eq]; omega
                        have HB : decide ((bV (k3 l')).toNat ≤ 1) = false := by rw [decide_eq_false_iff_not]; exact hgo
                        have ht : Hid (takeOk l' = false) := by show _ = _; rw [← hts]; simp [takeK, HB]
                        have HN : Hid (decR s = none) := by show _ = _; rw [HD.out, hD.out, decN, ht.out]; rfl
                        clear hD HD ht
                        go_wp2
                        go_ret2
                        exact ⟨(fun cs h => by rw [HN.out] at h; cases h), fun _ => rfl, hbel.grown (g_put5 hG (Nat.le_refl _)) hbel.size (fun k hk => by cases hk; exact Nat.le_refl _)⟩
          · have hiz : ¬ (i : Int) < (n : Int) := by omega
            have hie : n - i = 0 := by omega
            have HE : Hid (decR s = fin (some (acc, l'))) := by
              show _ = _
              rw [HD.out, hD.out, hie]
              simp [decN]
            clear hD HD
            go_wp2_with fail
            refine (RLeft_any w.heap.size l' wr hr).mono ?_
            rintro e w3 ⟨rfl, rfl⟩
            have hown3 := own_mono hown (Nat.le_succ _)
            have hb3' := hbel
            cases l' with
            | nil =>
              have HF : Hid (decR s = some acc) := HE.out
              clear HE
              go_wp2
              go_ret2
              exact ⟨(fun cs h => by rw [HF.out] at h; cases h; exact ⟨_, rfl, hown3⟩), (fun h => by rw [HF.out] at h; cases h), hb3'⟩
            | cons y l' =>
              have HF : Hid (decR s = none) := HE.out
              have hp : decide ((0 : Int) < (((y :: l').length : Nat) : Int)) = true := by simp
              clear HE
              go_wp2
              go_ret2
              exact ⟨(fun cs h => by rw [HF.out] at h; cases h), (fun _ => rfl), hb3'⟩
      · have hg2 : decide (s.length < n) = true := by rw [decide_eq_true_eq]; omega
        have HN : Hid (decR s = none) := by show _ = _; rw [HD.out, decN_long n l (by omega)]; rfl
        clear HD
        go_wp2
        go_ret2
        exact ⟨(fun cs h => by rw [HN.out] at h; cases h), fun _ => rfl, hb2⟩
  · have hgt : decide ((1048576 : Int) < (s.length : Int)) = true := by rw [decide_eq_true_eq]; omega
    have HD : Hid (decR s = none) := by show _ = _; unfold decR; rw [if_neg hl]
    go_enter Try.func14, Try.ntmps14
    go_wp2
    go_ret2
    exact ⟨(fun cs h => by rw [HD.out] at h; cases h), fun _ => rfl, RowKit.Below.refl _ _⟩

end Go.Proofs.Ytjnfhbhcbcpjnaa
