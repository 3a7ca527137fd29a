/-
  The laws' works: the chapter's first rows.
-/
import Derived.Test.YtnpjbdbhjbccbaaMLaw
namespace Go.Proofs.Ytnpjbdbhjbccbaa
open Go.RowKit Go.BigFrame Go.Sort
attribute [local go_sem] size_bstr toList_bstr ls_def

abbrev cA2 : Cl := xc [97] 2 false
abbrev cB1 : Cl := xc [98] 1 false
abbrev cA2g : Cl := xc [97] 2 true
abbrev cA1 : Cl := xc [97] 1 false
theorem xc_fits (r : List UInt8) (v : Int) (z : Bool) (h : r.length ≤ 1) : Fits (xc r v z) := ⟨by show r.length ≤ _; omega, by simp [xc], by simp [xc]⟩
/-- The row of a list, as it is handed to All. -/
def ofIn (vb lb : Nat) (cs : List Cl) : InR := ⟨.func (.func 43) #[] #[.pointer (some ⟨vb, 0, none⟩)], OfF vb lb cs, cs, OfJ vb lb cs⟩
theorem ofIn_row {vb lb : Nat} {cs : List Cl} {w : World} (hne : vb ≠ lb) (hf : ∀ c ∈ cs, Fits c) (h : OfJ vb lb cs 0 w) : RowW (ofIn vb lb cs) w := Or.inr ⟨_, _, rfl, Of_tlr vb lb cs hne hf, h⟩
theorem two_list : sortL ([siftL upF none [cA2, cB1], siftL upF none [cA2g, cA1]] : List (List Cl)).flatten = [cA2, cA1, cB1] := by rfl
theorem below2' {w w1 w2 : World} {F : Nat → Prop} (h : Below w.heap.size w w1) (k : Kp w1 w2 F) (hF : ∀ i, F i → w.heap.size ≤ i) : Below w.heap.size w w2 :=
  ⟨k.os.trans h.os, k.tape.trans h.tape, k.output.trans h.output, Nat.le_trans h.size k.size, fun i hi => (k.block i (Nat.lt_of_lt_of_le hi h.size) (fun hf => by have := hF i hf; omega)).trans (h.block i hi)⟩
/-- What two answers. -/
def TwoQ (w : World) (e : Ending) (w' : World) : Prop :=
  ∃ vb F J, e = .returned (.func (.func 31) #[] #[.pointer (some ⟨vb, 0, none⟩)]) ∧ Tlr 31 #[.pointer (some ⟨vb, 0, none⟩)] F [cA2, cA1, cB1] J ∧ J 0 w' ∧ (∀ i, F i → w.heap.size ≤ i) ∧ Below w.heap.size w w'

set_option maxHeartbeats 2000000 in
set_option maxRecDepth 100000 in
theorem two_any (w : World) : Calls Try.prog 39 #[] w (TwoQ w) := by
  have at1 := fun W => at_any [97] 2 false W
  have at2 := fun W => at_any [98] 1 false W
  have at3 := fun W => at_any [97] 2 true W
  have at4 := fun W => at_any [97] 1 false W
  go_enter Try.func39, Try.ntmps39
  go_wp2_with fail
  refine (at1 _).mono ?_
  rintro e w1 ⟨rfl, hb1⟩
  go_wp2_with fail
  refine (at2 _).mono ?_
  rintro e w2 ⟨rfl, hb2⟩
  have hB2 := below2 hb1 hb2
  have hr2 := CRow.lit w2 [cA2, cB1] 39
  have hB3 := (Below.refl _ w2).alloc (Nat.le_refl _) (.cells (ccells [cA2, cB1]).toArray 39)
  go_wp2_with fail
  refine (Of_any (some ⟨w2.heap.size, 0, none⟩) w2.heap.size 0 2 [cA2, cB1] _ (fun _ => ⟨rfl, hr2, by simp⟩) (by intro c hc; simp at hc; rcases hc with rfl | rfl <;> exact xc_fits _ _ _ (by decide)) (by decide)).mono ?_
  rintro e w3 ⟨va, la, rfl, hJa, hna, hva, hla, hb3⟩
  have hB3' := below2 hB2 (below2 hB3 hb3)
  clear hb1 hb2 hr2 hB3 hb3 at1
  have hsa := hB3'.size
  have hs2 : w.heap.size ≤ w2.heap.size := hB2.size
  simp only [World.alloc, Array.size_push] at hva hla
  go_wp2_with fail
  refine (at3 _).mono ?_
  rintro e w4 ⟨rfl, hb4⟩
  go_wp2_with fail
  refine (at4 _).mono ?_
  rintro e w5 ⟨rfl, hb5⟩
  have hB5 := below2 hb4 hb5
  have hr5 := CRow.lit w5 [cA2g, cA1] 39
  have hB6 := (Below.refl _ w5).alloc (Nat.le_refl _) (.cells (ccells [cA2g, cA1]).toArray 39)
  go_wp2_with fail
  refine (Of_any (some ⟨w5.heap.size, 0, none⟩) w5.heap.size 0 2 [cA2g, cA1] _ (fun _ => ⟨rfl, hr5, by simp⟩) (by intro c hc; simp at hc; rcases hc with rfl | rfl <;> exact xc_fits _ _ _ (by decide)) (by decide)).mono ?_
  rintro e w6 ⟨vb, lb, rfl, hJb, hnb, hvb, hlb, hb6⟩
  simp only [World.alloc, Array.size_push] at hvb hlb
  have hB6' : Below w3.heap.size w3 w6 := below2 hB5 (below2 hB6 hb6)
  have hTa := Of_tlr va la [cA2, cB1] hna (by intro c hc; simp at hc; rcases hc with rfl | rfl <;> exact xc_fits _ _ _ (by decide))
  have hal := hTa.lt 0 w3 hJa
  have hJa6 := hTa.below hJa hB6'
  have hs5 := hB5.size
  clear hb4 hb5 hr5 hB6 hb6 at2 at3 at4
  obtain ⟨ins, hins⟩ : ∃ ins, ins = [ofIn va la [cA2, cB1], ofIn vb lb [cA2g, cA1]] := ⟨_, rfl⟩
  have hall := All_any (some ⟨w6.heap.size, 0, none⟩) w6.heap.size 0 2 ins (w6.alloc (.cells #[.func (.func 43) #[] #[.pointer (some ⟨va, 0, none⟩)], .func (.func 43) #[] #[.pointer (some ⟨vb, 0, none⟩)]] 25))
    (fun _ => ⟨rfl, by simp, fun k x hx => by
      have hc := (mcells (heap_alloc_new w6 (.cells #[.func (.func 43) #[] #[.pointer (some ⟨va, 0, none⟩)], .func (.func 43) #[] #[.pointer (some ⟨vb, 0, none⟩)]] 25))).1
      rw [Nat.zero_add, hc]
      subst hins
      match k, hx with
      | 0, hx => cases hx; rfl
      | 1, hx => cases hx; rfl⟩)
    (fun x hx => by
      subst hins
      simp at hx
      rcases hx with rfl | rfl
      · exact (ofIn_row hna hTa.fits hJa6).below (B := w6.heap.size) (hTa.lt 0 w6 hJa6) ((Below.refl _ _).alloc (Nat.le_refl _) _)
      · have hTb := Of_tlr vb lb [cA2g, cA1] hnb (by intro c hc; simp at hc; rcases hc with rfl | rfl <;> exact xc_fits _ _ _ (by decide))
        exact (ofIn_row hnb hTb.fits hJb).below (B := w6.heap.size) (hTb.lt 0 w6 hJb) ((Below.refl _ _).alloc (Nat.le_refl _) _))
    (by
      subst hins
      refine List.pairwise_cons.2 ⟨fun y hy => ?_, by simp⟩
      simp at hy
      subst hy
      intro i hi hj
      have h1 := hal i hi
      rcases hj with rfl | ⟨_, rfl⟩ <;> omega)
    (by subst hins; simp)
    (fun x hx => by
      subst hins
      simp at hx
      rcases hx with rfl | rfl <;> (intro c hc; simp [ofIn] at hc; rcases hc with rfl | rfl <;> exact xc_fits _ _ _ (by decide)))
  have hl2 : ins.length = 2 := by rw [hins]; rfl
  have htot : allL ins = [cA2, cA1, cB1] := by rw [hins]; exact two_list
  have hFi : ∀ i, (∃ x ∈ ins, x.F i) → w.heap.size ≤ i := by
    subst hins
    rintro i ⟨x, hx, hi⟩
    simp at hx
    rcases hx with rfl | rfl
    · rcases hi with rfl | ⟨_, rfl⟩ <;> omega
    · rcases hi with rfl | ⟨_, rfl⟩ <;> omega
  rw [hl2] at hall
  clear hins hl2
  go_wp2_with fail
  refine hall.mono ?_
  rintro e w7 ⟨v7, F, J, rfl, hT, hJ, hF, hb7, _⟩
  rw [htot] at hT
  have hB7 : Below w.heap.size w w7 := below2 (below2 hB3' hB6') (below2 ((Below.refl _ _).alloc (Nat.le_refl _) _) hb7)
  clear hall hb7
  go_wp2
  go_ret
  refine ⟨v7, F, J, rfl, hT, hJ, fun i hi => ?_, hB7⟩
  rcases hF i hi with k | k
  · exact hFi i k
  · have := hB6'.size
    simp at k
    omega

set_option maxHeartbeats 2000000 in
set_option maxRecDepth 100000 in
theorem works12_any (w : World) : Calls Try.prog 14 #[] w fun e w' => e = .returned (.bool true) ∧ Below w.heap.size w w' := by
  have at1 := fun W => at_any [97] 2 false W
  have at2 := fun W => at_any [98] 1 false W
  have at4 := fun W => at_any [97] 1 false W
  go_enter Try.func14, Try.ntmps14
  go_wp2_with fail
  refine (two_any _).mono ?_
  rintro e w1 ⟨v1, F1, J1, rfl, hT1, hJ1, hF1, hb1⟩
  have hlist := List_row hT1 0 9 w1 hJ1 (by decide) (by decide)
  go_wp2_with fail
  refine hlist.mono ?_
  rintro e w2 ⟨v2, rfl, hown2, _, hk2⟩
  have hB2 : Below w.heap.size w w2 := below2' hb1 hk2 hF1
  obtain ⟨p2, cap2, rfl, _, _, hrow2⟩ := own_cslice (cs := [cA2, cA1, cB1]) hown2
  clear hlist hown2
  go_wp2_with fail
  refine (at1 _).mono ?_
  rintro e w3 ⟨rfl, hb3⟩
  go_wp2_with fail
  refine (at4 _).mono ?_
  rintro e w4 ⟨rfl, hb4⟩
  go_wp2_with fail
  refine (at2 _).mono ?_
  rintro e w5 ⟨rfl, hb5⟩
  have hB5 := below2 hb3 (below2 hb4 hb5)
  have hr5 := CRow.lit w5 [cA2, cA1, cB1] 39
  have hB6 := (Below.refl _ w5).alloc (Nat.le_refl _) (.cells (ccells [cA2, cA1, cB1]).toArray 39)
  have hsame := same_yes p2 (some ⟨w5.heap.size, 0, none⟩) ((hrow2 (by decide)).choose) 0 cap2 w5.heap.size 0 3 [cA2, cA1, cB1] (w5.alloc (.cells (ccells [cA2, cA1, cB1]).toArray 39)) (fun h => ⟨(hrow2 h).choose_spec.1, ((hrow2 h).choose_spec.2.2.2.1.step hB5 (hrow2 h).choose_spec.2.2.1).step hB6 (Nat.lt_of_lt_of_le (hrow2 h).choose_spec.2.2.1 hB5.size)⟩) (fun _ => ⟨rfl, hr5⟩) (by decide)
  go_wp2_with fail
  refine hsame.mono ?_
  rintro e w6 ⟨rfl, hb6⟩
  have hB6' : Below w.heap.size w w6 := below2 (below2 hB2 hB5) (below2 hB6 hb6)
  clear hsame hr5 hB5 hB6 hb6 hrow2 hb3 hb4 hb5 hT1 hJ1 hF1 hb1 hk2 hB2
  have htwo := two_any w6
  go_wp2_with fail
  refine htwo.mono ?_
  rintro e w7 ⟨v7, F7, J7, rfl, hT7, hJ7, hF7, hb7⟩
  have hnew := newest_rv (Or.inr ⟨_, _, rfl, hT7⟩) w7 hJ7
  clear htwo
  go_wp2_with fail
  refine hnew.mono ?_
  rintro e w8 ⟨c8, F8, J8, rfl, hT8, hJ8, hF8, hb8, _⟩
  have hn8 : siftL newF none [cA2, cA1, cB1] = [cA2, cB1] := by rfl
  rw [hn8] at hT8
  have hF8' : ∀ i, F8 i → w6.heap.size ≤ i := fun i hi => by
    rcases hF8 i hi with k | k
    · exact hF7 i k
    · have := hb7.size; omega
  have hlist := List_row hT8 0 9 w8 hJ8 (by decide) (by decide)
  have hB8 := below2 hb7 hb8
  clear hnew
  go_wp2_with fail
  refine hlist.mono ?_
  rintro e w9 ⟨v9, rfl, hown9, _, hk9⟩
  have hB9 : Below w6.heap.size w6 w9 := below2' hB8 hk9 hF8'
  obtain ⟨p9, cap9, rfl, _, _, hrow9⟩ := own_cslice (cs := [cA2, cB1]) hown9
  clear hlist hown9
  go_wp2_with fail
  refine (at1 _).mono ?_
  rintro e w10 ⟨rfl, hb10⟩
  go_wp2_with fail
  refine (at2 _).mono ?_
  rintro e w11 ⟨rfl, hb11⟩
  have hB11 := below2 hb10 hb11
  have hr11 := CRow.lit w11 [cA2, cB1] 39
  have hB12 := (Below.refl _ w11).alloc (Nat.le_refl _) (.cells (ccells [cA2, cB1]).toArray 39)
  have hsame := same_yes p9 (some ⟨w11.heap.size, 0, none⟩) ((hrow9 (by decide)).choose) 0 cap9 w11.heap.size 0 2 [cA2, cB1] (w11.alloc (.cells (ccells [cA2, cB1]).toArray 39)) (fun h => ⟨(hrow9 h).choose_spec.1, ((hrow9 h).choose_spec.2.2.2.1.step hB11 (hrow9 h).choose_spec.2.2.1).step hB12 (Nat.lt_of_lt_of_le (hrow9 h).choose_spec.2.2.1 hB11.size)⟩) (fun _ => ⟨rfl, hr11⟩) (by decide)
  go_wp2_with fail
  refine hsame.mono ?_
  rintro e w12 ⟨rfl, hb12⟩
  have hfin : Below w.heap.size w w12 := below2 hB6' (below2 (below2 hB9 hB11) (below2 hB12 hb12))
  clear hsame
  go_wp2
  go_ret
  exact ⟨rfl, hfin⟩

end Go.Proofs.Ytnpjbdbhjbccbaa
