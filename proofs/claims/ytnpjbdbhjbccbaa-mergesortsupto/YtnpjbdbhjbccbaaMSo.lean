/-
  The law MergeSorts, walked.
-/
import Derived.Test.YtnpjbdbhjbccbaaMSo2
namespace Go.Proofs.Ytnpjbdbhjbccbaa
open Go.RowKit Go.BigFrame Go.Sort
attribute [local go_sem] size_bstr toList_bstr ls_def

set_option maxHeartbeats 4000000 in
set_option maxRecDepth 100000 in
theorem MSorts_any (q : Option Addr) (ob off cap : Nat) (xs : List IS) (w : World) (hA : OArg w q ob off xs) (hf : ∀ x ∈ xs, ∀ c ∈ x.cs, Fits c) :
    Calls Try.prog 6 #[.slice q xs.length cap] w fun e w' => e = .returned (.bool true) ∧ Below w.heap.size w w' := by
  obtain ⟨i0, hi0, hz0, hz1, hz2⟩ := info_parts Try.infoSl
  have hshf := fun W (h : OArg W q ob off xs) => short_any q ob off cap xs W h
  obtain ⟨ys, hys⟩ : ∃ ys, ys = (xs.take 8).map IS.cut := ⟨_, rfl⟩
  rw [← hys] at hshf
  have hyn : ys.length ≤ 8 := by rw [hys, List.length_map, List.length_take]; omega
  have hyl : ∀ x ∈ ys, x.cs.length ≤ 100 := fun x hx => by
    rw [hys] at hx
    obtain ⟨y, _, rfl⟩ := List.mem_map.1 hx
    show (y.cs.take 100).length ≤ 100
    rw [List.length_take]
    omega
  have hyf : ∀ x ∈ ys, ∀ c ∈ x.cs, Fits c := fun x hx c hc => by
    rw [hys] at hx
    obtain ⟨y, hy, rfl⟩ := List.mem_map.1 hx
    exact hf y (List.mem_of_mem_take hy) c (List.mem_of_mem_take hc)
  clear hys hf
  go_enter Try.func6, Try.ntmps6
  go_wp2_with fail
  refine (works12_any _).mono ?_
  rintro e w1 ⟨rfl, hb1⟩
  have hsh := hshf w1 (hA.next hb1)
  clear hshf
  go_wp2_with fail
  refine hsh.mono ?_
  rintro e w2 ⟨q1, o1, c1, rfl, hA1, hb2⟩
  have hb12 := below2 hb1 hb2
  clear hsh
  go_wp2
  go_loopw [3, 4, 5] (fun s3 s4 s5 wr => ∃ ss : List IS, s5 = .int .i64 (ss.length : Int) ∧ ss.length ≤ ys.length ∧ Hid (SB w2 wr ys ss s3 s4)) (fun _ _ s5 _ => ys.length - (intOf s5).toNat)
  case atStart => exact ⟨[], rfl, by simp, ⟨by simp, fun y hy => absurd hy (by simp), ⟨rfl, .inl ⟨rfl, rfl⟩⟩, ⟨rfl, .inl ⟨rfl, rfl⟩⟩, fun g hg => (by cases hg), fun g hg => (by cases hg), Below.refl _ _⟩⟩
  case round =>
    obtain ⟨ss, rfl, hil, HR⟩ := hrel
    have hsl := HR.out.len hyl
    have hfll := flat_len ss hsl
    obtain ⟨fl, hfl⟩ : ∃ fl, fl = (ss.map IS.cs).flatten := ⟨_, rfl⟩
    have hal := HR.out.al
    rw [← hfl] at hfll hal
    have HFL : Hid _ := hfl
    have hbel := HR.out.k
    have hszr := hbel.size
    clear hfl
    by_cases hlt : ss.length < ys.length
    · obtain ⟨rfl, hob, hcell⟩ := hA1.at_ (by omega)
      obtain ⟨y, hy⟩ : ∃ y, ys[ss.length]? = some y := ⟨_, List.getElem?_eq_getElem hlt⟩
      have hym := List.mem_of_getElem? hy
      have c0 : wr.cell? ⟨o1, ss.length, none⟩ = some (.slice y.q y.cs.length y.cap) := by rw [hbel.cell (p := ⟨o1, ss.length, none⟩) hob, ← Nat.zero_add ss.length]; exact hcell _ y hy
      have hAy := (hA1.arg y hym).next hbel
      have hsy := hyl y hym
      have hobr : o1 < wr.heap.size := Nat.lt_of_lt_of_le hob hbel.size
      have hiz : (ss.length : Int) < (ys.length : Int) := by omega
      have hso := Sort_any y.q y.b y.off y.cap y.cs wr hAy.at_ (hyf y hym) (by omega)
      have hdl := Nat.le_trans (sort_len y.cs) hsy
      have HY : Hid _ := hy
      clear hcell hy
      go_wp2_with fail
      refine hso.mono ?_
      rintro e w3 ⟨v3, rfl, hown3, hb3⟩
      obtain ⟨p3, g3, c3, rfl, hg3, hA3, hc3⟩ := own_is hown3
      have hal3 := own_cbelow hal hb3
      have hsz3 := hb3.size
      clear hso hown3 hal
      go_wp2_with (at_builtin; refine wpList_app_list rfl _ _ rfl w2.heap.size _ fl rfl hal3 p3 g3 0 c3 (sortL y.cs) rfl hA3 (by omega) (by omega) ?_)
      intro v4 w4 hown4 hgr4 hv4
      have hso4 := HR.out.so2 hb3 hgr4
      have hsz4 := hgr4.size
      have hnews : ∀ j u, [Value.slice p3 (sortL y.cs).length c3][j]? = some u → (w4.alloc (.cells #[.slice p3 (sortL y.cs).length c3] 29)).cell? ((⟨w4.heap.size, 0, none⟩ : Addr).add j) = some u := by
        intro j u hj
        rw [Addr.add_lit]
        match j, hj with
        | 0, hj =>
          cases hj
          exact (mcells (heap_alloc_new w4 _)).1 0
      clear hal3
      go_wp2_with (at_builtin; refine wpList_app rfl _ _ 22 rfl w2.heap.size 29 i0 (.slice none 0 0) 1 24 Try.underlying22 hi0 hz0 hz1 hz2 rfl (by decide) _ _ _ rfl (hso4.alloc _) ⟨w4.heap.size, 0, none⟩ 1 1 [.slice p3 (sortL y.cs).length c3] (by omega) rfl rfl hnews (by intro u hu; simp at hu; subst hu; rfl) (by unfold maxLen; omega) (by omega) (by simp; omega) ?_)
      intro v5 w5 hown5 hgr5 hv5
      rw [HFL.out, ← List.length_append] at hown4
      have HS : Hid _ := HR.out.step (s := ⟨p3, g3, 0, c3, sortL y.cs⟩) HY.out rfl hA3 hc3 hg3 hb3 hown4 hgr4 hv4 hown5 hgr5 hv5
      clear hown4 hown5 hgr4 hgr5 hv4 hv5 hnews c0 hso4 hA3
      go_wp2
      go_roundw
      case rel => exact ⟨ss ++ [⟨p3, g3, 0, c3, sortL y.cs⟩], by simp, by simp; omega, HS⟩
      case measure => simp [intOf]; omega
    · have hie : ss.length = ys.length := by omega
      have hss8 : ss.length ≤ 8 := by omega
      have hsa : ∀ s ∈ ss, Asc s.cs := fun s hs => by
        obtain ⟨y, _, e⟩ := HR.out.mem hs
        rw [e]
        exact (sortL_spec _).asc
      have hsf := HR.out.fit hyf
      have hff : ∀ c ∈ fl, Fits c := fun c hc => by
        rw [HFL.out] at hc
        obtain ⟨l, hl, hcl⟩ := List.mem_flatten.1 hc
        obtain ⟨s, hs, rfl⟩ := List.mem_map.1 hl
        exact hsf s hs c hcl
      have hf100 : fl.length ≤ 1000 := by omega
      obtain ⟨qv, capv, g, rfl, hB, hr⟩ := own_ones HR.out.so (by simp)
      have hOA : OArg wr qv g 0 ss := by
        refine ⟨fun h0 => ?_, fun s hs => (HR.out.arg s hs).1, fun s hs => (HR.out.arg s hs).2⟩
        obtain ⟨e1, e2, e3⟩ := hr (by rw [List.length_map]; exact h0)
        exact ⟨e1, e2, fun k s hs => e3 k s.v (by rw [List.getElem?_map, hs]; rfl)⟩
      have hlm : (ss.map IS.v).length = ss.length := List.length_map _
      rw [hlm]
      obtain ⟨pA, cA, gA, rfl, hBA, hAA, _⟩ := own_arg hal
      have hrow1 := rows_any qv g 0 capv ss wr hOA (by omega) hsf (fun x hx => by have := hsl x hx; omega)
      have hbwr := below2 hb12 hbel
      have hnlt : ¬ ((ss.length : Int) < (ys.length : Int)) := by omega
      have HSL : Hid _ := hsl
      have HYF : Hid _ := hyf
      have hnl := new_len fl
      have hvl := alv_len fl
      have hsol := sort_len fl
      clear hie hlm hr hal HR hsl hyf hyl hA hlt hil hfll
      go_wp2_with fail
      refine hrow1.mono ?_
      rintro e wa hq
      obtain ⟨qa, ca, rfl, HA⟩ := rows_q hq hss8 hsa hsf HFL
      have hall := HA.out
      clear hrow1 hq HA
      go_wp2_with fail
      refine hall.mono ?_
      rintro e wb ⟨vb, F, J, rfl, hT, hJ, hF, hb⟩
      have hlist := list_all hT wb hJ (sortL fl) rfl fl.length hsol (by omega)
      clear hall
      go_wp2_with fail
      refine hlist.mono ?_
      rintro e wc ⟨v1, rfl, hown1, hk⟩
      have hbc := below2' hb hk hF
      have hso := Sort_any pA gA 0 cA fl wc (hAA.next hbc).at_ hff (by omega)
      clear hlist hk
      go_wp2_with fail
      refine hso.mono ?_
      rintro e wd ⟨v2, rfl, hown2, hbd⟩
      have hsame := same_own (own_cbelow hown1 hbd) hown2 (by omega)
      have hbd' := below2 hbc hbd
      clear hso hown1 hown2
      go_wp2_with fail
      refine hsame.mono ?_
      rintro e we ⟨rfl, hbe⟩
      have hbe' := below2 hbd' hbe
      have hOA2 := hOA.next hbe'
      have hAA2 := hAA.next hbe'
      have hbwe := below2 hbwr hbe'
      have hrow1 := rows_any qv g 0 capv ss we hOA2 (by omega) hsf (fun x hx => by have := HSL.out x hx; omega)
      clear hsame hbe hbd' hbd hbc hb hF hT hJ hOA hAA hbe'
      go_wp2_with fail
      refine hrow1.mono ?_
      rintro e xa hq
      obtain ⟨qa, ca, rfl, HA⟩ := rows_q hq hss8 hsa hsf HFL
      have hall := HA.out
      clear hrow1 hq HA
      go_wp2_with fail
      refine hall.mono ?_
      rintro e xb ⟨vb, F, J, rfl, hT, hJ, hF, hb⟩
      have hnew := newest_rv (Or.inr ⟨_, _, rfl, hT⟩) xb hJ
      clear hall
      go_wp2_with fail
      refine hnew.mono ?_
      rintro e xn ⟨cn, F2, J2, rfl, hT2, hJ2, hF2, hbn, _⟩
      have hF2' : ∀ i, F2 i → we.heap.size ≤ i := fun i hi => by
        rcases hF2 i hi with k | k
        · exact hF i k
        · have := hb.size; omega
      have hb' := below2 hb hbn
      rw [new_of] at hT2
      have hlist := list_all hT2 xn hJ2 (newL fl) rfl fl.length hnl (by omega)
      clear hnew
      go_wp2_with fail
      refine hlist.mono ?_
      rintro e xc ⟨v1, rfl, hown1, hk⟩
      have hbc := below2' hb' hk hF2'
      have hso := Newest_any pA gA 0 cA fl xc (hAA2.next hbc).at_ hff (by omega)
      clear hlist hk
      go_wp2_with fail
      refine hso.mono ?_
      rintro e xd ⟨v2, rfl, hown2, hbd⟩
      have hsame := same_own (own_cbelow hown1 hbd) hown2 (by omega)
      have hbd' := below2 hbc hbd
      clear hso hown1 hown2
      go_wp2_with fail
      refine hsame.mono ?_
      rintro e xe ⟨rfl, hbe⟩
      have hbe' := below2 hbd' hbe
      have hOA3 := hOA2.next hbe'
      have hAA3 := hAA2.next hbe'
      have hbwx := below2 hbwe hbe'
      have hrow1 := rows_any qv g 0 capv ss xe hOA3 (by omega) hsf (fun x hx => by have := HSL.out x hx; omega)
      clear hsame hbe hbd' hbd hbc hb hb' hF hF2 hF2' hT hJ hT2 hJ2 hOA2 hAA2 hbe'
      go_wp2_with fail
      refine hrow1.mono ?_
      rintro e ya hq
      obtain ⟨qa, ca, rfl, HA⟩ := rows_q hq hss8 hsa hsf HFL
      have hall := HA.out
      clear hrow1 hq HA
      go_wp2_with fail
      refine hall.mono ?_
      rintro e yb ⟨vb, F, J, rfl, hT, hJ, hF, hb⟩
      have hnew := alive_rv (Or.inr ⟨_, _, rfl, hT⟩) yb hJ
      clear hall
      go_wp2_with fail
      refine hnew.mono ?_
      rintro e yn ⟨cn, F2, J2, rfl, hT2, hJ2, hF2, hbn⟩
      have hF2' : ∀ i, F2 i → xe.heap.size ≤ i := fun i hi => by
        rcases hF2 i hi with k | k
        · exact hF i k
        · have := hb.size; omega
      have hb' := below2 hb hbn
      rw [alv_of] at hT2
      have hlist := list_all hT2 yn hJ2 (aliveL fl) rfl fl.length hvl (by omega)
      clear hnew
      go_wp2_with fail
      refine hlist.mono ?_
      rintro e yc ⟨v1, rfl, hown1, hk⟩
      have hbc := below2' hb' hk hF2'
      have hso := Alive_any pA gA 0 cA fl yc (hAA3.next hbc) hff (by omega)
      clear hlist hk
      go_wp2_with fail
      refine hso.mono ?_
      rintro e yd ⟨p2, c2, g2, rfl, _, hr2, _, hbd⟩
      have hsame := same_own2 (own_cbelow hown1 hbd) p2 g2 c2 hr2 (by omega)
      have hbd' := below2 hbc hbd
      clear hso hown1 hr2
      go_wp2_with fail
      refine hsame.mono ?_
      rintro e ye ⟨rfl, hbe⟩
      have hfin := below2 hbwx (below2 hbd' hbe)
      clear hsame
      go_wp2
      go_ret
      exact ⟨rfl, hfin⟩

end Go.Proofs.Ytnpjbdbhjbccbaa
