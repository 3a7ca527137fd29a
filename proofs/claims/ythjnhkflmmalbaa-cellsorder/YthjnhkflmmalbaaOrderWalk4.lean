/-
  The walk of the law CellsOrder.
-/
import Derived.Test.YthjnhkflmmalbaaCOwn
namespace Go.Proofs.Ythjnhkflmmalbaa
open Go.RowKit Go.BigFrame Go.Sort
attribute [local go_sem] size_bstr toList_bstr ls_def
attribute [local go_sem high] cell_eql5 cell_neq5 cell_guard

theorem any_take {α : Type} (f : α → Bool) {l : List α} {k : Nat} (h : k < l.length) : (l.take (k + 1)).any f = ((l.take k).any f || f l[k]) := by
  rw [List.take_succ_eq_append_getElem h, List.any_append]
  simp
theorem asc_find {ss : List Cl} (h : Asc ss) {s : Cl} (hs : s ∈ ss) : ss.find? (fun x => decide (ccl x s = 0)) = some s := by
  cases hq : ss.find? (fun x => decide (ccl x s = 0)) with
  | none =>
    rw [List.find?_eq_none] at hq
    have := hq s hs
    rw [ccl_self] at this
    simp at this
  | some t =>
    have ht := List.mem_of_find?_eq_some hq
    have he : ccl t s = 0 := by simpa using List.find?_some hq
    obtain ⟨i, hi, rfl⟩ := List.getElem_of_mem ht
    obtain ⟨j, hj, rfl⟩ := List.getElem_of_mem hs
    rcases Nat.lt_trichotomy i j with k | k | k
    · have := List.pairwise_iff_getElem.1 h i j hi hj k
      omega
    · subst k
      rfl
    · have := List.pairwise_iff_getElem.1 h j i hj hi k
      have := ccl_sym he
      omega
theorem sortL_again {ss : List Cl} (h : Asc ss) : sortL ss = ss :=
  SortSpec.one (sortL_spec ss) ⟨h, fun _ hs => asc_find h hs, fun x hx => ⟨x, hx, ccl_self x⟩⟩

theorem ins_length : ∀ (l : List Cl) (c : Cl), (ins l c).length ≤ l.length + 1
  | [], c => by simp [ins]
  | x :: xs, c => by
    have := ins_length xs c
    rw [ins]
    split
    · simp only [List.length_cons]; omega
    · split <;> simp
theorem sortL_length (l : List Cl) : (sortL l).length ≤ l.length := by
  have : ∀ (l acc : List Cl), (l.foldl ins acc).length ≤ acc.length + l.length := by
    intro l
    induction l with
    | nil => intro acc; simp
    | cons c l ih =>
      intro acc
      have h1 := ih (ins acc c)
      have h2 := ins_length acc c
      simp only [List.foldl_cons, List.length_cons]
      omega
  have h := this l []
  simp only [List.length_nil, Nat.zero_add] at h
  exact h

set_option maxHeartbeats 4000000 in
set_option maxRecDepth 100000 in
theorem corder_walk (q : Option Addr) (b off cap : Nat) (cs : List Cl) (w : World) (hq : 0 < cs.length → q = some ⟨b, off, none⟩ ∧ CRow w b off cs ∧ b < w.heap.size) (hf : ∀ c ∈ cs, Fits c) (hn : cs.length * 64 ≤ 140737488351232) (hcap : cs.length ≤ cap) :
    Calls Try.prog 5 #[.slice q cs.length cap] w fun e w' => e = .returned (.bool true) ∧ RowKit.Below w.heap.size w w' := by
  have hdl : (cs.take 300).length = min cs.length 300 := by rw [List.length_take, Nat.min_comm]
  have hmin : (min (cs.length : Int) 300).toNat = (cs.take 300).length := by omega
  have hd300 : (cs.take 300).length ≤ 300 := by omega
  have hqd : 0 < (cs.take 300).length → q = some ⟨b, off, none⟩ ∧ CRow w b off (cs.take 300) ∧ b < w.heap.size := fun h => ⟨(hq (by omega)).1, (hq (by omega)).2.1.take 300, (hq (by omega)).2.2⟩
  have hfd : ∀ c ∈ cs.take 300, Fits c := fun c hc => hf c (List.mem_of_mem_take hc)
  have HM : Hid _ := hmin
  clear hmin hdl
  go_enter Try.func5, Try.ntmps5
  go_wp2_with fail
  refine (works_any _).mono ?_
  rintro e w1 ⟨rfl, hb1⟩
  go_wp2_with fail
  rw [HM.out]
  generalize cs.take 300 = ds at *
  have hq1 := hq_step hqd hb1 (fun h => (hqd h).2.2)
  refine (Sort_any q b off cap ds w1 hq1 hfd (by omega)).mono ?_
  rintro e w2 ⟨v2, rfl, hown, hb2⟩
  have hS := sortL_spec ds
  have hsl := sortL_length ds
  generalize sortL ds = ss at *
  have hq2 := hq_step hq1 hb2 (fun h => (hq1 h).2.2)
  replace hb2 := below2 hb1 hb2
  obtain ⟨p2, c2, g2, rfl, hcm2, hg2, hr2, _⟩ := own_get hown
  have HS : Hid _ := hS
  clear hown hq1 hb1 hS hq hqd hf
  go_wp2
  go_loopw [4] (fun s4 wr => ∃ i : Nat, s4 = .int .i64 (i : Int) ∧ i ≤ ss.length ∧ RowKit.Below w2.heap.size w2 wr) (fun s4 _ => ss.length - (intOf s4).toNat)
  case atStart => exact ⟨0, rfl, by omega, RowKit.Below.refl _ _⟩
  case round =>
    obtain ⟨i, rfl, hil, hbel⟩ := hrel
    by_cases hlt : i < ss.length
    · obtain ⟨rfl, hRs, hgs⟩ := hr2 (by omega)
      obtain ⟨rfl, hRd, hbd⟩ := hq2 (by omega)
      have hiz : (i : Int) < (ss.length : Int) := by omega
      go_wp2
      go_loopw [5, 6] (fun s5 s6 wr => ∃ k : Nat, ∃ t : Bool, s6 = .int .i64 (k : Int) ∧ s5 = .bool t ∧ k ≤ ds.length ∧ Hid (t = (ds.take k).any fun c => eqC c ss[i]) ∧ RowKit.Below w2.heap.size w2 wr) (fun _ s6 _ => ds.length - (intOf s6).toNat)
      case atStart => exact ⟨0, false, rfl, rfl, by omega, by show _ = _; rfl, hbel⟩
      case round =>
        obtain ⟨k, t, rfl, rfl, hkl, HT, hbel2⟩ := hrel
        have hAs := (hRs i hlt).step hbel2 hgs
        rw [Nat.zero_add] at hAs
        by_cases hkt : k < ds.length
        · have hAd := (hRd k hkt).step hbel2 hbd
          have HT2 : Hid ((t || eqC ds[k] ss[i]) = (ds.take (k + 1)).any fun c => eqC c ss[i]) := by show _ = _; rw [any_take _ hkt, HT.out]
          have hkz : (k : Int) < (ds.length : Int) := by omega
          clear HT
          generalize ds[k] = c at *
          generalize heq : eqC c ss[i] = eq at *
          generalize ss[i] = d at *
          obtain ⟨r, kk, v, z, x⟩ := c
          obtain ⟨r', kk', v', z', x'⟩ := d
          obtain ⟨c0, c1, c2, c3, c4⟩ := hAd
          obtain ⟨d0, d1, d2, d3, d4⟩ := hAs
          simp only at c0 c1 c2 c3 c4 d0 d1 d2 d3 d4
          cases t with
          | true =>
            go_wp2_with fail
            go_quiet (fail)
            have hbe := below_drewN hbel2 nq
            clear c0 c1 c2 c3 c4 d0 d1 d2 d3 d4
            go_wp2
            go_roundw
            case rel => exact ⟨k + 1, true, by go_num, rfl, by omega, by rw [Bool.true_or] at HT2; exact HT2, hbe⟩
            case measure => simp [intOf]; omega
          | false =>
            go_wp2_with fail
            go_quiet (fail)
            have hbe := below_drewN hbel2 nq
            clear c0 c1 c2 c3 c4 d0 d1 d2 d3 d4
            go_wp2
            go_roundw
            case rel => exact ⟨k + 1, eq, by go_num, rfl, by omega, by rw [Bool.false_or] at HT2; exact HT2, hbe⟩
            case measure => simp [intOf]; omega
        · have hke : k = ds.length := by omega
          subst hke
          have ht : t = true := by
            rw [HT.out, List.take_length, List.any_eq_true]
            exact ⟨ss[i], HS.out.sub _ (List.getElem_mem hlt), eqC_self _⟩
          clear HT
          subst ht
          rcases Nat.eq_zero_or_pos i with hi0 | hi0
          · have hpos : decide ((0 : Int) < (i : Int)) = false := by rw [decide_eq_false_iff_not]; omega
            clear hAs
            go_wp2_with fail
            go_quiet (fail)
            have hbe := below_drewN hbel2 nq
            go_wp2
            go_roundw
            case rel => exact ⟨i + 1, by go_num, by omega, hbe⟩
            case measure => simp [intOf]; omega
          · obtain ⟨m, hi0⟩ : ∃ m, i = m + 1 := ⟨i - 1, by omega⟩
            have hAm := (hRs m (by omega)).step hbel2 hgs
            rw [Nat.zero_add] at hAm
            have hneg : ccl ss[m] ss[i] < 0 := List.pairwise_iff_getElem.1 HS.out.asc m i (by omega) hlt (by omega)
            have hcon := fun W => Cmp_any ss[m].row ss[m].col ss[m].ver ss[m].gone ss[m].val ss[i].row ss[i].col ss[i].ver ss[i].gone ss[i].val W
            have hneg2 : cc ss[m].row ss[m].col ss[m].ver ss[i].row ss[i].col ss[i].ver < 0 := hneg
            generalize cc ss[m].row ss[m].col ss[m].ver ss[i].row ss[i].col ss[i].ver = cv at *
            have hge : decide ((0 : Int) ≤ cv) = false := by rw [decide_eq_false_iff_not]; omega
            have hpos : decide ((0 : Int) < (i : Int)) = true := by rw [decide_eq_true_eq]; omega
            have hsub : (i : Int) - 1 = (m : Int) := by omega
            have hmz : (m : Int) < (ss.length : Int) := by omega
            clear hneg hneg2
            generalize ss[m] = c at *
            generalize ss[i] = d at *
            obtain ⟨r, kk, v, z, x⟩ := c
            obtain ⟨r', kk', v', z', x'⟩ := d
            simp only at hcon
            obtain ⟨c0, c1, c2, c3, c4⟩ := hAm
            obtain ⟨d0, d1, d2, d3, d4⟩ := hAs
            simp only at c0 c1 c2 c3 c4 d0 d1 d2 d3 d4
            have qc0 := fun d os => cell_regrown c0 d os
            have qc1 := fun d os => cell_regrown c1 d os
            have qc2 := fun d os => cell_regrown c2 d os
            have qc3 := fun d os => cell_regrown c3 d os
            have qc4 := fun d os => cell_regrown c4 d os
            have qy0 := fun d os => cell_regrown d0 d os
            have qy1 := fun d os => cell_regrown d1 d os
            have qy2 := fun d os => cell_regrown d2 d os
            have qy3 := fun d os => cell_regrown d3 d os
            have qy4 := fun d os => cell_regrown d4 d os
            have HI0 : Hid _ := hi0
            clear hi0
            go_wp2_with fail
            refine wp_region_quiet_below (by kernel_rfl) (by kernel_rfl) ?_
            repeat (go_big_quiet_step (first | (go_at_call 20; with_reducible exact Calls.regrown_of (hcon _))))
            refine wpQuiet_nil ?_
            intro _ hw'
            obtain ⟨⟨dq, osq⟩, hw''⟩ := hw'
            subst hw''
            have hbe := below2 hbel2 (below_regrown _ dq osq)
            clear c0 c1 c2 c3 c4 d0 d1 d2 d3 d4 qc0 qc1 qc2 qc3 qc4 qy0 qy1 qy2 qy3 qy4 hcon
            generalize grow (redrawn _ dq) osq = wq at *
            go_wp2
            go_roundw
            case rel => exact ⟨i + 1, by go_num, by omega, hbe⟩
            case measure => simp [intOf]; omega
    · have hie : i = ss.length := by omega
      subst hie
      go_wp2
      go_loopw [7] (fun s7 wr => ∃ k : Nat, s7 = .int .i64 (k : Int) ∧ k ≤ ds.length ∧ RowKit.Below w2.heap.size w2 wr) (fun s7 _ => ds.length - (intOf s7).toNat)
      case atStart => exact ⟨0, rfl, by omega, hbel⟩
      case round =>
        obtain ⟨k, rfl, hkl, hbel2⟩ := hrel
        clear hbel
        by_cases hkt : k < ds.length
        · obtain ⟨rfl, hRd, hbd⟩ := hq2 (by omega)
          have hkz : (k : Int) < (ds.length : Int) := by omega
          go_wp2
          go_loopw [8, 9] (fun s8 s9 wr => ∃ i : Nat, ∃ t : Bool, s9 = .int .i64 (i : Int) ∧ s8 = .bool t ∧ i ≤ ss.length ∧ Hid (t = (ss.take i).any fun c => ccl ds[k] c == 0) ∧ RowKit.Below w2.heap.size w2 wr) (fun _ s9 _ => ss.length - (intOf s9).toNat)
          case atStart => exact ⟨0, false, rfl, rfl, by omega, by show _ = _; rfl, hbel2⟩
          case round =>
            obtain ⟨i, t, rfl, rfl, hil2, HT, hbel3⟩ := hrel
            clear hbel2
            by_cases hit : i < ss.length
            · obtain ⟨rfl, hRs, hgs⟩ := hr2 (by omega)
              have hiz : (i : Int) < (ss.length : Int) := by omega
              have hAd := (hRd k hkt).step hbel3 hbd
              have hAs := (hRs i hit).step hbel3 hgs
              rw [Nat.zero_add] at hAs
              have HT2 : Hid ((t || ccl ds[k] ss[i] == 0) = (ss.take (i + 1)).any fun c => ccl ds[k] c == 0) := by show _ = _; rw [any_take _ hit, HT.out]
              have hcon := fun W => Cmp_any ds[k].row ds[k].col ds[k].ver ds[k].gone ds[k].val ss[i].row ss[i].col ss[i].ver ss[i].gone ss[i].val W
              have hcv : ccl ds[k] ss[i] = cc ds[k].row ds[k].col ds[k].ver ss[i].row ss[i].col ss[i].ver := rfl
              rw [← hcv] at hcon
              clear HT hcv
              generalize ccl ds[k] ss[i] = cv at *
              cases t with
              | true =>
                clear hcon hAd hAs
                go_wp2_with fail
                go_quiet (fail)
                have hbe := below_drewN hbel3 nq
                go_wp2
                go_roundw
                case rel => exact ⟨i + 1, true, by go_num, rfl, by omega, by rw [Bool.true_or] at HT2; exact HT2, hbe⟩
                case measure => simp [intOf]; omega
              | false =>
                have HT3 : Hid _ := HT2.out
                clear HT2
                rw [Bool.false_or] at HT3
                obtain ⟨c0, c1, c2, c3, c4⟩ := hAd
                obtain ⟨d0, d1, d2, d3, d4⟩ := hAs
                have qc0 := fun d os => cell_regrown c0 d os
                have qc1 := fun d os => cell_regrown c1 d os
                have qc2 := fun d os => cell_regrown c2 d os
                have qc3 := fun d os => cell_regrown c3 d os
                have qc4 := fun d os => cell_regrown c4 d os
                have qy0 := fun d os => cell_regrown d0 d os
                have qy1 := fun d os => cell_regrown d1 d os
                have qy2 := fun d os => cell_regrown d2 d os
                have qy3 := fun d os => cell_regrown d3 d os
                have qy4 := fun d os => cell_regrown d4 d os
                go_wp2_with fail
                refine wp_region_quiet_below (by kernel_rfl) (by kernel_rfl) ?_
                repeat (go_big_quiet_step (first | (go_at_call 20; with_reducible exact Calls.regrown_of (hcon _))))
                refine wpQuiet_nil ?_
                intro _ hw'
                obtain ⟨⟨dq, osq⟩, hw''⟩ := hw'
                subst hw''
                have hbe := below2 hbel3 (below_regrown _ dq osq)
                clear c0 c1 c2 c3 c4 d0 d1 d2 d3 d4 qc0 qc1 qc2 qc3 qc4 qy0 qy1 qy2 qy3 qy4 hcon
                generalize grow (redrawn _ dq) osq = wq at *
                go_wp2
                go_roundw
                case rel => exact ⟨i + 1, cv == 0, by go_num, rfl, by omega, HT3, hbe⟩
                case measure => simp [intOf]; omega
            · have hie : i = ss.length := by omega
              subst hie
              have ht : t = true := by
                rw [HT.out, List.take_length, List.any_eq_true]
                obtain ⟨s, hs, he⟩ := HS.out.all ds[k] (List.getElem_mem hkt)
                exact ⟨s, hs, by simpa using he⟩
              clear HT
              subst ht
              go_wp2
              go_roundw
              case rel => exact ⟨k + 1, by go_num, by omega, hbel3⟩
              case measure => simp [intOf]; omega
        · have hke : k = ds.length := by omega
          subst hke
          have hr3 := hq_step hr2 hbel2 (fun h => (hr2 h).2.2)
          have hfs : ∀ c ∈ ss, Fits c := fun c hc => hfd c (HS.out.sub c hc)
          have hbe := below2 hb2 hbel2
          clear hr2 hq2 hbel2 hb2
          go_wp2_with fail
          refine (Sort_any p2 g2 0 c2 ss _ hr3 hfs (by omega)).mono ?_
          rintro e w5 ⟨v5, rfl, hown5, hb5⟩
          rw [sortL_again HS.out.asc] at hown5
          have hr5 := hq_step hr3 hb5 (fun h => (hr3 h).2.2)
          replace hb5 := below2 hbe hb5
          obtain ⟨p5, c5, g5, rfl, _, _, hs5, _⟩ := own_get hown5
          clear hown5 hr3 hbe
          go_wp2_with fail
          refine (same_any p5 p2 g5 0 c5 g2 0 c2 ss w5 (hq_two hs5) (hq_two hr5) (by omega)).mono ?_
          rintro e w6 ⟨rfl, hb6⟩
          replace hb6 := below2 hb5 hb6
          clear hs5 hr5 hb5
          go_wp2
          go_ret
          exact ⟨rfl, hb6⟩

end Go.Proofs.Ythjnhkflmmalbaa
