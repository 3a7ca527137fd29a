/-
  The document's answers for merge: Newest, Alive; lists held against one another.
-/
import Derived.Test.YtnpjbdbhjbccbaaMWks
import Derived.Test.YtnpjbdbhjbccbaaCAlive
namespace Go.Proofs.Ytnpjbdbhjbccbaa
open Go.RowKit Go.BigFrame Go.Sort
attribute [local go_sem] size_bstr toList_bstr ls_def

set_option maxHeartbeats 4000000 in
set_option maxRecDepth 100000 in
theorem R12Newest_any (q : Option Addr) (b off cap : Nat) (cs : List Cl) (w : World) (hA : Arg w q b off cap cs) (hn : cs.length ≤ 100000) :
    Calls Try.prog 17 #[.slice q cs.length cap] w fun e w' => ∃ v, e = .returned v ∧ w'.ownsRow w.heap.size 39 5 v (ddl plc cs).length (ccells (ddl plc cs)) ∧ RowKit.Below w.heap.size w w' := by
  obtain ⟨i0, hi0, hz0, hz1, hz2⟩ := info_parts Try.infoCell
  go_enter Try.func17, Try.ntmps17
  go_wp2
  go_loopw [3, 4] (fun s3 s4 wr => ∃ i : Nat, s4 = .int .i64 (i : Int) ∧ i ≤ cs.length ∧ wr.ownsRow w.heap.size 39 5 s3 (ddl plc (cs.take i)).length (ccells (ddl plc (cs.take i))) ∧ RowKit.Below w.heap.size w wr) (fun _ s4 _ => cs.length - (intOf s4).toNat)
  case atStart => exact ⟨0, rfl, by omega, ⟨rfl, .inl ⟨rfl, rfl⟩⟩, RowKit.Below.refl _ _⟩
  case round =>
    obtain ⟨i, rfl, hil, hown, hbel⟩ := hrel
    by_cases hlt : i < cs.length
    · obtain ⟨rfl, hR, hgs⟩ := hA.at_ (by omega)
      have hiz : (i : Int) < (cs.length : Int) := by omega
      have hlen := new_take_len cs i
      rcases Nat.eq_zero_or_pos i with h0 | h0
      · subst h0
        have HM : Hid (ddl plc (cs.take (0 + 1)) = ddl plc (cs.take 0) ++ [cs[0]]) := new_zero hlt
        have hx := (hR 0 hlt).step hbel hgs
        go_wp2_with fail
        go_quiet (fail)
        have hbq := below_drewN hbel nq
        have hownq : (wr.drewN nq).ownsRow w.heap.size 39 5 u3 (ddl plc (cs.take 0)).length (ccells (ddl plc (cs.take 0))) := hown
        have hxq : At5 (wr.drewN nq) b (off + 0 * 5) cs[0] := ⟨hx.c0, hx.c1, hx.c2, hx.c3, hx.c4⟩
        clear hown hbel hx
        generalize wr.drewN nq = wq at *
        obtain ⟨x0, x1, x2, x3, x4⟩ := hxq
        simp only [Nat.zero_mul, Nat.add_zero] at x0 x1 x2 x3 x4
        go_wp2_with (at_builtin; refine wpList_append_own _ rfl _ _ 29 rfl w.heap.size 39 i0 (.agg #[.string ⟨#[]⟩, .string ⟨#[]⟩, .int .u64 0, .bool false, .string ⟨#[]⟩]) 5 64 Try.underlying29 hi0 hz0 hz1 hz2 rfl (by decide) _ _ _ rfl (hownq.alloc _) ⟨wq.heap.size, 0, none⟩ 1 1 (encC cs[0]) rfl rfl (cell_news wq cs[0] 39) (encC_one _) (by unfold maxLen; omega) (by omega) (by have := hbq.size; simp; omega) ?_)
        intro v' w3 hown3 hgrow _
        have hbw3 : RowKit.Below w.heap.size w w3 := (hbq.alloc hbq.size _).grown hgrow (by have := hbq.size; simp; omega) (fun k hk => (hownq.lt k hk).1)
        have hown4 : w3.ownsRow w.heap.size 39 5 v' (ddl plc (cs.take (0 + 1))).length (ccells (ddl plc (cs.take (0 + 1)))) := by
          rw [HM.out, List.length_append, ccells_append]
          exact hown3
        clear hownq hown3 hgrow x0 x1 x2 x3 x4
        go_wp2
        go_roundw
        case rel => exact ⟨0 + 1, by go_num, by omega, hown4, hbw3⟩
        case measure => simp [intOf]; omega
      · obtain ⟨m, hm⟩ : ∃ m, i = m + 1 := ⟨i - 1, by omega⟩
        have hml : m < cs.length := by omega
        have hnx : ddl plc (cs.take (i + 1)) = if plc cs[m] cs[i] = true then ddl plc (cs.take i) else ddl plc (cs.take i) ++ [cs[i]] := by
          subst hm
          exact new_next hlt
        have hmz : (m : Int) < (cs.length : Int) := by omega
        have hsub : (i : Int) - 1 = (m : Int) := by omega
        have hi00 : ((i : Int) == 0) = false := by simp; omega
        obtain ⟨c0, c1, c2, c3, c4⟩ := (hR m hml).step hbel hgs
        obtain ⟨d0, d1, d2, d3, d4⟩ := (hR i hlt).step hbel hgs
        have hcon := fun W => Place_any cs[m] cs[i] W
        have HN : Hid _ := hm
        clear hm
        cases hp : plc cs[m] cs[i] with
        | true =>
          rw [hp, if_pos rfl] at hnx
          rw [hp] at hcon
          have HM : Hid _ := hnx
          clear hnx hp
          have qc0 := fun d os => cell_regrown c0 d os
          have qc1 := fun d os => cell_regrown c1 d os
          have qc2 := fun d os => cell_regrown c2 d os
          have qc3 := fun d os => cell_regrown c3 d os
          have qc4 := fun d os => cell_regrown c4 d os
          have qy0 := fun d os => cell_regrown d0 d os
          have qy1 := fun d os => cell_regrown d1 d os
          have qy2 := fun d os => cell_regrown d2 d os
          have qy3 := fun d os => cell_regrown d3 d os
          have qy4 := fun d os => cell_regrown d4 d os
          go_wp2_with fail
          refine wp_region_quiet_below (by kernel_rfl) (by kernel_rfl) ?_
          repeat (go_big_quiet_step (first | (go_at_call 44; with_reducible exact Calls.regrown_of (hcon _))))
          refine wpQuiet_nil ?_
          intro _ hw'
          obtain ⟨⟨dq, osq⟩, hw''⟩ := hw'
          subst hw''
          have hbq := below2 hbel (below_regrown _ dq osq)
          have hownq := own_cbelow hown (below_regrown _ dq osq)
          clear hbel c0 c1 c2 c3 c4 qc0 qc1 qc2 qc3 qc4 hcon qy0 qy1 qy2 qy3 qy4 d0 d1 d2 d3 d4
          generalize grow (redrawn _ dq) osq = wq at *
          go_wp2
          go_roundw
          case rel => exact ⟨i + 1, by go_num, by omega, by rw [HM.out]; exact hownq, hbq⟩
          case measure => simp [intOf]; omega
        | false =>
          rw [hp, if_neg (by simp)] at hnx
          rw [hp] at hcon
          have HM : Hid _ := hnx
          clear hnx hp
          have qc0 := fun d os => cell_regrown c0 d os
          have qc1 := fun d os => cell_regrown c1 d os
          have qc2 := fun d os => cell_regrown c2 d os
          have qc3 := fun d os => cell_regrown c3 d os
          have qc4 := fun d os => cell_regrown c4 d os
          have qy0 := fun d os => cell_regrown d0 d os
          have qy1 := fun d os => cell_regrown d1 d os
          have qy2 := fun d os => cell_regrown d2 d os
          have qy3 := fun d os => cell_regrown d3 d os
          have qy4 := fun d os => cell_regrown d4 d os
          go_wp2_with fail
          refine wp_region_quiet_below (by kernel_rfl) (by kernel_rfl) ?_
          repeat (go_big_quiet_step (first | (go_at_call 44; with_reducible exact Calls.regrown_of (hcon _))))
          refine wpQuiet_nil ?_
          intro _ hw'
          obtain ⟨⟨dq, osq⟩, hw''⟩ := hw'
          subst hw''
          have hbq := below2 hbel (below_regrown _ dq osq)
          have hownq := own_cbelow hown (below_regrown _ dq osq)
          clear hbel c0 c1 c2 c3 c4 qc0 qc1 qc2 qc3 qc4 hcon qy0 qy1 qy2 qy3 qy4 d0 d1 d2 d3 d4
          generalize grow (redrawn _ dq) osq = wq at *
          obtain ⟨x0, x1, x2, x3, x4⟩ := (hR i hlt).step hbq hgs
          go_wp2_with (at_builtin; refine wpList_append_own _ rfl _ _ 29 rfl w.heap.size 39 i0 (.agg #[.string ⟨#[]⟩, .string ⟨#[]⟩, .int .u64 0, .bool false, .string ⟨#[]⟩]) 5 64 Try.underlying29 hi0 hz0 hz1 hz2 rfl (by decide) _ _ _ rfl (hownq.alloc _) ⟨wq.heap.size, 0, none⟩ 1 1 (encC cs[i]) rfl rfl (cell_news wq cs[i] 39) (encC_one _) (by unfold maxLen; omega) (by omega) (by have := hbq.size; simp; omega) ?_)
          intro v' w3 hown3 hgrow _
          have hbw3 : RowKit.Below w.heap.size w w3 := (hbq.alloc hbq.size _).grown hgrow (by have := hbq.size; simp; omega) (fun k hk => (hownq.lt k hk).1)
          have hown4 : w3.ownsRow w.heap.size 39 5 v' (ddl plc (cs.take (i + 1))).length (ccells (ddl plc (cs.take (i + 1)))) := by
            rw [HM.out, List.length_append, ccells_append]
            exact hown3
          clear hownq hown3 hgrow x0 x1 x2 x3 x4
          go_wp2
          go_roundw
          case rel => exact ⟨i + 1, by go_num, by omega, hown4, hbw3⟩
          case measure => simp [intOf]; omega
    · have hie : i = cs.length := by omega
      subst hie
      rw [List.take_length] at hown
      go_wp2
      go_ret
      exact ⟨_, rfl, hown, hbel⟩

set_option maxHeartbeats 4000000 in
set_option maxRecDepth 100000 in
theorem R12Alive_any (q : Option Addr) (b off cap : Nat) (cs : List Cl) (w : World) (hA : Arg w q b off cap cs) (hn : cs.length ≤ 100000) :
    Calls Try.prog 19 #[.slice q cs.length cap] w fun e w' => ∃ v, e = .returned v ∧ w'.ownsRow w.heap.size 39 5 v (alvL (ddl plc cs)).length (ccells (alvL (ddl plc cs))) ∧ RowKit.Below w.heap.size w w' := by
  obtain ⟨i0, hi0, hz0, hz1, hz2⟩ := info_parts Try.infoCell
  have hsl : (ddl plc cs).length ≤ 100000 := Nat.le_trans (ddl_length _ _) hn
  have hcon0 := R12Newest_any q b off cap cs w hA hn
  unfold alvL ngB
  generalize ddl plc cs = ss at *
  go_enter Try.func19, Try.ntmps19
  go_wp2_with fail
  refine hcon0.mono ?_
  rintro e w1 ⟨v1, rfl, hown1, hb1⟩
  obtain ⟨p, c, g, rfl, hB, hAs, _⟩ := own_arg hown1
  clear hown1 hA hcon0
  go_wp2
  go_loopw [3, 5] (fun s3 s5 wr => ∃ i : Nat, s5 = .int .i64 (i : Int) ∧ i ≤ ss.length ∧ wr.ownsRow w1.heap.size 39 5 s3 ((ss.take i).filter fun c => !c.gone).length (ccells ((ss.take i).filter fun c => !c.gone)) ∧ RowKit.Below w1.heap.size w1 wr) (fun _ s5 _ => ss.length - (intOf s5).toNat)
  case atStart => exact ⟨0, rfl, by omega, ⟨rfl, .inl ⟨rfl, rfl⟩⟩, RowKit.Below.refl _ _⟩
  case round =>
    obtain ⟨i, rfl, hil, hown, hbel⟩ := hrel
    by_cases hlt : i < ss.length
    · obtain ⟨rfl, hR, hgs⟩ := hAs.at_ (by omega)
      have hiz : (i : Int) < (ss.length : Int) := by omega
      have hlen := filter_len (fun c : Cl => !c.gone) ss i
      obtain ⟨x0, x1, x2, x3, x4⟩ := (hR i hlt).step hbel hgs
      rw [Nat.zero_add] at x0 x1 x2 x3 x4
      obtain ⟨wq, hwq⟩ : ∃ x, x = wr := ⟨_, rfl⟩
      subst hwq
      have hbq := hbel
      have hownq := hown
      clear hbel hown
      cases hg : ss[i].gone with
      | true =>
        have HM : Hid _ := filter_no (fun c : Cl => !c.gone) hlt (by simp [hg])
        rw [hg] at x3
        go_wp2
        go_roundw
        case rel => exact ⟨i + 1, by go_num, by omega, by rw [HM.out]; exact hownq, hbq⟩
        case measure => simp [intOf]; omega
      | false =>
        have HM : Hid _ := filter_yes (fun c : Cl => !c.gone) hlt (by simp [hg])
        generalize ss[i] = el at *
        obtain ⟨r, kk, v, z, x⟩ := el
        simp only at hg x0 x1 x2 x3 x4
        subst hg
        go_wp2_with (at_builtin; refine wpList_append_own _ rfl _ _ 29 rfl w1.heap.size 39 i0 (.agg #[.string ⟨#[]⟩, .string ⟨#[]⟩, .int .u64 0, .bool false, .string ⟨#[]⟩]) 5 64 Try.underlying29 hi0 hz0 hz1 hz2 rfl (by decide) _ _ _ rfl (hownq.alloc _) ⟨wq.heap.size, 0, none⟩ 1 1 (encC ⟨r, kk, v, false, x⟩) rfl rfl (cell_news wq ⟨r, kk, v, false, x⟩ 39) (encC_one _) (by unfold maxLen; omega) (by omega) (by have := hbq.size; simp; omega) ?_)
        intro v' w3 hown3 hgrow _
        have hbw3 : RowKit.Below w1.heap.size w1 w3 := (hbq.alloc hbq.size _).grown hgrow (by have := hbq.size; simp; omega) (fun k hk => (hownq.lt k hk).1)
        have hown4 : w3.ownsRow w1.heap.size 39 5 v' ((ss.take (i + 1)).filter fun c => !c.gone).length (ccells ((ss.take (i + 1)).filter fun c => !c.gone)) := by
          rw [HM.out, List.length_append, ccells_append]
          exact hown3
        clear hownq hown3 hgrow x0 x1 x2 x3 x4
        go_wp2
        go_roundw
        case rel => exact ⟨i + 1, by go_num, by omega, hown4, hbw3⟩
        case measure => simp [intOf]; omega
    · have hie : i = ss.length := by omega
      subst hie
      rw [List.take_length] at hown
      have hw1 := hb1.size
      go_wp2
      go_ret
      exact ⟨_, rfl, own_mono hown (by omega), below2 hb1 hbel⟩

set_option maxHeartbeats 2000000 in
set_option maxRecDepth 100000 in
theorem Same4_yes (q q' : Option Addr) (b off cap b' off' cap' : Nat) (cs : List Cl) (w : World) (h1 : 0 < cs.length → q = some ⟨b, off, none⟩ ∧ CRow w b off cs) (h2 : 0 < cs.length → q' = some ⟨b', off', none⟩ ∧ CRow w b' off' cs) (hn : cs.length * 64 ≤ 140737488351232) :
    Calls Try.prog 22 #[.slice q cs.length cap, .slice q' cs.length cap'] w fun e w' => e = .returned (.bool true) ∧ Below w.heap.size w w' := by
  have hg := cell_guard .neq
  go_enter Try.func22, Try.ntmps22
  go_wp2
  go_loopw [5] (fun s5 wr => ∃ i : Nat, s5 = .int .i64 (i : Int) ∧ i ≤ cs.length ∧ Below w.heap.size w wr) (fun s5 _ => cs.length - (intOf s5).toNat)
  case atStart => exact ⟨0, rfl, by omega, Below.refl _ _⟩
  case round =>
    obtain ⟨i, rfl, hil, hbel⟩ := hrel
    by_cases hlt : i < cs.length
    · obtain ⟨rfl, r1⟩ := h1 (by omega)
      obtain ⟨rfl, r2⟩ := h2 (by omega)
      obtain ⟨c, hc⟩ : ∃ c, cs[i]? = some c := ⟨_, List.getElem?_eq_getElem hlt⟩
      have a1 := r1.get hc
      have a2 := r2.get hc
      obtain ⟨a0, a1, a2', a3, a4⟩ := a1.step hbel a1.lt
      obtain ⟨b0, b1, b2', b3, b4⟩ := a2.step hbel a2.lt
      have hneq := fun W => neq_same c W
      clear r1 r2 a2 hc
      go_wp2_with fail
      go_quiet (fail)
      go_wp2
      go_roundw
      case rel => exact ⟨i + 1, by go_num, by omega, ⟨hbel.os, hbel.tape, hbel.output, hbel.size, hbel.block⟩⟩
      case measure => simp [intOf]; omega
    · have hie : i = cs.length := by omega
      go_wp2
      go_ret
      exact ⟨rfl, hbel⟩

end Go.Proofs.Ytnpjbdbhjbccbaa
