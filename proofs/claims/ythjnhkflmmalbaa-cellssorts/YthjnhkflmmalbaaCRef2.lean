/-
  The document's newest of each place, and those that are alive.
-/
import Derived.Test.YthjnhkflmmalbaaCRef
namespace Go.Proofs.Ythjnhkflmmalbaa
open Go.RowKit Go.BigFrame Go.Sort
attribute [local go_sem] size_bstr toList_bstr ls_def

set_option maxHeartbeats 1000000 in
theorem Place_any (a b : Cl) (w : World) : Calls Try.prog 30 #[clV a, clV b] w fun e w' => e = .returned (.bool (plc a b)) ∧ RowKit.Below w.heap.size w w' := by
  unfold plc
  obtain ⟨r, k, v, z, x⟩ := a
  obtain ⟨r', k', v', z', x'⟩ := b
  simp only
  have hB2 : RowKit.Below w.heap.size w ((w.alloc (.cells #[.string (bstr r), .string (bstr k), .int .u64 v, .bool z, .string (bstr x)] 34)).alloc (.cells #[.string (bstr r'), .string (bstr k'), .int .u64 v', .bool z', .string (bstr x')] 34)) := ((RowKit.Below.refl _ _).alloc (Nat.le_refl _) _).alloc (by simp) _
  have rb := CellAt.new2 w (.cells #[.string (bstr r), .string (bstr k), .int .u64 v, .bool z, .string (bstr x)] 34) 34 r' k' v' z' x'
  have ra := (CellAt.new w 34 r k v z x).alloc (.cells #[.string (bstr r'), .string (bstr k'), .int .u64 v', .bool z', .string (bstr x')] 34)
  cases h1 : (r == r') with
  | true =>
    rw [Bool.true_and]
    generalize hd : (k == k') = d at *
    go_enter Try.func30, Try.ntmps30
    go_wp2_with fail
    generalize (w.alloc (.cells #[.string (bstr r), .string (bstr k), .int .u64 v, .bool z, .string (bstr x)] 34)).alloc (.cells #[.string (bstr r'), .string (bstr k'), .int .u64 v', .bool z', .string (bstr x')] 34) = W at *
    obtain ⟨a0, a1, _, _, _⟩ := ra
    obtain ⟨b0, b1, _, _, _⟩ := rb
    first | go_quiet (fail) | skip
    go_wp2
    go_ret
    exact ⟨rfl, by first | exact hB2 | exact below_drewN hB2 nq⟩
  | false =>
    rw [Bool.false_and]
    go_enter Try.func30, Try.ntmps30
    go_wp2_with fail
    generalize (w.alloc (.cells #[.string (bstr r), .string (bstr k), .int .u64 v, .bool z, .string (bstr x)] 34)).alloc (.cells #[.string (bstr r'), .string (bstr k'), .int .u64 v', .bool z', .string (bstr x')] 34) = W at *
    obtain ⟨a0, a1, _, _, _⟩ := ra
    obtain ⟨b0, b1, _, _, _⟩ := rb
    first | go_quiet (fail) | skip
    go_wp2
    go_ret
    exact ⟨rfl, by first | exact hB2 | exact below_drewN hB2 nq⟩

theorem new_zero {ss : List Cl} (h : 0 < ss.length) : ddl plc (ss.take 1) = [ss[0]] := by
  rw [List.take_succ_eq_append_getElem h]
  rfl
theorem new_next {ss : List Cl} {m : Nat} (h : m + 1 < ss.length) : ddl plc (ss.take (m + 1 + 1)) = if plc ss[m] ss[m + 1] = true then ddl plc (ss.take (m + 1)) else ddl plc (ss.take (m + 1)) ++ [ss[m + 1]] := by
  have hl : (ss.take (m + 1)).getLast? = some ss[m] := by
    rw [List.take_succ_eq_append_getElem (show m < ss.length by omega), getLast?_snoc]
  obtain ⟨z, hz, hp⟩ := ddl_last ss (m + 1) (by omega) ss[m] hl
  rw [List.take_succ_eq_append_getElem h, ddl_snoc]
  have e : plc z ss[m + 1] = plc ss[m] ss[m + 1] := plc_left hp
  cases hc : plc ss[m] ss[m + 1] with
  | true => rw [if_pos rfl, stp_yes hz (by rw [e]; exact hc)]
  | false => rw [if_neg (by simp), stp_no hz (by rw [e]; exact hc)]
theorem new_take_len (ss : List Cl) (i : Nat) : (ddl plc (ss.take i)).length ≤ i := Nat.le_trans (ddl_length _ _) (by rw [List.length_take]; omega)

set_option maxHeartbeats 4000000 in
set_option maxRecDepth 100000 in
theorem RNewest_any (q : Option Addr) (b off cap : Nat) (cs : List Cl) (w : World) (hA : Arg w q b off cap cs) (hn : cs.length ≤ 100000) :
    Calls Try.prog 14 #[.slice q cs.length cap] w fun e w' => ∃ v, e = .returned v ∧ w'.ownsRow w.heap.size 34 5 v (newL cs).length (ccells (newL cs)) ∧ RowKit.Below w.heap.size w w' := by
  obtain ⟨i0, hi0, hz0, hz1, hz2⟩ := info_parts Try.infoCell
  have hsl : (sortL cs).length ≤ 100000 := Nat.le_trans (sort_len _) hn
  have hcon0 := RSort_any q b off cap cs w hA hn
  unfold newL
  generalize sortL cs = ss at *
  go_enter Try.func14, Try.ntmps14
  go_wp2_with fail
  refine hcon0.mono ?_
  rintro e w1 ⟨v1, rfl, hown1, hb1⟩
  obtain ⟨p, c, g, rfl, hB, hAs, _⟩ := own_arg hown1
  clear hown1 hA hcon0
  go_wp2
  go_loopw [3, 5] (fun s3 s5 wr => ∃ i : Nat, s5 = .int .i64 (i : Int) ∧ i ≤ ss.length ∧ wr.ownsRow w1.heap.size 34 5 s3 (ddl plc (ss.take i)).length (ccells (ddl plc (ss.take i))) ∧ RowKit.Below w1.heap.size w1 wr) (fun _ s5 _ => ss.length - (intOf s5).toNat)
  case atStart => exact ⟨0, rfl, by omega, ⟨rfl, .inl ⟨rfl, rfl⟩⟩, RowKit.Below.refl _ _⟩
  case round =>
    obtain ⟨i, rfl, hil, hown, hbel⟩ := hrel
    by_cases hlt : i < ss.length
    · obtain ⟨rfl, hR, hgs⟩ := hAs.at_ (by omega)
      have hiz : (i : Int) < (ss.length : Int) := by omega
      have hlen := new_take_len ss i
      rcases Nat.eq_zero_or_pos i with h0 | h0
      · subst h0
        have HM : Hid (ddl plc (ss.take (0 + 1)) = ddl plc (ss.take 0) ++ [ss[0]]) := new_zero hlt
        have hx := (hR 0 hlt).step hbel hgs
        go_wp2_with fail
        go_quiet (fail)
        have hbq := below_drewN hbel nq
        have hownq : (wr.drewN nq).ownsRow w1.heap.size 34 5 u3 (ddl plc (ss.take 0)).length (ccells (ddl plc (ss.take 0))) := hown
        have hxq : At5 (wr.drewN nq) g (0 + 0 * 5) ss[0] := ⟨hx.c0, hx.c1, hx.c2, hx.c3, hx.c4⟩
        clear hown hbel hx
        generalize wr.drewN nq = wq at *
        obtain ⟨x0, x1, x2, x3, x4⟩ := hxq
        simp only [Nat.zero_mul, Nat.zero_add] at x0 x1 x2 x3 x4
        go_wp2_with (at_builtin; refine wpList_append_own _ rfl _ _ 22 rfl w1.heap.size 34 i0 (.agg #[.string ⟨#[]⟩, .string ⟨#[]⟩, .int .u64 0, .bool false, .string ⟨#[]⟩]) 5 64 Try.underlying22 hi0 hz0 hz1 hz2 rfl (by decide) _ _ _ rfl (hownq.alloc _) ⟨wq.heap.size, 0, none⟩ 1 1 (encC ss[0]) rfl rfl (cell_news wq ss[0] 34) (encC_one _) (by unfold maxLen; omega) (by omega) (by have := hbq.size; simp; omega) ?_)
        intro v' w3 hown3 hgrow _
        have hbw3 : RowKit.Below w1.heap.size w1 w3 := (hbq.alloc hbq.size _).grown hgrow (by have := hbq.size; simp; omega) (fun k hk => (hownq.lt k hk).1)
        have hown4 : w3.ownsRow w1.heap.size 34 5 v' (ddl plc (ss.take (0 + 1))).length (ccells (ddl plc (ss.take (0 + 1)))) := by
          rw [HM.out, List.length_append, ccells_append]
          exact hown3
        clear hownq hown3 hgrow x0 x1 x2 x3 x4
        go_wp2
        go_roundw
        case rel => exact ⟨0 + 1, by go_num, by omega, hown4, hbw3⟩
        case measure => simp [intOf]; omega
      · obtain ⟨m, hm⟩ : ∃ m, i = m + 1 := ⟨i - 1, by omega⟩
        have hml : m < ss.length := by omega
        have hnx : ddl plc (ss.take (i + 1)) = if plc ss[m] ss[i] = true then ddl plc (ss.take i) else ddl plc (ss.take i) ++ [ss[i]] := by
          subst hm
          exact new_next hlt
        have hmz : (m : Int) < (ss.length : Int) := by omega
        have hsub : (i : Int) - 1 = (m : Int) := by omega
        have hi00 : ((i : Int) == 0) = false := by simp; omega
        obtain ⟨c0, c1, c2, c3, c4⟩ := (hR m hml).step hbel hgs
        obtain ⟨d0, d1, d2, d3, d4⟩ := (hR i hlt).step hbel hgs
        rw [Nat.zero_add] at c0 c1 c2 c3 c4 d0 d1 d2 d3 d4
        have hcon := fun W => Place_any ss[m] ss[i] W
        have HN : Hid _ := hm
        clear hm
        cases hp : plc ss[m] ss[i] with
        | true =>
          rw [hp, if_pos rfl] at hnx
          rw [hp] at hcon
          have HM : Hid _ := hnx
          clear hnx hp
          have qc0 := fun d os => cell_regrown c0 d os
          have qc1 := fun d os => cell_regrown c1 d os
          have qc2 := fun d os => cell_regrown c2 d os
          have qc3 := fun d os => cell_regrown c3 d os
          have qc4 := fun d os => cell_regrown c4 d os
          have qy0 := fun d os => cell_regrown d0 d os
          have qy1 := fun d os => cell_regrown d1 d os
          have qy2 := fun d os => cell_regrown d2 d os
          have qy3 := fun d os => cell_regrown d3 d os
          have qy4 := fun d os => cell_regrown d4 d os
          go_wp2_with fail
          refine wp_region_quiet_below (by kernel_rfl) (by kernel_rfl) ?_
          repeat (go_big_quiet_step (first | (go_at_call 30; with_reducible exact Calls.regrown_of (hcon _))))
          refine wpQuiet_nil ?_
          intro _ hw'
          obtain ⟨⟨dq, osq⟩, hw''⟩ := hw'
          subst hw''
          have hbq := below2 hbel (below_regrown _ dq osq)
          have hownq := own_cbelow hown (below_regrown _ dq osq)
          clear hbel c0 c1 c2 c3 c4 qc0 qc1 qc2 qc3 qc4 hcon qy0 qy1 qy2 qy3 qy4 d0 d1 d2 d3 d4
          generalize grow (redrawn _ dq) osq = wq at *
          go_wp2
          go_roundw
          case rel => exact ⟨i + 1, by go_num, by omega, by rw [HM.out]; exact hownq, hbq⟩
          case measure => simp [intOf]; omega
        | false =>
          rw [hp, if_neg (by simp)] at hnx
          rw [hp] at hcon
          have HM : Hid _ := hnx
          clear hnx hp
          have qc0 := fun d os => cell_regrown c0 d os
          have qc1 := fun d os => cell_regrown c1 d os
          have qc2 := fun d os => cell_regrown c2 d os
          have qc3 := fun d os => cell_regrown c3 d os
          have qc4 := fun d os => cell_regrown c4 d os
          have qy0 := fun d os => cell_regrown d0 d os
          have qy1 := fun d os => cell_regrown d1 d os
          have qy2 := fun d os => cell_regrown d2 d os
          have qy3 := fun d os => cell_regrown d3 d os
          have qy4 := fun d os => cell_regrown d4 d os
          go_wp2_with fail
          refine wp_region_quiet_below (by kernel_rfl) (by kernel_rfl) ?_
          repeat (go_big_quiet_step (first | (go_at_call 30; with_reducible exact Calls.regrown_of (hcon _))))
          refine wpQuiet_nil ?_
          intro _ hw'
          obtain ⟨⟨dq, osq⟩, hw''⟩ := hw'
          subst hw''
          have hbq := below2 hbel (below_regrown _ dq osq)
          have hownq := own_cbelow hown (below_regrown _ dq osq)
          clear hbel c0 c1 c2 c3 c4 qc0 qc1 qc2 qc3 qc4 hcon qy0 qy1 qy2 qy3 qy4 d0 d1 d2 d3 d4
          generalize grow (redrawn _ dq) osq = wq at *
          obtain ⟨x0, x1, x2, x3, x4⟩ := (hR i hlt).step hbq hgs
          rw [Nat.zero_add] at x0 x1 x2 x3 x4
          go_wp2_with (at_builtin; refine wpList_append_own _ rfl _ _ 22 rfl w1.heap.size 34 i0 (.agg #[.string ⟨#[]⟩, .string ⟨#[]⟩, .int .u64 0, .bool false, .string ⟨#[]⟩]) 5 64 Try.underlying22 hi0 hz0 hz1 hz2 rfl (by decide) _ _ _ rfl (hownq.alloc _) ⟨wq.heap.size, 0, none⟩ 1 1 (encC ss[i]) rfl rfl (cell_news wq ss[i] 34) (encC_one _) (by unfold maxLen; omega) (by omega) (by have := hbq.size; simp; omega) ?_)
          intro v' w3 hown3 hgrow _
          have hbw3 : RowKit.Below w1.heap.size w1 w3 := (hbq.alloc hbq.size _).grown hgrow (by have := hbq.size; simp; omega) (fun k hk => (hownq.lt k hk).1)
          have hown4 : w3.ownsRow w1.heap.size 34 5 v' (ddl plc (ss.take (i + 1))).length (ccells (ddl plc (ss.take (i + 1)))) := by
            rw [HM.out, List.length_append, ccells_append]
            exact hown3
          clear hownq hown3 hgrow x0 x1 x2 x3 x4
          go_wp2
          go_roundw
          case rel => exact ⟨i + 1, by go_num, by omega, hown4, hbw3⟩
          case measure => simp [intOf]; omega
    · have hie : i = ss.length := by omega
      subst hie
      rw [List.take_length] at hown
      have hw1 := hb1.size
      go_wp2
      go_ret
      exact ⟨_, rfl, own_mono hown (by omega), below2 hb1 hbel⟩

/-- Those that are alive. -/
def aliveL (l : List Cl) : List Cl := (newL l).filter fun c => !c.gone
theorem filter_yes {α : Type} (f : α → Bool) {l : List α} {i : Nat} (h : i < l.length) (k : f l[i] = true) : (l.take (i + 1)).filter f = (l.take i).filter f ++ [l[i]] := by
  rw [List.take_succ_eq_append_getElem h, List.filter_append]
  simp [k]
theorem filter_no {α : Type} (f : α → Bool) {l : List α} {i : Nat} (h : i < l.length) (k : f l[i] = false) : (l.take (i + 1)).filter f = (l.take i).filter f := by
  rw [List.take_succ_eq_append_getElem h, List.filter_append]
  simp [k]
theorem filter_len {α : Type} (f : α → Bool) (l : List α) (i : Nat) : ((l.take i).filter f).length ≤ i := Nat.le_trans (List.length_filter_le _ _) (by rw [List.length_take]; omega)

set_option maxHeartbeats 4000000 in
set_option maxRecDepth 100000 in
theorem RAlive_any (q : Option Addr) (b off cap : Nat) (cs : List Cl) (w : World) (hA : Arg w q b off cap cs) (hn : cs.length ≤ 100000) :
    Calls Try.prog 15 #[.slice q cs.length cap] w fun e w' => ∃ v, e = .returned v ∧ w'.ownsRow w.heap.size 34 5 v (aliveL cs).length (ccells (aliveL cs)) ∧ RowKit.Below w.heap.size w w' := by
  obtain ⟨i0, hi0, hz0, hz1, hz2⟩ := info_parts Try.infoCell
  have hsl : (newL cs).length ≤ 100000 := Nat.le_trans (ddl_length _ _) (Nat.le_trans (sort_len _) hn)
  have hcon0 := RNewest_any q b off cap cs w hA hn
  unfold aliveL
  generalize newL cs = ss at *
  go_enter Try.func15, Try.ntmps15
  go_wp2_with fail
  refine hcon0.mono ?_
  rintro e w1 ⟨v1, rfl, hown1, hb1⟩
  obtain ⟨p, c, g, rfl, hB, hAs, _⟩ := own_arg hown1
  clear hown1 hA hcon0
  go_wp2
  go_loopw [3, 5] (fun s3 s5 wr => ∃ i : Nat, s5 = .int .i64 (i : Int) ∧ i ≤ ss.length ∧ wr.ownsRow w1.heap.size 34 5 s3 ((ss.take i).filter fun c => !c.gone).length (ccells ((ss.take i).filter fun c => !c.gone)) ∧ RowKit.Below w1.heap.size w1 wr) (fun _ s5 _ => ss.length - (intOf s5).toNat)
  case atStart => exact ⟨0, rfl, by omega, ⟨rfl, .inl ⟨rfl, rfl⟩⟩, RowKit.Below.refl _ _⟩
  case round =>
    obtain ⟨i, rfl, hil, hown, hbel⟩ := hrel
    by_cases hlt : i < ss.length
    · obtain ⟨rfl, hR, hgs⟩ := hAs.at_ (by omega)
      have hiz : (i : Int) < (ss.length : Int) := by omega
      have hlen := filter_len (fun c : Cl => !c.gone) ss i
      obtain ⟨x0, x1, x2, x3, x4⟩ := (hR i hlt).step hbel hgs
      rw [Nat.zero_add] at x0 x1 x2 x3 x4
      obtain ⟨wq, hwq⟩ : ∃ x, x = wr := ⟨_, rfl⟩
      subst hwq
      have hbq := hbel
      have hownq := hown
      clear hbel hown
      cases hg : ss[i].gone with
      | true =>
        have HM : Hid _ := filter_no (fun c : Cl => !c.gone) hlt (by simp [hg])
        rw [hg] at x3
        go_wp2
        go_roundw
        case rel => exact ⟨i + 1, by go_num, by omega, by rw [HM.out]; exact hownq, hbq⟩
        case measure => simp [intOf]; omega
      | false =>
        have HM : Hid _ := filter_yes (fun c : Cl => !c.gone) hlt (by simp [hg])
        generalize ss[i] = el at *
        obtain ⟨r, kk, v, z, x⟩ := el
        simp only at hg x0 x1 x2 x3 x4
        subst hg
        go_wp2_with (at_builtin; refine wpList_append_own _ rfl _ _ 22 rfl w1.heap.size 34 i0 (.agg #[.string ⟨#[]⟩, .string ⟨#[]⟩, .int .u64 0, .bool false, .string ⟨#[]⟩]) 5 64 Try.underlying22 hi0 hz0 hz1 hz2 rfl (by decide) _ _ _ rfl (hownq.alloc _) ⟨wq.heap.size, 0, none⟩ 1 1 (encC ⟨r, kk, v, false, x⟩) rfl rfl (cell_news wq ⟨r, kk, v, false, x⟩ 34) (encC_one _) (by unfold maxLen; omega) (by omega) (by have := hbq.size; simp; omega) ?_)
        intro v' w3 hown3 hgrow _
        have hbw3 : RowKit.Below w1.heap.size w1 w3 := (hbq.alloc hbq.size _).grown hgrow (by have := hbq.size; simp; omega) (fun k hk => (hownq.lt k hk).1)
        have hown4 : w3.ownsRow w1.heap.size 34 5 v' ((ss.take (i + 1)).filter fun c => !c.gone).length (ccells ((ss.take (i + 1)).filter fun c => !c.gone)) := by
          rw [HM.out, List.length_append, ccells_append]
          exact hown3
        clear hownq hown3 hgrow x0 x1 x2 x3 x4
        go_wp2
        go_roundw
        case rel => exact ⟨i + 1, by go_num, by omega, hown4, hbw3⟩
        case measure => simp [intOf]; omega
    · have hie : i = ss.length := by omega
      subst hie
      rw [List.take_length] at hown
      have hw1 := hb1.size
      go_wp2
      go_ret
      exact ⟨_, rfl, own_mono hown (by omega), below2 hb1 hbel⟩

end Go.Proofs.Ythjnhkflmmalbaa
