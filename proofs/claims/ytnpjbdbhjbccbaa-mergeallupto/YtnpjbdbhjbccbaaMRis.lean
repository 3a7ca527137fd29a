/-
  The document's rising, All.
-/
import Derived.Test.YtnpjbdbhjbccbaaMRef
namespace Go.Proofs.Ytnpjbdbhjbccbaa
open Go.RowKit Go.BigFrame Go.Sort
attribute [local go_sem] size_bstr toList_bstr ls_def

def nup (a b : Cl) : Bool := !upF a b
theorem rise_go : ∀ (l acc : List Cl) (y : Cl), acc.getLast? = some y → l.foldl (stp nup) acc = acc ++ siftL upF (some y) l
  | [], acc, y, _ => by simp [siftL_nil]
  | c :: l, acc, y, h => by
    rw [List.foldl_cons]
    cases hp : upF y c with
    | false =>
      rw [stp_yes h (show nup y c = true by simp [nup, hp]), siftL_no (show folB upF (some y) c = false by simp [folB, hp])]
      exact rise_go l acc y h
    | true =>
      rw [stp_no h (show nup y c = false by simp [nup, hp]), siftL_yes (show folB upF (some y) c = true by simp [folB, hp]), rise_go l (acc ++ [c]) c (by simp)]
      simp
theorem rise_sift (l : List Cl) : ddl nup l = siftL upF none l := by
  cases l with
  | nil => rfl
  | cons c l =>
    show (l.foldl (stp nup) (stp nup [] c)) = _
    rw [stp_none, rise_go l [c] c (by simp), siftL_yes rfl]
    rfl
theorem rise_snoc {l : List Cl} {i : Nat} {c : Cl} (h : l[i]? = some c) : ddl nup (l.take (i + 1)) = stp nup (ddl nup (l.take i)) c := by
  rw [List.take_add_one, h]
  exact ddl_snoc _ _ _
theorem rise_len (l : List Cl) (i : Nat) : (ddl nup (l.take i)).length ≤ i := Nat.le_trans (ddl_length _ _) (by rw [List.length_take]; omega)

set_option maxHeartbeats 4000000 in
set_option maxRecDepth 100000 in
theorem R12rising_any (q : Option Addr) (b off cap : Nat) (cs : List Cl) (w : World) (hA : Arg w q b off cap cs) (hn : cs.length ≤ 100000) :
    Calls Try.prog 37 #[.slice q cs.length cap] w fun e w' => ∃ v, e = .returned v ∧ w'.ownsRow w.heap.size 39 5 v (ddl nup cs).length (ccells (ddl nup cs)) ∧ RowKit.Below w.heap.size w w' := by
  obtain ⟨i0, hi0, hz0, hz1, hz2⟩ := info_parts Try.infoCell
  go_enter Try.func37, Try.ntmps37
  go_wp2
  go_loopw [3, 4] (fun s3 s4 wr => ∃ i : Nat, s4 = .int .i64 (i : Int) ∧ i ≤ cs.length ∧ wr.ownsRow w.heap.size 39 5 s3 (ddl nup (cs.take i)).length (ccells (ddl nup (cs.take i))) ∧ RowKit.Below w.heap.size w wr) (fun _ s4 _ => cs.length - (intOf s4).toNat)
  case atStart => exact ⟨0, rfl, by omega, ⟨rfl, .inl ⟨rfl, rfl⟩⟩, RowKit.Below.refl _ _⟩
  case round =>
    obtain ⟨i, rfl, hil, hown, hbel⟩ := hrel
    by_cases hlt : i < cs.length
    · obtain ⟨rfl, hR, hgs⟩ := hA.at_ (by omega)
      have hiz : (i : Int) < (cs.length : Int) := by omega
      obtain ⟨c, hc⟩ : ∃ c, cs[i]? = some c := ⟨_, List.getElem?_eq_getElem hlt⟩
      have hnx := rise_snoc hc
      have hlen := rise_len cs i
      have hx := hR.get hc
      generalize ddl nup (cs.take i) = out at *
      have HNX : Hid _ := hnx
      clear hnx
      obtain ⟨p, cap', g, rfl, _, hB, hro, _⟩ := own_get hown
      obtain ⟨d0, d1, d2, d3, d4⟩ := hx.step hbel hgs
      by_cases h0 : out.length = 0
      · have ho : out = [] := List.eq_nil_of_length_eq_zero h0
        subst ho
        have HM : Hid (ddl nup (cs.take (i + 1)) = [] ++ [c]) := HNX.out
        go_wp2_with fail
        go_quiet (fail)
        have hbq := below_drewN hbel nq
        have hownq : (wr.drewN nq).ownsRow w.heap.size 39 5 (.slice p ([] : List Cl).length cap') ([] : List Cl).length (ccells []) := hown
        have hxq : At5 (wr.drewN nq) b (off + i * 5) c := (hx.step hbel hgs).same (fun _ => rfl)
        clear hown hbel d0 d1 d2 d3 d4
        generalize wr.drewN nq = wq at *
        obtain ⟨x0, x1, x2, x3, x4⟩ := hxq
        go_wp2_with (at_builtin; refine wpList_append_own _ rfl _ _ 29 rfl w.heap.size 39 i0 (.agg #[.string ⟨#[]⟩, .string ⟨#[]⟩, .int .u64 0, .bool false, .string ⟨#[]⟩]) 5 64 Try.underlying29 hi0 hz0 hz1 hz2 rfl (by decide) _ _ _ rfl (hownq.alloc _) ⟨wq.heap.size, 0, none⟩ 1 1 (encC c) rfl rfl (cell_news wq c 39) (encC_one _) (by decide) (by decide) (by have := hbq.size; simp; omega) ?_)
        intro v' w3 hown3 hgrow _
        have hbw3 : RowKit.Below w.heap.size w w3 := (hbq.alloc hbq.size _).grown hgrow (by have := hbq.size; simp; omega) (fun k hk => (hownq.lt k hk).1)
        have hown4 : w3.ownsRow w.heap.size 39 5 v' (ddl nup (cs.take (i + 1))).length (ccells (ddl nup (cs.take (i + 1)))) := by
          rw [HM.out, List.length_append, ccells_append]
          exact hown3
        clear hownq hown3 hgrow x0 x1 x2 x3 x4
        go_wp2
        go_roundw
        case rel => exact ⟨i + 1, by go_num, by omega, hown4, hbw3⟩
        case measure => simp [intOf]; omega
      · obtain ⟨rfl, hRo, hgo⟩ := hro (by omega)
        obtain ⟨m, hm⟩ : ∃ m, out.length = m + 1 := ⟨out.length - 1, by omega⟩
        obtain ⟨y, hy⟩ : ∃ y, out[m]? = some y := ⟨_, List.getElem?_eq_getElem (by omega)⟩
        have hlast : out.getLast? = some y := by rw [List.getLast?_eq_getElem?, hm]; exact hy
        have hmz : (m : Int) < (out.length : Int) := by omega
        have hsub : (out.length : Int) - 1 = (m : Int) := by omega
        have hi00 : ((out.length : Int) == 0) = false := by rw [beq_eq_false_iff_ne]; omega
        obtain ⟨c0, c1, c2, c3, c4⟩ := hRo.get hy
        rw [Nat.zero_add] at c0 c1 c2 c3 c4
        have hcon := fun W => RCmp_any y.row y.col y.ver y.gone y.val c.row c.col c.ver c.gone c.val W
        have hcv : ccl y c = cc y.row y.col y.ver c.row c.col c.ver := rfl
        rw [← hcv] at hcon
        have HL : Hid _ := hlast
        have HMM : Hid _ := hm
        clear hm hlast hcv h0 hy hRo
        have qc0 := fun d os => cell_regrown c0 d os
        have qc1 := fun d os => cell_regrown c1 d os
        have qc2 := fun d os => cell_regrown c2 d os
        have qc3 := fun d os => cell_regrown c3 d os
        have qc4 := fun d os => cell_regrown c4 d os
        have qy0 := fun d os => cell_regrown d0 d os
        have qy1 := fun d os => cell_regrown d1 d os
        have qy2 := fun d os => cell_regrown d2 d os
        have qy3 := fun d os => cell_regrown d3 d os
        have qy4 := fun d os => cell_regrown d4 d os
        generalize hcv : ccl y c = cv at *
        have HCV : Hid _ := hcv
        clear hcv
        go_wp2_with fail
        refine wp_region_quiet_below (by kernel_rfl) (by kernel_rfl) ?_
        repeat (go_big_quiet_step (first | (go_at_call 58; with_reducible exact Calls.regrown_of (hcon _))))
        refine wpQuiet_nil ?_
        intro _ hw'
        obtain ⟨⟨dq, osq⟩, hw''⟩ := hw'
        subst hw''
        have hbq := below2 hbel (below_regrown _ dq osq)
        have hownq := own_cbelow hown (below_regrown _ dq osq)
        clear hbel c0 c1 c2 c3 c4 qc0 qc1 qc2 qc3 qc4 hcon qy0 qy1 qy2 qy3 qy4 d0 d1 d2 d3 d4 hown
        generalize grow (redrawn _ dq) osq = wq at *
        by_cases hlv : cv < 0
        · have HM : Hid (ddl nup (cs.take (i + 1)) = out ++ [c]) := by
            show ddl nup (cs.take (i + 1)) = out ++ [c]
            rw [HNX.out, stp_no HL.out]
            simp [nup, upF, HCV.out, hlv]
          obtain ⟨x0, x1, x2, x3, x4⟩ := hx.step hbq hgs
          go_wp2_with (at_builtin; refine wpList_append_own _ rfl _ _ 29 rfl w.heap.size 39 i0 (.agg #[.string ⟨#[]⟩, .string ⟨#[]⟩, .int .u64 0, .bool false, .string ⟨#[]⟩]) 5 64 Try.underlying29 hi0 hz0 hz1 hz2 rfl (by decide) _ _ _ rfl (hownq.alloc _) ⟨wq.heap.size, 0, none⟩ 1 1 (encC c) rfl rfl (cell_news wq c 39) (encC_one _) (by unfold maxLen; omega) (by omega) (by have := hbq.size; simp; omega) ?_)
          intro v' w3 hown3 hgrow _
          have hbw3 : RowKit.Below w.heap.size w w3 := (hbq.alloc hbq.size _).grown hgrow (by have := hbq.size; simp; omega) (fun k hk => (hownq.lt k hk).1)
          have hown4 : w3.ownsRow w.heap.size 39 5 v' (ddl nup (cs.take (i + 1))).length (ccells (ddl nup (cs.take (i + 1)))) := by
            rw [HM.out, List.length_append, ccells_append]
            exact hown3
          clear hownq hown3 hgrow x0 x1 x2 x3 x4
          go_wp2
          go_roundw
          case rel => exact ⟨i + 1, by go_num, by omega, hown4, hbw3⟩
          case measure => simp [intOf]; omega
        · have HM : Hid (ddl nup (cs.take (i + 1)) = out) := by
            show ddl nup (cs.take (i + 1)) = out
            rw [HNX.out, stp_yes HL.out]
            simp [nup, upF, HCV.out]
            omega
          go_wp2
          go_roundw
          case rel => exact ⟨i + 1, by go_num, by omega, by rw [HM.out]; exact hownq, hbq⟩
          case measure => simp [intOf]; omega
    · have hie : i = cs.length := by omega
      subst hie
      rw [List.take_length] at hown
      go_wp2
      go_ret
      exact ⟨_, rfl, hown, hbel⟩

end Go.Proofs.Ytnpjbdbhjbccbaa
