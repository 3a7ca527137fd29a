/-
  The document's own answers for lists of cells: sorted, the newest, those that are alive.
-/
import Derived.Test.YtnpjbdbhjbccbaaCApp
namespace Go.Proofs.Ytnpjbdbhjbccbaa
open Go.RowKit Go.BigFrame Go.Sort
attribute [local go_sem] size_bstr toList_bstr ls_def

set_option maxHeartbeats 1000000 in
theorem Before_any (a b : Cl) (w : World) : Calls Try.prog 59 #[clV a, clV b] w fun e w' => e = .returned (.bool (decide (ccl a b < 0))) ∧ RowKit.Below w.heap.size w w' := by
  have hcon := fun W => RCmp_any a.row a.col a.ver a.gone a.val b.row b.col b.ver b.gone b.val W
  unfold ccl
  generalize cc a.row a.col a.ver b.row b.col b.ver = d at *
  obtain ⟨r, k, v, z, x⟩ := a
  obtain ⟨r', k', v', z', x'⟩ := b
  simp only at hcon
  have hB2 : RowKit.Below w.heap.size w ((w.alloc (.cells #[.string (bstr r), .string (bstr k), .int .u64 v, .bool z, .string (bstr x)] 39)).alloc (.cells #[.string (bstr r'), .string (bstr k'), .int .u64 v', .bool z', .string (bstr x')] 39)) := ((RowKit.Below.refl _ _).alloc (Nat.le_refl _) _).alloc (by simp) _
  go_enter Try.func59, Try.ntmps59
  go_wp2_with fail
  refine (hcon _).mono ?_
  rintro e w1 ⟨rfl, hb1⟩
  replace hB2 := below2 hB2 hb1
  clear hb1 hcon
  go_wp2
  go_ret
  exact ⟨rfl, hB2⟩

theorem sortL_take {l : List Cl} {i : Nat} (h : i < l.length) : sortL (l.take (i + 1)) = ins (sortL (l.take i)) l[i] := by
  unfold sortL
  rw [List.take_succ_eq_append_getElem h, List.foldl_append]
  rfl
theorem ins_len : ∀ (l : List Cl) (c : Cl), (ins l c).length ≤ l.length + 1
  | [], c => by simp [ins]
  | x :: xs, c => by
    have := ins_len xs c
    rw [ins]
    split
    · simp only [List.length_cons]; omega
    · split <;> simp
theorem sort_len (l : List Cl) : (sortL l).length ≤ l.length := by
  have : ∀ (l acc : List Cl), (l.foldl ins acc).length ≤ acc.length + l.length := by
    intro l
    induction l with
    | nil => intro acc; simp
    | cons c l ih =>
      intro acc
      have h1 := ih (ins acc c)
      have h2 := ins_len acc c
      simp only [List.foldl_cons, List.length_cons]
      omega
  have h := this l []
  simp only [List.length_nil, Nat.zero_add] at h
  exact h
/-- What a call owns: nil, or the beginning of a block. -/
theorem own_shape {w : World} {B e : Nat} {v : Value} {cs : List Cl} (h : w.ownsRow B e 5 v cs.length (ccells cs)) :
    ∃ p cap g, v = .slice p cs.length cap ∧ cs.length ≤ cap ∧ cap ≤ maxLen ∧ Arg w p g 0 cap cs ∧ (p = none ∧ cs = [] ∧ cap = 0 ∨ p = some ⟨g, 0, none⟩) := by
  rcases h.2 with ⟨hv2, h0⟩ | ⟨g, cap, cur, hv2, hbg, hg, hnc, hcm, hcs, htake⟩
  · have hcs : cs = [] := List.eq_nil_of_length_eq_zero h0
    subst hcs
    exact ⟨none, 0, 0, hv2, Nat.le_refl _, Nat.zero_le _, ⟨fun h => absurd h (by simp), fun _ => ⟨rfl, rfl⟩⟩, .inl ⟨rfl, rfl, rfl⟩⟩
  · refine ⟨some ⟨g, 0, none⟩, cap, g, hv2, hnc, hcm, ⟨fun h0 => ?_, fun h => by cases h⟩, .inr rfl⟩
    refine ⟨rfl, CRow.of_cells (h.cells (g := g) (by rw [hv2]; rfl)), lt_of_block hg⟩
theorem ins_at {out : List Cl} {c : Cl} {k : Nat} (hk : k ≤ out.length) (hlt : ∀ x ∈ out.take k, ccl x c < 0) (hge : ∀ h : k < out.length, 0 < ccl out[k] c) : ins out c = out.take k ++ c :: out.drop k := by
  have e : out = out.take k ++ out.drop k := (List.take_append_drop k out).symm
  conv => lhs; rw [e]
  rw [ins_split _ _ _ hlt]
  by_cases h : k < out.length
  · rw [List.drop_eq_getElem_cons h, ins_here (hge h)]
  · rw [List.drop_eq_nil_of_le (by omega)]
    rfl
theorem ins_eq {out : List Cl} {c : Cl} {k : Nat} (hk : k < out.length) (hlt : ∀ x ∈ out.take k, ccl x c < 0) (he : ccl out[k] c = 0) : ins out c = out := by
  have e : out = out.take k ++ out.drop k := (List.take_append_drop k out).symm
  conv => lhs; rw [e]
  rw [ins_split _ _ _ hlt, List.drop_eq_getElem_cons hk, ins_same he, ← List.drop_eq_getElem_cons hk]
  exact e.symm
theorem ahead_next {out : List Cl} {c : Cl} {k : Nat} (hk : k < out.length) (hlt : ∀ x ∈ out.take k, ccl x c < 0) (h : ccl out[k] c < 0) : ∀ x ∈ out.take (k + 1), ccl x c < 0 := by
  intro x hx
  rw [List.take_succ_eq_append_getElem hk] at hx
  rcases List.mem_append.1 hx with hx | hx
  · exact hlt x hx
  · simp at hx
    rw [hx]
    exact h

set_option maxHeartbeats 4000000 in
set_option maxRecDepth 100000 in
theorem RSort_any (q : Option Addr) (b off cap : Nat) (cs : List Cl) (w : World) (hA : Arg w q b off cap cs) (hn : cs.length ≤ 100000) :
    Calls Try.prog 38 #[.slice q cs.length cap] w fun e w' => ∃ v, e = .returned v ∧ w'.ownsRow w.heap.size 39 5 v (sortL cs).length (ccells (sortL cs)) ∧ RowKit.Below w.heap.size w w' := by
  obtain ⟨i0, hi0, hz0, hz1, hz2⟩ := info_parts Try.infoCell
  go_enter Try.func38, Try.ntmps38
  go_wp2
  go_loopw [3, 4] (fun s3 s4 wr => ∃ i : Nat, s4 = .int .i64 (i : Int) ∧ i ≤ cs.length ∧ wr.ownsRow w.heap.size 39 5 s3 (sortL (cs.take i)).length (ccells (sortL (cs.take i))) ∧ RowKit.Below w.heap.size w wr) (fun _ s4 _ => cs.length - (intOf s4).toNat)
  case atStart => exact ⟨0, rfl, by omega, ⟨rfl, .inl ⟨rfl, rfl⟩⟩, RowKit.Below.refl _ _⟩
  case round =>
    obtain ⟨i, rfl, hil, hown, hbel⟩ := hrel
    by_cases hlt : i < cs.length
    · obtain ⟨w0, hw0⟩ : ∃ x, x = wr := ⟨_, rfl⟩
      subst hw0
      obtain ⟨rfl, hRc, hbd⟩ := (hA.next hbel).at_ (by omega)
      have hiz : (i : Int) < (cs.length : Int) := by omega
      have HST : Hid _ := sortL_take hlt
      have hol : (sortL (cs.take i)).length ≤ 100000 := Nat.le_trans (sort_len _) (by rw [List.length_take]; omega)
      have hwz := hbel.size
      generalize sortL (cs.take i) = out at *
      obtain ⟨p, c, g, rfl, hoc, hcm, hAo, hsh⟩ := own_shape hown
      go_wp2
      go_loopw [5] (fun s5 wr => ∃ k : Nat, s5 = .int .i64 (k : Int) ∧ k ≤ out.length ∧ Hid (∀ x ∈ out.take k, ccl x cs[i] < 0) ∧ RowKit.Below w0.heap.size w0 wr) (fun s5 _ => out.length - (intOf s5).toNat)
      case atStart => exact ⟨0, rfl, by omega, by show ∀ x ∈ _, _; simp, RowKit.Below.refl _ _⟩
      case round =>
        obtain ⟨k, rfl, hkl, HL, hbel2⟩ := hrel
        by_cases hko : k < out.length
        · obtain ⟨hp, hRo, hgo⟩ := hAo.at_ (by omega)
          subst hp
          have hkz : (k : Int) < (out.length : Int) := by omega
          obtain ⟨c0, c1, c2, c3, c4⟩ := (hRo k hko).step hbel2 hgo
          obtain ⟨d0, d1, d2, d3, d4⟩ := (hRc i hlt).step hbel2 hbd
          rw [Nat.zero_add] at c0 c1 c2 c3 c4
          have hcon := fun W => Before_any out[k] cs[i] W
          by_cases hcc : ccl out[k] cs[i] < 0
          · have HL2 : Hid _ := ahead_next hko HL.out hcc
            rw [decide_eq_true hcc] at hcon
            clear hcc HL
            have qc0 := fun d os => cell_regrown c0 d os
            have qc1 := fun d os => cell_regrown c1 d os
            have qc2 := fun d os => cell_regrown c2 d os
            have qc3 := fun d os => cell_regrown c3 d os
            have qc4 := fun d os => cell_regrown c4 d os
            have qy0 := fun d os => cell_regrown d0 d os
            have qy1 := fun d os => cell_regrown d1 d os
            have qy2 := fun d os => cell_regrown d2 d os
            have qy3 := fun d os => cell_regrown d3 d os
            have qy4 := fun d os => cell_regrown d4 d os
            go_wp2_with fail
            refine wp_region_quiet_below (by kernel_rfl) (by kernel_rfl) ?_
            repeat (go_big_quiet_step (first | (go_at_call 59; with_reducible exact Calls.regrown_of (hcon _))))
            refine wpQuiet_nil ?_
            intro _ hw'
            obtain ⟨⟨dq, osq⟩, hw''⟩ := hw'
            subst hw''
            have hbq := below2 hbel2 (below_regrown _ dq osq)
            clear hbel2 c0 c1 c2 c3 c4 qc0 qc1 qc2 qc3 qc4 hcon qy0 qy1 qy2 qy3 qy4 d0 d1 d2 d3 d4
            generalize grow (redrawn _ dq) osq = wq at *
            go_wp2
            go_roundw
            case rel => exact ⟨k + 1, by go_num, by omega, HL2, hbq⟩
            case measure => simp [intOf]; omega
          · rw [decide_eq_false hcc] at hcon
            have qc0 := fun d os => cell_regrown c0 d os
            have qc1 := fun d os => cell_regrown c1 d os
            have qc2 := fun d os => cell_regrown c2 d os
            have qc3 := fun d os => cell_regrown c3 d os
            have qc4 := fun d os => cell_regrown c4 d os
            have qy0 := fun d os => cell_regrown d0 d os
            have qy1 := fun d os => cell_regrown d1 d os
            have qy2 := fun d os => cell_regrown d2 d os
            have qy3 := fun d os => cell_regrown d3 d os
            have qy4 := fun d os => cell_regrown d4 d os
            go_wp2_with fail
            refine wp_region_quiet_below (by kernel_rfl) (by kernel_rfl) ?_
            repeat (go_big_quiet_step (first | (go_at_call 59; with_reducible exact Calls.regrown_of (hcon _))))
            refine wpQuiet_nil ?_
            intro _ hw'
            obtain ⟨⟨dq, osq⟩, hw''⟩ := hw'
            subst hw''
            have hbq := below2 hbel2 (below_regrown _ dq osq)
            clear hbel2 c0 c1 c2 c3 c4 qc0 qc1 qc2 qc3 qc4 hcon qy0 qy1 qy2 qy3 qy4 d0 d1 d2 d3 d4
            generalize grow (redrawn _ dq) osq = wq at *
            have hbel2 := hbq
            clear hbq
            obtain ⟨c0, c1, c2, c3, c4⟩ := (hRo k hko).step hbel2 hgo
            obtain ⟨d0, d1, d2, d3, d4⟩ := (hRc i hlt).step hbel2 hbd
            rw [Nat.zero_add] at c0 c1 c2 c3 c4
            have hcon := fun W => RCmp_any out[k].row out[k].col out[k].ver out[k].gone out[k].val cs[i].row cs[i].col cs[i].ver cs[i].gone cs[i].val W
            have hcv : ccl out[k] cs[i] = cc out[k].row out[k].col out[k].ver cs[i].row cs[i].col cs[i].ver := rfl
            rw [← hcv] at hcon
            clear hcv
            by_cases hze : ccl out[k] cs[i] = 0
            · have HE : Hid _ := HST.out.trans (ins_eq hko HL.out hze)
              rw [hze] at hcon
              clear hze hcc HL HST
              have qc0 := fun d os => cell_regrown c0 d os
              have qc1 := fun d os => cell_regrown c1 d os
              have qc2 := fun d os => cell_regrown c2 d os
              have qc3 := fun d os => cell_regrown c3 d os
              have qc4 := fun d os => cell_regrown c4 d os
              have qy0 := fun d os => cell_regrown d0 d os
              have qy1 := fun d os => cell_regrown d1 d os
              have qy2 := fun d os => cell_regrown d2 d os
              have qy3 := fun d os => cell_regrown d3 d os
              have qy4 := fun d os => cell_regrown d4 d os
              go_wp2_with fail
              refine wp_region_quiet_below (by kernel_rfl) (by kernel_rfl) ?_
              repeat (go_big_quiet_step (first | (go_at_call 58; with_reducible exact Calls.regrown_of (hcon _))))
              refine wpQuiet_nil ?_
              intro _ hw'
              obtain ⟨⟨dq, osq⟩, hw''⟩ := hw'
              subst hw''
              have hbq := below2 hbel2 (below_regrown _ dq osq)
              clear hbel2 c0 c1 c2 c3 c4 qc0 qc1 qc2 qc3 qc4 hcon qy0 qy1 qy2 qy3 qy4 d0 d1 d2 d3 d4
              generalize grow (redrawn _ dq) osq = wq at *
              have hownq := own_cbelow hown hbq
              have hbe := below2 hbel hbq
              go_wp2
              go_roundw
              case rel => exact ⟨i + 1, by go_num, by omega, by rw [HE.out]; exact hownq, hbe⟩
              case measure => simp [intOf]; omega
            · have hpos : 0 < ccl out[k] cs[i] := by omega
              have HE : Hid _ := HST.out.trans (ins_at hkl HL.out (fun _ => hpos))
              generalize ccl out[k] cs[i] = cv at *
              have hcz : (cv == 0) = false := by simpa using hze
              clear hze hcc HL HST
              have qc0 := fun d os => cell_regrown c0 d os
              have qc1 := fun d os => cell_regrown c1 d os
              have qc2 := fun d os => cell_regrown c2 d os
              have qc3 := fun d os => cell_regrown c3 d os
              have qc4 := fun d os => cell_regrown c4 d os
              have qy0 := fun d os => cell_regrown d0 d os
              have qy1 := fun d os => cell_regrown d1 d os
              have qy2 := fun d os => cell_regrown d2 d os
              have qy3 := fun d os => cell_regrown d3 d os
              have qy4 := fun d os => cell_regrown d4 d os
              go_wp2_with fail
              refine wp_region_quiet_below (by kernel_rfl) (by kernel_rfl) ?_
              repeat (go_big_quiet_step (first | (go_at_call 58; with_reducible exact Calls.regrown_of (hcon _))))
              refine wpQuiet_nil ?_
              intro _ hw'
              obtain ⟨⟨dq, osq⟩, hw''⟩ := hw'
              subst hw''
              have hbq := below2 hbel2 (below_regrown _ dq osq)
              clear hbel2 c0 c1 c2 c3 c4 qc0 qc1 qc2 qc3 qc4 hcon qy0 qy1 qy2 qy3 qy4 d0 d1 d2 d3 d4
              generalize grow (redrawn _ dq) osq = wq at *
              have hAo2 := hAo.next hbq
              have hws := hbq.size
              have hx := (hRc i hlt).step hbq hbd
              obtain ⟨x0, x1, x2, x3, x4⟩ := id hx
              have hkt : (out.take k).length = k := by rw [List.length_take]; omega
              have hkd : (out.drop k).length = out.length - k := List.length_drop
              have hAt : Arg wq (some ⟨g, 0, none⟩) g 0 c (out.take k) := ⟨fun h => ⟨rfl, (hAo2.at_ (by omega)).2.1.take k, (hAo2.at_ (by omega)).2.2⟩, fun h => by cases h⟩
              have hgz : 0 < out.length → g < w0.heap.size := fun h => (hAo.at_ h).2.2
              have hkc : k ≤ c := by omega
              have hkn : (k : Int) ≤ (c : Int) := by omega
              have hkn2 : (k : Int) ≤ (out.length : Int) := by omega
              go_wp2_with (at_builtin; refine wpList_append_list rfl _ _ rfl wq.heap.size _ [] rfl ⟨rfl, .inl ⟨rfl, rfl⟩⟩ (some ⟨g, 0, none⟩) g 0 c (out.take k) (by rw [hkt]; rfl) hAt (by simp only [List.length_nil]; omega) (Nat.le_refl _) ?_)
              intro v1 w1 hown1 hb1
              have hown1' : w1.ownsRow wq.heap.size 39 5 v1 (out.take k).length (ccells (out.take k)) := by first | exact hown1 | (rw [hkt]; exact hown1)
              have hz1' := hb1.size
              have hbq1 : RowKit.Below w0.heap.size w0 w1 := below2 hbq hb1
              obtain ⟨x0, x1, x2, x3, x4⟩ := (hRc i hlt).step hbq1 hbd
              clear hown1 hAt
              go_wp2_with (at_builtin; refine wpList_append_own _ rfl _ _ 29 rfl wq.heap.size 39 i0 (.agg #[.string ⟨#[]⟩, .string ⟨#[]⟩, .int .u64 0, .bool false, .string ⟨#[]⟩]) 5 64 Try.underlying29 hi0 hz0 hz1 hz2 rfl (by decide) _ _ _ rfl (hown1'.alloc _) ⟨w1.heap.size, 0, none⟩ 1 1 (encC cs[i]) rfl rfl (cell_news w1 cs[i] 39) (encC_one _) (by unfold maxLen; omega) (by omega) (by simp; omega) ?_)
              intro v2 w2 hown2 hgrow _
              have hb2 : RowKit.Below wq.heap.size wq w2 := (hb1.alloc hb1.size _).grown hgrow (by have := hb1.size; simp; omega) (fun k hk => (hown1'.lt k hk).1)
              have hown2' : w2.ownsRow wq.heap.size 39 5 v2 (out.take k ++ [cs[i]]).length (ccells (out.take k ++ [cs[i]])) := by
                rw [List.length_append, ccells_append]
                first | exact hown2 | (rw [hkt]; exact hown2)
              have hbq2 : RowKit.Below w0.heap.size w0 w2 := below2 hbq hb2
              have hz2' := hb2.size
              clear hown2 hgrow hown1' x0 x1 x2 x3 x4 hb1 hbq1
              have hAo3 := hAo.next hbq2
              have hAd : Arg w2 (some ⟨g, k * 5, none⟩) g (k * 5) (c - k) (out.drop k) := ⟨fun h => ⟨rfl, by have := (hAo3.at_ (by omega)).2.1.drop k; rw [Nat.zero_add] at this; exact this, (hAo3.at_ (by omega)).2.2⟩, fun h => by cases h⟩
              go_wp2_with (at_builtin; refine wpList_append_list rfl _ _ rfl wq.heap.size _ (out.take k ++ [cs[i]]) rfl hown2' (some ⟨g, k * 5, none⟩) g (k * 5) (c - k) (out.drop k) (by rw [hkd]; rfl) hAd (by rw [hkd, List.length_append, hkt]; simp; omega) hz2' ?_)
              intro v3 w3 hown3 hb3
              have hown3' : w3.ownsRow wq.heap.size 39 5 v3 (sortL (cs.take (i + 1))).length (ccells (sortL (cs.take (i + 1)))) := by
                rw [HE.out]
                first | exact hown3 | (rw [show (out.take k ++ cs[i] :: out.drop k).length = k + (out.length - k + 1) by simp; omega]; exact hown3) | simpa using hown3
              have hbe : RowKit.Below w.heap.size w w3 := (below2 hbel hbq2).trans (hb3.mono (by omega))
              clear hown3 hb3 hown2' hAd hAo3 hb2 hbq2
              go_wp2
              go_roundw
              case rel => exact ⟨i + 1, by go_num, by omega, own_mono hown3' (by omega), hbe⟩
              case measure => simp [intOf]; omega
        · obtain rfl : k = out.length := by omega
          have HE : Hid _ := HST.out.trans (ins_at hkl HL.out (fun h => absurd h (by omega)))
          rw [List.take_length, List.drop_length] at HE
          clear HL HST
          rcases hsh with ⟨rfl, rfl, rfl⟩ | rfl
          · go_wp2_with fail
            go_quiet (fail)
            have hbq0 := below_drewN hbel2 nq
            generalize World.drewN _ nq = wq0 at *
            go_wp2_with fail
            go_quiet (fail)
            have hbq := below_drewN hbq0 nq
            clear hbq0 hbel2
            generalize World.drewN _ nq = wq at *
            obtain ⟨x0, x1, x2, x3, x4⟩ := (hRc i hlt).step hbq hbd
            have hws := hbq.size
            go_wp2_with (at_builtin; refine wpList_append_list rfl _ _ rfl wq.heap.size _ [] rfl ⟨rfl, .inl ⟨rfl, rfl⟩⟩ none g 0 0 ([] : List Cl) rfl ⟨fun h => absurd h (by simp), fun _ => ⟨rfl, rfl⟩⟩ (by simp only [List.length_nil]; omega) (Nat.le_refl _) ?_)
            intro v1 w1 hown1 hb1
            have hown1' : w1.ownsRow wq.heap.size 39 5 v1 ([] : List Cl).length (ccells ([] : List Cl)) := by first | exact hown1 | simpa using hown1
            have hz1' := hb1.size
            have hbq1 : RowKit.Below w0.heap.size w0 w1 := below2 hbq hb1
            clear x0 x1 x2 x3 x4
            obtain ⟨x0, x1, x2, x3, x4⟩ := (hRc i hlt).step hbq1 hbd
            clear hown1
            go_wp2_with (at_builtin; refine wpList_append_own _ rfl _ _ 29 rfl wq.heap.size 39 i0 (.agg #[.string ⟨#[]⟩, .string ⟨#[]⟩, .int .u64 0, .bool false, .string ⟨#[]⟩]) 5 64 Try.underlying29 hi0 hz0 hz1 hz2 rfl (by decide) _ _ _ rfl (hown1'.alloc _) ⟨w1.heap.size, 0, none⟩ 1 1 (encC cs[i]) rfl rfl (cell_news w1 cs[i] 39) (encC_one _) (by unfold maxLen; (try simp only [List.length_nil]); omega) (by (try simp only [List.length_nil]); omega) (by simp; omega) ?_)
            intro v2 w2 hown2 hgrow _
            have hb2 : RowKit.Below wq.heap.size wq w2 := (hb1.alloc hb1.size _).grown hgrow (by have := hb1.size; simp; omega) (fun k hk => (hown1'.lt k hk).1)
            have hown2' : w2.ownsRow wq.heap.size 39 5 v2 (([] : List Cl) ++ [cs[i]]).length (ccells (([] : List Cl) ++ [cs[i]])) := by
              rw [List.length_append, ccells_append]
              first | exact hown2 | simpa using hown2
            have hbq2 : RowKit.Below w0.heap.size w0 w2 := below2 hbq hb2
            have hz2' := hb2.size
            clear hown2 hgrow hown1' x0 x1 x2 x3 x4 hb1 hbq1
            go_wp2_with (at_builtin; refine wpList_append_list rfl _ _ rfl wq.heap.size _ (([] : List Cl) ++ [cs[i]]) rfl hown2' none g 0 0 [] rfl ⟨fun h => absurd h (by simp), fun _ => ⟨rfl, rfl⟩⟩ (by simp only [List.length_append, List.length_singleton, List.length_nil]; omega) hz2' ?_)
            intro v3 w3 hown3 hb3
            have hown3' : w3.ownsRow wq.heap.size 39 5 v3 (sortL (cs.take (i + 1))).length (ccells (sortL (cs.take (i + 1)))) := by
              rw [HE.out]
              first | exact hown3 | simpa using hown3
            have hbe : RowKit.Below w.heap.size w w3 := (below2 hbel hbq2).trans (hb3.mono (by omega))
            clear hown3 hb3 hown2' hb2 hbq2
            go_wp2
            go_roundw
            case rel => exact ⟨i + 1, by go_num, by omega, own_mono hown3' (by omega), hbe⟩
            case measure => simp [intOf]; omega
          · have hAo2 := hAo.next hbel2
            go_wp2_with fail
            go_quiet (fail)
            have hbq0 := below_drewN hbel2 nq
            generalize World.drewN _ nq = wq0 at *
            go_wp2_with fail
            go_quiet (fail)
            have hbq := below_drewN hbq0 nq
            clear hbq0 hbel2 hAo2
            generalize World.drewN _ nq = wq at *
            have hAt := hAo.next hbq
            have hkc : (out.length : Int) ≤ (c : Int) := by omega
            by_cases hck : c = out.length
            · subst hck
              obtain ⟨x0, x1, x2, x3, x4⟩ := (hRc i hlt).step hbq hbd
              have hws := hbq.size
              go_wp2_with (at_builtin; refine wpList_append_list rfl _ _ rfl wq.heap.size _ [] rfl ⟨rfl, .inl ⟨rfl, rfl⟩⟩ (some ⟨g, 0, none⟩) g 0 out.length out rfl hAt (by simp only [List.length_nil]; omega) (Nat.le_refl _) ?_)
              intro v1 w1 hown1 hb1
              have hown1' : w1.ownsRow wq.heap.size 39 5 v1 out.length (ccells out) := by first | exact hown1 | simpa using hown1
              have hz1' := hb1.size
              have hbq1 : RowKit.Below w0.heap.size w0 w1 := below2 hbq hb1
              clear x0 x1 x2 x3 x4
              obtain ⟨x0, x1, x2, x3, x4⟩ := (hRc i hlt).step hbq1 hbd
              clear hown1
              go_wp2_with (at_builtin; refine wpList_append_own _ rfl _ _ 29 rfl wq.heap.size 39 i0 (.agg #[.string ⟨#[]⟩, .string ⟨#[]⟩, .int .u64 0, .bool false, .string ⟨#[]⟩]) 5 64 Try.underlying29 hi0 hz0 hz1 hz2 rfl (by decide) _ _ _ rfl (hown1'.alloc _) ⟨w1.heap.size, 0, none⟩ 1 1 (encC cs[i]) rfl rfl (cell_news w1 cs[i] 39) (encC_one _) (by unfold maxLen; (try simp only [List.length_nil]); omega) (by (try simp only [List.length_nil]); omega) (by simp; omega) ?_)
              intro v2 w2 hown2 hgrow _
              have hb2 : RowKit.Below wq.heap.size wq w2 := (hb1.alloc hb1.size _).grown hgrow (by have := hb1.size; simp; omega) (fun k hk => (hown1'.lt k hk).1)
              have hown2' : w2.ownsRow wq.heap.size 39 5 v2 (out ++ [cs[i]]).length (ccells (out ++ [cs[i]])) := by
                rw [List.length_append, ccells_append]
                first | exact hown2 | simpa using hown2
              have hbq2 : RowKit.Below w0.heap.size w0 w2 := below2 hbq hb2
              have hz2' := hb2.size
              clear hown2 hgrow hown1' x0 x1 x2 x3 x4 hb1 hbq1
              go_wp2_with (at_builtin; refine wpList_append_list rfl _ _ rfl wq.heap.size _ (out ++ [cs[i]]) rfl hown2' (some ⟨g, 0, none⟩) g 0 0 [] (by first | rfl | simp) ⟨fun h => absurd h (by simp), fun h => by cases h⟩ (by simp only [List.length_append, List.length_singleton, List.length_nil]; omega) hz2' ?_)
              intro v3 w3 hown3 hb3
              have hown3' : w3.ownsRow wq.heap.size 39 5 v3 (sortL (cs.take (i + 1))).length (ccells (sortL (cs.take (i + 1)))) := by
                rw [HE.out]
                first | exact hown3 | simpa using hown3
              have hbe : RowKit.Below w.heap.size w w3 := (below2 hbel hbq2).trans (hb3.mono (by omega))
              clear hown3 hb3 hown2' hb2 hbq2
              go_wp2
              go_roundw
              case rel => exact ⟨i + 1, by go_num, by omega, own_mono hown3' (by omega), hbe⟩
              case measure => simp [intOf]; omega
            · have hck2 : 0 < c - out.length := by omega
              obtain ⟨x0, x1, x2, x3, x4⟩ := (hRc i hlt).step hbq hbd
              have hws := hbq.size
              go_wp2_with (at_builtin; refine wpList_append_list rfl _ _ rfl wq.heap.size _ [] rfl ⟨rfl, .inl ⟨rfl, rfl⟩⟩ (some ⟨g, 0, none⟩) g 0 c out rfl hAt (by simp only [List.length_nil]; omega) (Nat.le_refl _) ?_)
              intro v1 w1 hown1 hb1
              have hown1' : w1.ownsRow wq.heap.size 39 5 v1 out.length (ccells out) := by first | exact hown1 | simpa using hown1
              have hz1' := hb1.size
              have hbq1 : RowKit.Below w0.heap.size w0 w1 := below2 hbq hb1
              clear x0 x1 x2 x3 x4
              obtain ⟨x0, x1, x2, x3, x4⟩ := (hRc i hlt).step hbq1 hbd
              clear hown1
              go_wp2_with (at_builtin; refine wpList_append_own _ rfl _ _ 29 rfl wq.heap.size 39 i0 (.agg #[.string ⟨#[]⟩, .string ⟨#[]⟩, .int .u64 0, .bool false, .string ⟨#[]⟩]) 5 64 Try.underlying29 hi0 hz0 hz1 hz2 rfl (by decide) _ _ _ rfl (hown1'.alloc _) ⟨w1.heap.size, 0, none⟩ 1 1 (encC cs[i]) rfl rfl (cell_news w1 cs[i] 39) (encC_one _) (by unfold maxLen; (try simp only [List.length_nil]); omega) (by (try simp only [List.length_nil]); omega) (by simp; omega) ?_)
              intro v2 w2 hown2 hgrow _
              have hb2 : RowKit.Below wq.heap.size wq w2 := (hb1.alloc hb1.size _).grown hgrow (by have := hb1.size; simp; omega) (fun k hk => (hown1'.lt k hk).1)
              have hown2' : w2.ownsRow wq.heap.size 39 5 v2 (out ++ [cs[i]]).length (ccells (out ++ [cs[i]])) := by
                rw [List.length_append, ccells_append]
                first | exact hown2 | simpa using hown2
              have hbq2 : RowKit.Below w0.heap.size w0 w2 := below2 hbq hb2
              have hz2' := hb2.size
              clear hown2 hgrow hown1' x0 x1 x2 x3 x4 hb1 hbq1
              go_wp2_with (at_builtin; refine wpList_append_list rfl _ _ rfl wq.heap.size _ (out ++ [cs[i]]) rfl hown2' (some ⟨g, out.length * 5, none⟩) g 0 (c - out.length) [] (by first | rfl | simp) ⟨fun h => absurd h (by simp), fun h => by cases h⟩ (by simp only [List.length_append, List.length_singleton, List.length_nil]; omega) hz2' ?_)
              intro v3 w3 hown3 hb3
              have hown3' : w3.ownsRow wq.heap.size 39 5 v3 (sortL (cs.take (i + 1))).length (ccells (sortL (cs.take (i + 1)))) := by
                rw [HE.out]
                first | exact hown3 | simpa using hown3
              have hbe : RowKit.Below w.heap.size w w3 := (below2 hbel hbq2).trans (hb3.mono (by omega))
              clear hown3 hb3 hown2' hb2 hbq2
              go_wp2
              go_roundw
              case rel => exact ⟨i + 1, by go_num, by omega, own_mono hown3' (by omega), hbe⟩
              case measure => simp [intOf]; omega
    · have hie : i = cs.length := by omega
      subst hie
      rw [List.take_length] at hown
      go_wp2
      go_ret
      exact ⟨_, rfl, hown, hbel⟩

end Go.Proofs.Ytnpjbdbhjbccbaa
