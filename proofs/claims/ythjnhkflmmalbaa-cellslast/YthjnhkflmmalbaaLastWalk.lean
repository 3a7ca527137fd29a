/-
  The walk of the law CellsLast.
-/
import Derived.Test.YthjnhkflmmalbaaCApp
namespace Go.Proofs.Ythjnhkflmmalbaa
open Go.RowKit Go.BigFrame Go.Sort
attribute [local go_sem] size_bstr toList_bstr ls_def

theorem newL_length (l : List Cl) : (newL l).length ≤ (sortL l).length := ddl_length _ _
theorem ins_length' : ∀ (l : List Cl) (c : Cl), (ins l c).length ≤ l.length + 1
  | [], c => by simp [ins]
  | x :: xs, c => by
    have := ins_length' xs c
    rw [ins]
    split
    · simp only [List.length_cons]; omega
    · split <;> simp
theorem sortL_length' (l : List Cl) : (sortL l).length ≤ l.length := by
  have : ∀ (l acc : List Cl), (l.foldl ins acc).length ≤ acc.length + l.length := by
    intro l
    induction l with
    | nil => intro acc; simp
    | cons c l ih =>
      intro acc
      have h1 := ih (ins acc c)
      have h2 := ins_length' acc c
      simp only [List.foldl_cons, List.length_cons]
      omega
  have h := this l []
  simp only [List.length_nil, Nat.zero_add] at h
  exact h
theorem countP_take {α : Type} (f : α → Bool) {l : List α} {k : Nat} (h : k < l.length) : (l.take (k + 1)).countP f = (l.take k).countP f + (if f l[k] then 1 else 0) := by
  rw [List.take_succ_eq_append_getElem h, List.countP_append]
  simp
theorem new_one {l ns : List Cl} (h : NewSpec l ns) {x : Cl} (hx : x ∈ l) : ns.countP (fun n => plc n x) = 1 := by
  obtain ⟨n, hn, p, _⟩ := h.best x hx
  have hap := h.apart
  clear h
  induction ns with
  | nil => simp at hn
  | cons m ms ih =>
    obtain ⟨a1, a2⟩ := List.pairwise_cons.1 hap
    rcases List.mem_cons.1 hn with rfl | hn
    · rw [List.countP_cons_of_pos (by exact p)]
      have : ms.countP (fun n => plc n x) = 0 := by
        rw [List.countP_eq_zero]
        intro y hy hp
        have := a1 y hy
        rw [plc_trans p (plc_symm hp)] at this
        cases this
      rw [this]
    · have hm : plc m x = false := by
        cases hq : plc m x with
        | false => rfl
        | true =>
          have := a1 n hn
          rw [plc_trans hq (plc_symm p)] at this
          cases this
      rw [List.countP_cons_of_neg (by rw [hm]; simp)]
      exact ih hn a2
theorem new_ver {l ns : List Cl} (h : NewSpec l ns) {x n : Cl} (hx : x ∈ l) (hn : n ∈ ns) (p : plc n x = true) : ¬ n.ver < x.ver := by
  obtain ⟨m, hm, p2, q⟩ := h.best x hx
  have : m = n := apart_one h.apart hm hn (plc_trans p2 (plc_symm p))
  subst this
  rw [ccl_plc p] at q
  unfold Lib.compareInt at q
  (repeat' split at q) <;> omega

set_option maxHeartbeats 4000000 in
set_option maxRecDepth 100000 in
theorem last_walk (q : Option Addr) (b off cap : Nat) (cs : List Cl) (q' : Option Addr) (b' off' cap' : Nat) (cs' : List Cl) (w : World) (hq : 0 < cs.length → q = some ⟨b, off, none⟩ ∧ CRow w b off cs ∧ b < w.heap.size) (hf : ∀ c ∈ cs, Fits c) (hn : cs.length * 64 ≤ 140737488351232) (hcap : cs.length ≤ cap) (hnil : q = none → cs = [] ∧ cap = 0)
    (hq' : 0 < cs'.length → q' = some ⟨b', off', none⟩ ∧ CRow w b' off' cs' ∧ b' < w.heap.size) (hf' : ∀ c ∈ cs', Fits c) (hn' : cs'.length * 64 ≤ 140737488351232) (hcap' : cs'.length ≤ cap') (hnil' : q' = none → cs' = [] ∧ cap' = 0) :
    Calls Try.prog 6 #[.slice q cs.length cap, .slice q' cs'.length cap'] w fun e w' => e = .returned (.bool true) ∧ RowKit.Below w.heap.size w w' := by
  have hdl : (cs.take 150).length = min cs.length 150 := by rw [List.length_take, Nat.min_comm]
  have hdl' : (cs'.take 150).length = min cs'.length 150 := by rw [List.length_take, Nat.min_comm]
  have hmin : (min (cs.length : Int) 150).toNat = (cs.take 150).length := by omega
  have hmin' : (min (cs'.length : Int) 150).toNat = (cs'.take 150).length := by omega
  have hd : (cs.take 150).length ≤ 150 := by omega
  have hd' : (cs'.take 150).length ≤ 150 := by omega
  have hA : Arg w q b off cap (cs.take 150) := ⟨fun h => ⟨(hq (by omega)).1, (hq (by omega)).2.1.take 150, (hq (by omega)).2.2⟩, fun h => ⟨by rw [(hnil h).1]; rfl, (hnil h).2⟩⟩
  have hA' : Arg w q' b' off' cap' (cs'.take 150) := ⟨fun h => ⟨(hq' (by omega)).1, (hq' (by omega)).2.1.take 150, (hq' (by omega)).2.2⟩, fun h => ⟨by rw [(hnil' h).1]; rfl, (hnil' h).2⟩⟩
  have hfd : ∀ c ∈ cs.take 150, Fits c := fun c hc => hf c (List.mem_of_mem_take hc)
  have hfd' : ∀ c ∈ cs'.take 150, Fits c := fun c hc => hf' c (List.mem_of_mem_take hc)
  have hown0 : ∀ (W : World) (B : Nat), W.ownsRow B 34 5 (.slice none 0 0) ([] : List Cl).length (ccells []) := fun W B => ⟨rfl, .inl ⟨rfl, rfl⟩⟩
  clear hdl hdl' hq hq' hf hf'
  generalize cs.take 150 = ds at *
  generalize cs'.take 150 = ds' at *
  go_enter Try.func6, Try.ntmps6
  go_wp2_with fail
  refine (works_any _).mono ?_
  rintro e w1 ⟨rfl, hb1⟩
  replace hA := hA.next hb1
  replace hA' := hA'.next hb1
  have hbd : 0 < ds.length → b < w1.heap.size := fun h => (hA.at_ h).2.2
  have hbd' : 0 < ds'.length → b' < w1.heap.size := fun h => (hA'.at_ h).2.2
  have hw1 := hb1.size
  go_wp2_with (at_builtin; refine wpList_append_list rfl _ _ rfl w1.heap.size _ [] rfl (hown0 w1 _) q b off cap ds rfl hA (by simp; omega) (Nat.le_refl _) ?_)
  intro v2 w2 hown2 hb2
  replace hA := hA.next hb2
  replace hA' := hA'.next hb2
  have hz2 := hb2.size
  replace hb2 := below2 hb1 hb2
  clear hb1
  go_wp2_with (at_builtin; refine wpList_append_list rfl _ _ rfl w1.heap.size _ ds rfl hown2 q' b' off' cap' ds' rfl hA' (by omega) hz2 ?_)
  intro v3 w3 hown3 hb3
  have hob : w3.ownsRow w1.heap.size 34 5 v3 (ds ++ ds').length (ccells (ds ++ ds')) := by first | exact hown3 | (rw [List.length_append]; exact hown3)
  replace hA := hA.step hb3 hbd
  replace hA' := hA'.step hb3 hbd'
  replace hb3 := hb2.trans (hb3.mono hw1)
  have hAb := own_arg hob
  clear hb2 hown2 hown3 hob hz2 hbd hbd' hw1
  obtain ⟨p3, c3, g3, rfl, _, hAb, _⟩ := hAb
  have hlb : (ds ++ ds').length ≤ 300 := by rw [List.length_append]; omega
  have hfb : ∀ c ∈ ds ++ ds', Fits c := fun c hc => (List.mem_append.1 hc).elim (hfd c) (hfd' c)
  have hnd : (newL ds).length ≤ 150 := Nat.le_trans (newL_length ds) (Nat.le_trans (sortL_length' ds) hd)
  have hnd' : (newL ds').length ≤ 150 := Nat.le_trans (newL_length ds') (Nat.le_trans (sortL_length' ds') hd')
  have hnb : (newL (ds ++ ds')).length ≤ 300 := Nat.le_trans (newL_length _) (Nat.le_trans (sortL_length' _) hlb)
  have hNS := newL_spec (ds ++ ds')
  have hboth := newL_both ds ds'
  have hfp : ∀ c ∈ newL ds ++ newL ds', Fits c := fun c hc => (List.mem_append.1 hc).elim (fun h => hfd c ((newL_spec ds).sub c h)) (fun h => hfd' c ((newL_spec ds').sub c h))
  have HNS : Hid _ := hNS
  have HBO : Hid _ := hboth
  clear hNS hboth
  generalize ds ++ ds' = bo at *
  go_wp2_with fail
  refine (Newest_any q b off cap ds w3 hA.at_ hfd (by omega)).mono ?_
  rintro e w4 ⟨v4, rfl, hown4, hb4⟩
  replace hA' := hA'.next hb4
  replace hAb := hAb.next hb4
  have hz4 := hb4.size
  have hbg3 : 0 < bo.length → g3 < w4.heap.size := fun h => (hAb.at_ h).2.2
  replace hb4 := below2 hb3 hb4
  obtain ⟨p4, c4, g4, rfl, _, hA4, _⟩ := own_arg hown4
  clear hown4 hA hb3
  go_wp2_with (at_builtin; refine wpList_append_list rfl _ _ rfl w4.heap.size _ [] rfl (hown0 w4 _) p4 g4 0 c4 (newL ds) rfl hA4 (by simp; omega) (Nat.le_refl _) ?_)
  intro v5 w5 hown5 hb5
  replace hA' := hA'.next hb5
  replace hAb := hAb.next hb5
  have hz5 := hb5.size
  have hw4 := hb4.size
  replace hb5 := below2 hb4 hb5
  clear hA4 hb4
  go_wp2_with fail
  refine (Newest_any q' b' off' cap' ds' w5 hA'.at_ hfd' (by omega)).mono ?_
  rintro e w6 ⟨v6, rfl, hown6, hb6⟩
  replace hAb := hAb.next hb6
  have hown5' := own_cbelow hown5 hb6
  have hz6 := hb6.size
  replace hb6 := below2 hb5 hb6
  obtain ⟨p6, c6, g6, rfl, _, hA6, _⟩ := own_arg hown6
  clear hown6 hA' hb5 hown5
  go_wp2_with (at_builtin; refine wpList_append_list rfl _ _ rfl w4.heap.size _ (newL ds) rfl hown5' p6 g6 0 c6 (newL ds') rfl hA6 (by omega) (by omega) ?_)
  intro v7 w7 hown7 hb7
  have hop : w7.ownsRow w4.heap.size 34 5 v7 (newL ds ++ newL ds').length (ccells (newL ds ++ newL ds')) := by first | exact hown7 | (rw [List.length_append]; exact hown7)
  replace hAb := hAb.step hb7 hbg3
  replace hb7 := hb6.trans (hb7.mono hw4)
  obtain ⟨p7, c7, g7, rfl, _, hAp, _⟩ := own_arg hop
  have hlp : (newL ds ++ newL ds').length ≤ 300 := by rw [List.length_append]; omega
  clear hown7 hop hA6 hown5' hb6 hbg3
  generalize newL ds ++ newL ds' = pa at *
  go_wp2_with fail
  refine (Newest_any p3 g3 0 c3 bo w7 hAb.at_ hfb (by omega)).mono ?_
  rintro e w8 ⟨v8, rfl, hown8, hb8⟩
  replace hAb := hAb.next hb8
  replace hAp := hAp.next hb8
  replace hb8 := below2 hb7 hb8
  obtain ⟨p8, c8, g8, rfl, _, hAn, _⟩ := own_arg hown8
  clear hown8 hb7
  generalize newL bo = ns at *
  go_wp2
  go_loopw [8] (fun s8 wr => ∃ i : Nat, s8 = .int .i64 (i : Int) ∧ i ≤ bo.length ∧ RowKit.Below w8.heap.size w8 wr) (fun s8 _ => bo.length - (intOf s8).toNat)
  case atStart => exact ⟨0, rfl, by omega, RowKit.Below.refl _ _⟩
  case round =>
    obtain ⟨i, rfl, hil, hbel⟩ := hrel
    by_cases hlt : i < bo.length
    · obtain ⟨rfl, hRb, hgb⟩ := hAb.at_ (by omega)
      have hiz : (i : Int) < (bo.length : Int) := by omega
      go_wp2
      go_loopw [9, 10] (fun s9 s10 wr => ∃ k f : Nat, s10 = .int .i64 (k : Int) ∧ s9 = .int .i64 (f : Int) ∧ k ≤ ns.length ∧ f ≤ k ∧ Hid (f = (ns.take k).countP fun n => plc n bo[i]) ∧ RowKit.Below w8.heap.size w8 wr) (fun _ s10 _ => ns.length - (intOf s10).toNat)
      case atStart => exact ⟨0, 0, rfl, rfl, by omega, by omega, by show _ = _; rfl, hbel⟩
      case round =>
        obtain ⟨k, f, rfl, rfl, hkl, hfk, HF, hbel2⟩ := hrel
        clear hbel
        by_cases hkt : k < ns.length
        · obtain ⟨rfl, hRn, hgn⟩ := hAn.at_ (by omega)
          have hkz : (k : Int) < (ns.length : Int) := by omega
          have hAx := (hRb i hlt).step hbel2 hgb
          have hAk := (hRn k hkt).step hbel2 hgn
          rw [Nat.zero_add] at hAx hAk
          have hver : plc ns[k] bo[i] = true → ¬ ns[k].ver < bo[i].ver := fun p => new_ver HNS.out (List.getElem_mem hlt) (List.getElem_mem hkt) p
          have HF2 : Hid (f + (if plc ns[k] bo[i] = true then 1 else 0) = (ns.take (k + 1)).countP fun n => plc n bo[i]) := by show _ = _; rw [countP_take _ hkt, HF.out]
          clear HF
          have hpl : (ns[k].row == bo[i].row && ns[k].col == bo[i].col) = plc ns[k] bo[i] := rfl
          generalize plc ns[k] bo[i] = pl at *
          generalize ns[k] = c at *
          generalize bo[i] = d at *
          obtain ⟨r, kk, v, z, x⟩ := c
          obtain ⟨r', kk', v', z', x'⟩ := d
          obtain ⟨c0, c1, c2, c3, c4⟩ := hAk
          obtain ⟨d0, d1, d2, d3, d4⟩ := hAx
          simp only at c0 c1 c2 c3 c4 d0 d1 d2 d3 d4 hver hpl
          by_cases h1 : r = r'
          · have h1' : (r == r') = true := by simpa using h1
            by_cases h2 : kk = kk'
            · have h2' : (kk == kk') = true := by simpa using h2
              obtain rfl : pl = true := by rw [← hpl, h1', h2']; rfl
              have hv := hver rfl
              have hvd : decide (v < v') = false := by rw [decide_eq_false_iff_not]; exact hv
              have e2 := HF2.out
              rw [if_pos rfl] at e2
              have HF3 : Hid _ := e2
              clear hver HF2 h1 h2 e2 hv hpl
              go_wp2_with fail
              go_quiet (fail)
              have hbq := below_drewN hbel2 nq
              replace c2 : ((_ : World).drewN nq).cell? ⟨g8, k * 5 + 2, none⟩ = _ := c2
              replace d2 : ((_ : World).drewN nq).cell? ⟨g3, i * 5 + 2, none⟩ = _ := d2
              clear c0 c1 c3 c4 d0 d1 d3 d4 hbel2
              generalize World.drewN _ nq = wq at *
              go_wp2_with fail
              go_quiet (fail)
              have hbz := below_drewN hbq nq
              clear c2 d2 hbq
              go_wp2
              go_roundw
              case rel => exact ⟨k + 1, f + 1, by go_num, by go_num, by omega, by omega, HF3, hbz⟩
              case measure => simp [intOf]; omega
            · have h2' : (kk == kk') = false := by simpa using h2
              obtain rfl : pl = false := by rw [← hpl, h1', h2']; rfl
              have e2 := HF2.out
              rw [if_neg (by simp), Nat.add_zero] at e2
              have HF3 : Hid _ := e2
              clear hver HF2 h1 h2 e2 hpl
              go_wp2_with fail
              go_quiet (fail)
              have hbq := below_drewN hbel2 nq
              clear c0 c1 c2 c3 c4 d0 d1 d2 d3 d4 hbel2
              go_wp2
              go_roundw
              case rel => exact ⟨k + 1, f, by go_num, rfl, by omega, by omega, HF3, hbq⟩
              case measure => simp [intOf]; omega
          · have h1' : (r == r') = false := by simpa using h1
            obtain rfl : pl = false := by rw [← hpl, h1']; rfl
            have e2 := HF2.out
            rw [if_neg (by simp), Nat.add_zero] at e2
            have HF3 : Hid _ := e2
            clear hver HF2 h1 e2 hpl
            go_wp2_with fail
            go_quiet (fail)
            have hbq := below_drewN hbel2 nq
            clear c0 c1 c2 c3 c4 d0 d1 d2 d3 d4 hbel2
            go_wp2
            go_roundw
            case rel => exact ⟨k + 1, f, by go_num, rfl, by omega, by omega, HF3, hbq⟩
            case measure => simp [intOf]; omega
        · have hke : k = ns.length := by omega
          subst hke
          have hf1 : f = 1 := by rw [HF.out, List.take_length]; exact new_one HNS.out (List.getElem_mem hlt)
          clear HF
          subst hf1
          go_wp2
          go_roundw
          case rel => exact ⟨i + 1, by go_num, by omega, hbel2⟩
          case measure => simp [intOf]; omega
    · have hie : i = bo.length := by omega
      subst hie
      replace hAp := hAp.next hbel
      replace hAn := hAn.next hbel
      have hbe := below2 hb8 hbel
      clear hb8 hbel hAb
      go_wp2_with fail
      refine (Newest_any p7 g7 0 c7 pa _ hAp.at_ hfp (by omega)).mono ?_
      rintro e w10 ⟨v10, rfl, hown10, hb10⟩
      rw [HBO.out] at hown10
      replace hAn := hAn.next hb10
      replace hb10 := below2 hbe hb10
      obtain ⟨p10, c10, g10, rfl, _, hAm, _⟩ := own_arg hown10
      clear hown10 hAp hbe
      go_wp2_with fail
      refine (same_any p8 p10 g8 0 c8 g10 0 c10 ns w10 (hq_two hAn.at_) (hq_two hAm.at_) (by omega)).mono ?_
      rintro e w11 ⟨rfl, hb11⟩
      replace hb11 := below2 hb10 hb11
      clear hAn hAm hb10
      go_wp2
      go_ret
      exact ⟨rfl, hb11⟩

end Go.Proofs.Ythjnhkflmmalbaa
