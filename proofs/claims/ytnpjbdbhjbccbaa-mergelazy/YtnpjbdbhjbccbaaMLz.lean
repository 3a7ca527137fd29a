/-
  The law MergeLazy, walked.
-/
import Derived.Test.YtnpjbdbhjbccbaaMLz1
import Derived.Test.YtnpjbdbhjbccbaaMNw
namespace Go.Proofs.Ytnpjbdbhjbccbaa
open Go.RowKit Go.BigFrame Go.Sort
attribute [local go_sem] size_bstr toList_bstr ls_def

set_option maxHeartbeats 4000000 in
set_option maxRecDepth 100000 in
theorem MLazy_any (q q' : Option Addr) (b off cap b' off' cap' : Nat) (cs cs' : List Cl) (many : Int) (w : World) (hA : Arg w q b off cap cs) (hA' : Arg w q' b' off' cap' cs') (hf : ∀ c ∈ cs, Fits c) (hf' : ∀ c ∈ cs', Fits c) (hcap : cs.length ≤ cap) (hcap' : cs'.length ≤ cap') (hm0 : 0 ≤ many) (hm1 : many ≤ 255) :
    Calls Try.prog 7 #[.slice q cs.length cap, .slice q' cs'.length cap', .int .u8 many] w fun e w' => e = .returned (.bool true) ∧ Below w.heap.size w w' := by
  obtain ⟨m, hm⟩ : ∃ m, m = (cs.take 100).length := ⟨_, rfl⟩
  have hml : m ≤ 100 ∧ m ≤ cs.length := by rw [List.length_take] at hm; omega
  have hmi : (min (cs.length : Int) 100) = (m : Int) := by rw [List.length_take] at hm; omega
  have hhd := fun W => mhead_run (P := Try.prog) (t := 29) (q := q) (len := cs.length) (cap := cap) (n := m) (s := 5) Try.underlying29 (fun W => Try.sizeOf39 W) (by omega) W
  obtain ⟨m', hm'⟩ : ∃ m', m' = (cs'.take 100).length := ⟨_, rfl⟩
  have hml' : m' ≤ 100 ∧ m' ≤ cs'.length := by rw [List.length_take] at hm'; omega
  have hmi' : (min (cs'.length : Int) 100) = (m' : Int) := by rw [List.length_take] at hm'; omega
  have hhd' := fun W => mhead_run (P := Try.prog) (t := 29) (q := q') (len := cs'.length) (cap := cap') (n := m') (s := 5) Try.underlying29 (fun W => Try.sizeOf39 W) (by omega) W
  have hcc : (m : Int) ≤ (cap : Int) := by omega
  have hcc' : (m' : Int) ≤ (cap' : Int) := by omega
  replace hA := hA.take 100
  replace hA' := hA'.take 100
  have hfd : ∀ c ∈ cs.take 100, Fits c := fun c hc => hf c (List.mem_of_mem_take hc)
  have hfd' : ∀ c ∈ cs'.take 100, Fits c := fun c hc => hf' c (List.mem_of_mem_take hc)
  clear hf hf'
  generalize cs.take 100 = ds at *
  generalize cs'.take 100 = ds' at *
  have hso := fun W (h : Arg W q b off cap ds) => Sort_any q b off cap ds W h.at_ hfd (by omega)
  have hso' := fun W (h : Arg W q' b' off' cap' ds') => Sort_any q' b' off' cap' ds' W h.at_ hfd' (by omega)
  rw [← hm] at hso
  rw [← hm'] at hso'
  have hxf : ∀ c ∈ sortL ds, Fits c := fun c hc => hfd c ((sortL_spec _).sub c hc)
  have hyf : ∀ c ∈ sortL ds', Fits c := fun c hc => hfd' c ((sortL_spec _).sub c hc)
  have hxl : (sortL ds).length ≤ 100 := Nat.le_trans (sort_len _) (by omega)
  have hyl : (sortL ds').length ≤ 100 := Nat.le_trans (sort_len _) (by omega)
  have hxa := (sortL_spec ds).asc
  have hya := (sortL_spec ds').asc
  clear hm hm' hfd hfd'
  go_enter Try.func7, Try.ntmps7
  go_wp2_with fail
  refine (works12_any _).mono ?_
  rintro e w1 ⟨rfl, hb1⟩
  have h1 := hso w1 (hA.next hb1)
  clear hso
  go_wp2_with fail
  refine h1.mono ?_
  rintro e w2 ⟨v2, rfl, hown2, hb2⟩
  have hb12 := below2 hb1 hb2
  have h2 := hso' w2 (hA'.next hb12)
  clear hso' h1
  go_wp2_with fail
  refine h2.mono ?_
  rintro e w3 ⟨v3, rfl, hown3, hb3⟩
  have hb13 := below2 hb12 hb3
  replace hown2 := own_cbelow hown2 hb3
  generalize sortL ds = xs at *
  generalize sortL ds' = ys at *
  obtain ⟨px, cx, gx, rfl, hgx, hX, _⟩ := own_arg hown2
  obtain ⟨py, cy, gy, rfl, hgy, hY, _⟩ := own_arg hown3
  clear h2 hhd hhd' hown2 hown3
  have ki : ((w3.alloc (.cells #[.int .i64 0] 3)).alloc (.cells #[.int .i64 0] 3)).heap[w3.heap.size]? = some (.cells #[.int .i64 0] 3 (0, 0)) := (heap_alloc_old _ _ (by simp)).trans (heap_alloc_new _ _)
  have kk : ((w3.alloc (.cells #[.int .i64 0] 3)).alloc (.cells #[.int .i64 0] 3)).heap[w3.heap.size + 1]? = some (.cells #[.int .i64 0] 3 (0, 0)) := by
    have := heap_alloc_new (w3.alloc (.cells #[.int .i64 0] 3)) (.cells #[.int .i64 0] 3)
    have e : (w3.alloc (.cells #[.int .i64 0] 3)).heap.size = w3.heap.size + 1 := by simp
    rw [e] at this
    exact this
  have hB4 : Below w3.heap.size w3 ((w3.alloc (.cells #[.int .i64 0] 3)).alloc (.cells #[.int .i64 0] 3)) := ((Below.refl _ _).alloc (Nat.le_refl _) _).alloc (by simp) _
  have hs4 : ((w3.alloc (.cells #[.int .i64 0] 3)).alloc (.cells #[.int .i64 0] 3)).heap.size = w3.heap.size + 2 := by simp
  go_wp2_with fail
  generalize (w3.alloc (.cells #[.int .i64 0] 3)).alloc (.cells #[.int .i64 0] 3) = W4 at *
  have hc1 := counted_any px gx 0 cx xs W4 (hX.next hB4) hxf (by omega) w3.heap.size ki
  refine hc1.mono ?_
  rintro e w5 ⟨nb, sb, va, la, rfl, hN, hJ, hF, hb5⟩
  have hB5 := below2 hB4 hb5
  have hs5 := hb5.size
  have kk5 := (hb5.block _ (by omega)).trans kk
  have hc2 := counted_any py gy 0 cy ys w5 (hY.next hB5) hyf (by omega) (w3.heap.size + 1) kk5
  have HF : Hid _ := hF
  have hFl := hJ.lt
  clear hc1 hF kk
  go_wp2_with fail
  refine hc2.mono ?_
  rintro e w6 ⟨nb', sb', va', la', rfl, hN', hJ', hF', hb6⟩
  have hB6 := below2 hB5 hb6
  have hs6 := hb6.size
  have hJ6 := hJ.kept (w' := w6) (fun i hi => hb6.block i (hFl i hi))
  have hFl' := hJ'.lt
  obtain ⟨ins, hins⟩ : ∃ ins, ins = [cIn nb sb w3.heap.size va la xs, cIn nb' sb' (w3.heap.size + 1) va' la' ys] := ⟨_, rfl⟩
  have hall := All_any (some ⟨w6.heap.size, 0, none⟩) w6.heap.size 0 2 ins (w6.alloc (.cells #[.func (.func 52) #[] #[.pointer (some ⟨nb, 0, none⟩), .pointer (some ⟨sb, 0, none⟩)], .func (.func 52) #[] #[.pointer (some ⟨nb', 0, none⟩), .pointer (some ⟨sb', 0, none⟩)]] 25))
    (fun _ => ⟨rfl, by simp, fun k x hx => by
      have hc := (mcells (heap_alloc_new w6 (.cells #[.func (.func 52) #[] #[.pointer (some ⟨nb, 0, none⟩), .pointer (some ⟨sb, 0, none⟩)], .func (.func 52) #[] #[.pointer (some ⟨nb', 0, none⟩), .pointer (some ⟨sb', 0, none⟩)]] 25))).1
      rw [Nat.zero_add, hc]
      subst hins
      match k, hx with
      | 0, hx => cases hx; rfl
      | 1, hx => cases hx; rfl⟩)
    (fun x hx => by
      subst hins
      simp at hx
      rcases hx with rfl | rfl
      · exact (cIn_row hN hxf hJ6).below (B := w6.heap.size) hJ6.lt ((Below.refl _ _).alloc (Nat.le_refl _) _)
      · exact (cIn_row hN' hyf hJ').below (B := w6.heap.size) hFl' ((Below.refl _ _).alloc (Nat.le_refl _) _))
    (by
      subst hins
      refine List.pairwise_cons.2 ⟨fun y hy => ?_, by simp⟩
      simp at hy
      subst hy
      intro i hi hi'
      have h1 := hFl i hi
      rcases HF.out i hi with h2 | h2 <;> rcases hF' i hi' with h3 | h3 <;> omega)
    (by subst hins; simp)
    (fun x hx c hc => by
      subst hins
      simp at hx
      rcases hx with rfl | rfl
      · exact hxf c hc
      · exact hyf c hc)
  have hil : ins.length = 2 := by subst hins; rfl
  rw [hil] at hall
  have hFa : ∀ x ∈ ins, ∀ i, x.F i → w3.heap.size ≤ i := fun x hx i hi => by
    subst hins
    simp at hx
    rcases hx with rfl | rfl
    · rcases HF.out i hi with h2 | h2 <;> omega
    · rcases hF' i hi with h2 | h2 <;> omega
  have hux : siftL upF none xs = xs := up_asc xs none hxa (fun y hy => (by cases hy))
  have huy : siftL upF none ys = ys := up_asc ys none hya (fun y hy => (by cases hy))
  have htl : (allL ins).length ≤ 200 := by
    subst hins
    refine Nat.le_trans (sort_len _) ?_
    show ((siftL upF none xs) ++ ((siftL upF none ys) ++ [])).length ≤ 200
    rw [hux, huy, List.append_nil, List.length_append]
    omega
  have ki6 := (hB6.block)
  have i6 : w6.heap[w3.heap.size]? = some (.cells #[.int .i64 0] 3 (0, 0)) := ((hb6.block _ (by omega)).trans (hb5.block _ (by omega))).trans ki
  have k6 : w6.heap[w3.heap.size + 1]? = some (.cells #[.int .i64 0] 3 (0, 0)) := (hb6.block _ (by omega)).trans kk5
  have hB7 : Below w6.heap.size w6 (w6.alloc (.cells #[.func (.func 52) #[] #[.pointer (some ⟨nb, 0, none⟩), .pointer (some ⟨sb, 0, none⟩)], .func (.func 52) #[] #[.pointer (some ⟨nb', 0, none⟩), .pointer (some ⟨sb', 0, none⟩)]] 25)) := (Below.refl _ _).alloc (Nat.le_refl _) _
  have HI : Hid _ := hins
  have HUX : Hid _ := hux
  have HUY : Hid _ := huy
  clear hc2 hins hux huy ki kk5 ki6 hil
  go_wp2_with fail
  refine hall.mono ?_
  rintro e w8 ⟨vb, F, J, rfl, hT, hJ8, hF8, hb8, hLz⟩
  have hB68 := below2 hB7 hb8
  have hB8 := below2 hB6 hB68
  have hs8 := hB68.size
  have i8 := (hB68.block _ (by omega)).trans i6
  have k8 := (hB68.block _ (by omega)).trans k6
  have ci8 : w8.cell? ⟨w3.heap.size, 0, none⟩ = some (.int .i64 0) := (mcells i8).1 0
  have ck8 : w8.cell? ⟨w3.heap.size + 1, 0, none⟩ = some (.int .i64 0) := (mcells k8).1 0
  have HF8 : Hid (∀ i, F i → w3.heap.size ≤ i) := fun i hi => by
    rcases hF8 i hi with ⟨x, hx, k⟩ | k
    · exact hFa x hx i k
    · have : w6.heap.size ≤ (w6.alloc (.cells #[.func (.func 52) #[] #[.pointer (some ⟨nb, 0, none⟩), .pointer (some ⟨sb, 0, none⟩)], .func (.func 52) #[] #[.pointer (some ⟨nb', 0, none⟩), .pointer (some ⟨sb', 0, none⟩)]] 25)).heap.size := hB7.size
      omega
  clear hall hF8 hFa hb8 hB7 i6 k6
  by_cases hmz : many = 0
  · subst hmz
    go_wp2_with fail
    refine (List_zero _ _ w8).mono ?_
    rintro e w9 ⟨v9, rfl, _, hb9⟩
    have ci9 : w9.cell? ⟨w3.heap.size, 0, none⟩ = some (.int .i64 0) := by rw [hb9.cell (p := ⟨w3.heap.size, 0, none⟩) (blk_lt i8)]; exact ci8
    have ck9 : w9.cell? ⟨w3.heap.size + 1, 0, none⟩ = some (.int .i64 0) := by rw [hb9.cell (p := ⟨w3.heap.size + 1, 0, none⟩) (blk_lt k8)]; exact ck8
    have hfin := below2 hb13 (below2 hB8 hb9)
    clear ci8 ck8
    go_wp2
    go_ret
    exact ⟨rfl, hfin⟩
  · have hlist := List_row hT 0 many w8 hJ8 (by omega) (by omega)
    have hmb : (many == 0) = false := by rw [beq_eq_false_iff_ne]; exact hmz
    have hcv : IntKind.i64.wrap many = many := by rw [IntKind.wrap_i64]; omega
    go_wp2_with fail
    refine hlist.mono ?_
    rintro e w9 ⟨v9, rfl, hown9, hJ9, hk9⟩
    have hB9 := below2' hB8 hk9 HF8.out
    have hlz := hLz _ w9 hJ9
    have htk : (allL ins).take (0 + askN ((allL ins).length - 0) many.toNat) = ((allL ins).drop 0).take many.toNat := by
      rw [List.drop_zero, Nat.zero_add, Nat.sub_zero]
      unfold askN
      split
      · rw [List.take_of_length_le (by omega), List.take_of_length_le (by omega)]
      · rfl
    unfold LazyQ at hlz
    rw [htk] at hlz
    have htl9 : (((allL ins).drop 0).take many.toNat).length ≤ 200 := by rw [List.drop_zero, List.length_take]; omega
    generalize ((allL ins).drop 0).take many.toNat = told at *
    obtain ⟨p9, c9, g9, rfl, hg9, hT9, _⟩ := own_arg hown9
    obtain ⟨m1, hm1, hj1, ht1⟩ := hlz (cIn nb sb w3.heap.size va la xs) (by rw [HI.out]; simp) HUX.out (by simp [cIn])
    obtain ⟨m2, hm2, hj2, ht2⟩ := hlz (cIn nb' sb' (w3.heap.size + 1) va' la' ys) (by rw [HI.out]; simp) HUY.out (by simp [cIn])
    have hle1 : m1 ≤ aheadN xs told + 1 := ahead_le hm1 ht1
    have hle2 : m2 ≤ aheadN ys told + 1 := ahead_le hm2 ht2
    have hx1 : m1 ≤ xs.length + 1 := hm1
    have hx2 : m2 ≤ ys.length + 1 := hm2
    have p1 : w9.heap[w3.heap.size]? = some (.cells #[.int .i64 (m1 : Int)] 3 (0, 0)) := by
      have h1 : CntJ nb sb w3.heap.size va la xs m1 w9 := hj1
      have h2 := h1.p
      rw [IntKind.wrap_i64, show ((m1 : Int) + 9223372036854775808) % 18446744073709551616 - 9223372036854775808 = (m1 : Int) by omega] at h2
      exact h2
    have p2 : w9.heap[w3.heap.size + 1]? = some (.cells #[.int .i64 (m2 : Int)] 3 (0, 0)) := by
      have h1 : CntJ nb' sb' (w3.heap.size + 1) va' la' ys m2 w9 := hj2
      have h2 := h1.p
      rw [IntKind.wrap_i64, show ((m2 : Int) + 9223372036854775808) % 18446744073709551616 - 9223372036854775808 = (m2 : Int) by omega] at h2
      exact h2
    have c1 : w9.cell? ⟨w3.heap.size, 0, none⟩ = some (.int .i64 (m1 : Int)) := (mcells p1).1 0
    have c2 : w9.cell? ⟨w3.heap.size + 1, 0, none⟩ = some (.int .i64 (m2 : Int)) := (mcells p2).1 0
    have q1 := fun d os => cell_regrown c1 d os
    have q2 := fun d os => cell_regrown c2 d os
    have hal1 : aheadN xs told ≤ xs.length := by unfold aheadN; exact (List.takeWhile_sublist _).length_le
    have hal2 : aheadN ys told ≤ ys.length := by unfold aheadN; exact (List.takeWhile_sublist _).length_le
    have hX9 := hX.next hB9
    have hY9 := hY.next hB9
    have ha1 := fun d os => ahead_any px p9 gx 0 cx g9 0 c9 xs told (grow (redrawn w9 d) os) (fun h0 => ⟨((hX9.next (below_regrown w9 d os)).at_ h0).1, ((hX9.next (below_regrown w9 d os)).at_ h0).2.1⟩) (fun h0 => ⟨((hT9.next (below_regrown w9 d os)).at_ h0).1, ((hT9.next (below_regrown w9 d os)).at_ h0).2.1⟩) (by omega) (by omega)
    have ha2 := fun d os => ahead_any py p9 gy 0 cy g9 0 c9 ys told (grow (redrawn w9 d) os) (fun h0 => ⟨((hY9.next (below_regrown w9 d os)).at_ h0).1, ((hY9.next (below_regrown w9 d os)).at_ h0).2.1⟩) (fun h0 => ⟨((hT9.next (below_regrown w9 d os)).at_ h0).1, ((hT9.next (below_regrown w9 d os)).at_ h0).2.1⟩) (by omega) (by omega)
    generalize aheadN xs told = a1 at *
    generalize aheadN ys told = a2 at *
    have hz1 : (m1 : Int) ≤ (a1 : Int) + 1 := by omega
    have hz2 : (m2 : Int) ≤ (a2 : Int) + 1 := by omega
    have hfin := below2 hb13 hB9
    clear hlist hlz hown9 hJ9 hLz htk hj1 hj2 ht1 ht2 hm1 hm2 hT hJ8 hk9 ci8 ck8 i8 k8 c1 c2 hX9 hY9 hX hY hT9 p1 p2 hJ hJ' hJ6 hFl hFl' hN hN' hF' HF HF8 HI HUX HUY hxf hyf hxa hya hb13 hB4 hB5 hB6 hB68 hB8 hB9 hb5 hb6
    go_wp2_with fail
    refine wp_region_quiet_below (by kernel_rfl) (by kernel_rfl) ?_
    repeat (go_big_quiet_step (first
      | (go_at_call 28; with_reducible exact Calls.regrown_of (ha1 _ _))
      | (go_at_call 28; with_reducible exact Calls.regrown_of (ha2 _ _))))
    refine wpQuiet_nil ?_
    intro _ hw'
    obtain ⟨⟨dq, osq⟩, hw''⟩ := hw'
    subst hw''
    have hfin2 := below2 hfin (below_regrown w9 dq osq)
    go_wp2
    go_ret
    exact ⟨rfl, hfin2⟩
theorem MLazy_row (q : Option Addr) (b off cap : Nat) (cs : List Cl) (q' : Option Addr) (b' off' cap' : Nat) (cs' : List Cl) (many : Int) (w : World) (hA : Arg w q b off cap cs) (hA' : Arg w q' b' off' cap' cs') (hf : ∀ c ∈ cs, Fits c) (hf' : ∀ c ∈ cs', Fits c) (hcap : cs.length ≤ cap) (hcap' : cs'.length ≤ cap') (hm : 0 ≤ many ∧ many ≤ 255) :
    Calls Try.prog 7 #[.slice q cs.length cap, .slice q' cs'.length cap', .int .u8 many] w fun e w' => e = .returned (.bool true) ∧ Below w.heap.size w w' :=
  MLazy_any q q' b off cap b' off' cap' cs cs' many w hA hA' hf hf' hcap hcap' hm.1 hm.2

end Go.Proofs.Ytnpjbdbhjbccbaa
