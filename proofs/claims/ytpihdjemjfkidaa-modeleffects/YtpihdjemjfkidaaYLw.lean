/-
  The law ModelEffects, walked.
-/
import Derived.Test.YtpihdjemjfkidaaYWks
import Derived.Test.YtpihdjemjfkidaaYREf
import Derived.Laws.AppendOwnNone
import Derived.Lib.MinMax
namespace Go.Proofs.Ytpihdjemjfkidaa
open Go.RowKit Go.BigFrame Go.Sort
attribute [local go_sem] size_bstr toList_bstr ls_def

set_option maxHeartbeats 2000000 in
set_option maxRecDepth 100000 in
theorem Own_any (q : Option Addr) (b off cap : Nat) (cs : List Cl) (w : World) (hq : 0 < cs.length → q = some ⟨b, off, none⟩ ∧ CRow w b off cs ∧ b < w.heap.size) (hn : cs.length * 64 ≤ 140737488351232) (hnil : q = none → cs = [] ∧ cap = 0) :
    Calls Try.prog 4 #[.slice q cs.length cap] w fun e w' => ∃ v, e = .returned v ∧ w'.ownsRow w.heap.size 39 5 v cs.length (ccells cs) ∧ RowKit.Below w.heap.size w w' := by
  obtain ⟨i0, hi, hz0, hz1, hz2⟩ := info_parts Try.infoCell
  have hown0 : w.ownsRow w.heap.size 39 5 (.slice none 0 0) 0 [] := ⟨rfl, .inl ⟨rfl, rfl⟩⟩
  cases q with
  | none =>
    obtain ⟨rfl, rfl⟩ := hnil rfl
    have hown1 := hown0
    go_enter Try.func4, Try.ntmps4
    go_wp2_with (at_builtin; refine wpList_append_own_none rfl _ _ 24 rfl w.heap.size 39 i0 5 Try.underlying24 hi _ _ _ rfl hown0 rfl ?_)
    go_ret
    exact ⟨_, rfl, hown1, RowKit.Below.refl _ _⟩
  | some a =>
    have hnews : ∀ j u, (ccells cs)[j]? = some u → w.cell? (a.add j) = some u := by
      intro j u hj
      have h0 : 0 < cs.length := by
        by_cases h : 0 < cs.length
        · exact h
        · have : cs = [] := List.eq_nil_of_length_eq_zero (by omega)
          subst this
          simp [ccells] at hj
      obtain ⟨e, hR, _⟩ := hq h0
      cases e
      exact hR.cells j u hj
    go_enter Try.func4, Try.ntmps4
    go_wp2_with (at_builtin; refine wpList_append_own _ rfl _ _ 24 rfl w.heap.size 39 i0 (.agg #[.string ⟨#[]⟩, .string ⟨#[]⟩, .int .u64 0, .bool false, .string ⟨#[]⟩]) 5 64 Try.underlying24 hi hz0 hz1 hz2 rfl (by decide) _ _ _ rfl hown0 a cs.length cap (ccells cs) rfl (ccells_length cs) hnews (ccells_one cs) (by unfold maxLen; omega) (by omega) (Nat.le_refl _) ?_)
    intro v' w1 hown1 hgrow _
    have hb1 : RowKit.Below w.heap.size w w1 := (RowKit.Below.refl _ _).grown hgrow (Nat.le_refl _) (fun k hk => by cases hk)
    go_wp2
    go_ret
    exact ⟨v', rfl, hown1, hb1⟩

theorem neq_same (c : Cl) (w : World) : (binOp .neq 39 (.agg #[.string (bstr c.row), .string (bstr c.col), .int .u64 c.ver, .bool c.gone, .string (bstr c.val)]) (.agg #[.string (bstr c.row), .string (bstr c.col), .int .u64 c.ver, .bool c.gone, .string (bstr c.val)])).run Try.prog w = .ok (.bool false) w := by
  have := cell_neq c c w
  rw [eqC_self] at this
  exact this
/-- What a call owns, as an argument of the next one. -/
theorem own_get {w : World} {B e : Nat} {v : Value} {cs : List Cl} (h : w.ownsRow B e 5 v cs.length (ccells cs)) :
    ∃ p cap g, v = .slice p cs.length cap ∧ cap ≤ maxLen ∧ B ≤ g ∧ (0 < cs.length → p = some ⟨g, 0, none⟩ ∧ CRow w g 0 cs ∧ g < w.heap.size) ∧ (0 < cs.length → ∀ o, w.frozen? ⟨g, o, none⟩ = false) := by
  obtain ⟨p, cap, hv, hm, _, hr⟩ := own_cslice h
  by_cases h0 : 0 < cs.length
  · obtain ⟨g, hp, hB, hg, hR, hf⟩ := hr h0
    exact ⟨p, cap, g, hv, hm, hB, fun _ => ⟨hp, hR, hg⟩, fun _ => hf⟩
  · exact ⟨p, cap, B, hv, hm, Nat.le_refl _, fun h => absurd h h0, fun h => absurd h h0⟩
theorem hq_step {w w' : World} {q : Option Addr} {b off B : Nat} {cs : List Cl} (h : 0 < cs.length → q = some ⟨b, off, none⟩ ∧ CRow w b off cs ∧ b < w.heap.size) (hb : RowKit.Below B w w') (hB : 0 < cs.length → b < B) : 0 < cs.length → q = some ⟨b, off, none⟩ ∧ CRow w' b off cs ∧ b < w'.heap.size :=
  fun h0 => ⟨(h h0).1, (h h0).2.1.step hb (hB h0), Nat.lt_of_lt_of_le (h h0).2.2 hb.size⟩
theorem mhead_run {P : Program} {t : TypeId} {q : Option Addr} {len cap n s : Nat} (ht : P.underlying t = some (.slice (P.elem t))) (hz : ∀ w, (Go.sizeOf (P.elem t)).run P w = .ok s w) (hn : n ≤ cap) (w : World) :
    (Instr.slice t (.slice q len cap) none (some (.int .i64 (n : Int))) none).run P w = .ok (.slice q n cap) w := by
  rw [run_slice_h w t q len cap ht .i64 (n : Int) (by omega) (by omega), hz]
  have e : sliced q 0 n cap s = .slice q n cap := by
    unfold sliced
    cases q with
    | none => simp
    | some a =>
      have : a.add 0 = a := by cases a; simp [Addr.add]
      simp [this]
  simp only [Result.andThen, Int.toNat_natCast, e]

set_option maxHeartbeats 2000000 in
set_option maxRecDepth 100000 in
theorem Same4_yes (q q' : Option Addr) (b off cap b' off' cap' : Nat) (cs : List Cl) (w : World) (h1 : 0 < cs.length → q = some ⟨b, off, none⟩ ∧ CRow w b off cs) (h2 : 0 < cs.length → q' = some ⟨b', off', none⟩ ∧ CRow w b' off' cs) (hn : cs.length * 64 ≤ 140737488351232) :
    Calls Try.prog 9 #[.slice q cs.length cap, .slice q' cs.length cap'] w fun e w' => e = .returned (.bool true) ∧ Below w.heap.size w w' := by
  have hg := cell_guard .neq
  go_enter Try.func9, Try.ntmps9
  go_wp2
  go_loopw [5] (fun s5 wr => ∃ i : Nat, s5 = .int .i64 (i : Int) ∧ i ≤ cs.length ∧ Below w.heap.size w wr) (fun s5 _ => cs.length - (intOf s5).toNat)
  case atStart => exact ⟨0, rfl, by omega, Below.refl _ _⟩
  case round =>
    obtain ⟨i, rfl, hil, hbel⟩ := hrel
    by_cases hlt : i < cs.length
    · obtain ⟨rfl, r1⟩ := h1 (by omega)
      obtain ⟨rfl, r2⟩ := h2 (by omega)
      obtain ⟨c, hc⟩ : ∃ c, cs[i]? = some c := ⟨_, List.getElem?_eq_getElem hlt⟩
      have a1 := r1.get hc
      have a2 := r2.get hc
      obtain ⟨a0, a1, a2', a3, a4⟩ := a1.step hbel a1.lt
      obtain ⟨b0, b1, b2', b3, b4⟩ := a2.step hbel a2.lt
      have hneq := fun W => neq_same c W
      clear r1 r2 a2 hc
      go_wp2_with fail
      go_quiet (fail)
      go_wp2
      go_roundw
      case rel => exact ⟨i + 1, by go_num, by omega, ⟨hbel.os, hbel.tape, hbel.output, hbel.size, hbel.block⟩⟩
      case measure => simp [intOf]; omega
    · have hie : i = cs.length := by omega
      go_wp2
      go_ret
      exact ⟨rfl, hbel⟩

/-- What an operation leaves may be anything of its own row. -/
theorem effC_len2 (o : Oq) (cs : List Cl) : (effC o cs).length ≤ 2 := by
  unfold effC
  repeat' split
  all_goals first | (unfold chgC; split <;> simp) | simp

set_option maxHeartbeats 8000000 in
set_option maxRecDepth 100000 in
theorem MEffects_any (o : Oq) (q : Option Addr) (b off cap : Nat) (cs : List Cl) (w : World) (hq : 0 < cs.length → q = some ⟨b, off, none⟩ ∧ CRow w b off cs ∧ b < w.heap.size) (hf : ∀ c ∈ cs, Fits c) (hv : ∀ c ∈ cs, 0 ≤ c.ver ∧ c.ver < 18446744073709551616) (hn : cs.length * 64 ≤ 140737488351232) (hcap : cs.length ≤ cap) (hnil : q = none → cs = [] ∧ cap = 0) :
    Calls Try.prog 3 #[oqV o, .slice q cs.length cap] w fun e w' => e = .returned (.bool true) ∧ Below w.heap.size w w' := by
  obtain ⟨k, hk⟩ : ∃ k, k = min cs.length 60 := ⟨_, rfl⟩
  have hkm : min (cs.length : Int) 60 = (k : Int) := by omega
  have hkl : k ≤ cs.length := by omega
  have hkc : k ≤ cap := by omega
  have hk60 : k ≤ 60 := by omega
  obtain ⟨xs, hxs⟩ : ∃ xs, xs = cs.take k := ⟨_, rfl⟩
  have hxl : k = xs.length := by rw [hxs, List.length_take]; omega
  have hqx : 0 < xs.length → q = some ⟨b, off, none⟩ ∧ CRow w b off xs ∧ b < w.heap.size := fun h => by
    obtain ⟨e1, e2, e3⟩ := hq (by omega)
    exact ⟨e1, by rw [hxs]; exact e2.take k, e3⟩
  have hfx : ∀ c ∈ xs, Fits c := fun c hc => hf c (by rw [hxs] at hc; exact List.mem_of_mem_take hc)
  have hvx : ∀ c ∈ xs, 0 ≤ c.ver ∧ c.ver < 18446744073709551616 := fun c hc => hv c (by rw [hxs] at hc; exact List.mem_of_mem_take hc)
  have hnx : q = none → xs = [] ∧ cap = 0 := fun h => by
    obtain ⟨e1, e2⟩ := hnil h
    exact ⟨by rw [hxs, e1]; exact List.take_nil, e2⟩
  have hhd := fun W => mhead_run (P := Try.prog) (t := 24) (q := q) (len := cs.length) (cap := cap) (n := k) (s := 5) Try.underlying24 (fun W => Try.sizeOf39 W) hkc W
  have HXS : Hid _ := hxs
  have HK : Hid _ := hk
  have HQ : Hid _ := hq
  have hx60 : xs.length ≤ 60 := by omega
  clear hk hxs hq hf hv hn hnil
  subst hxl
  have x1 := heap_alloc_new w (.cells (oqC o) 23)
  have hb0 : Below w.heap.size w (w.alloc (.cells (oqC o) 23)) := (Below.refl _ _).alloc (Nat.le_refl _) _
  obtain ⟨w1, hw1⟩ : ∃ w1, w1 = w.alloc (.cells (oqC o) 23) := ⟨_, rfl⟩
  rw [← hw1] at x1 hb0
  have hB1 : OqB w1 w.heap.size o := x1
  have hq1 := hq_step hqx hb0 (fun h => (hqx h).2.2)
  have hown := Own_any q b off cap xs w1 hq1 (by omega) hnx
  have HW1 : Hid _ := hw1
  clear hw1 x1
  go_enter Try.func3, Try.ntmps3
  have hwe : Hid (w.alloc (.cells #[.int .i64 o.kind, .string (bstr o.row), .string (bstr o.col), .string (bstr o.val), .bool o.has, .string (bstr o.exp)] 23) = w1) := HW1.out.symm
  go_wp2_with fail
  rw [hwe.out]
  refine hown.mono ?_
  rintro e w2 ⟨v2, rfl, hown2, hb2⟩
  obtain ⟨p2, c2, g2, rfl, _, hg2, hr2, _⟩ := own_get hown2
  have hB2 := below2 hb0 hb2
  have hO2 : OqB w2 w.heap.size o := op_row o w1.heap.size hB1 hb2 (blk_lt hB1)
  have h1 := YEffect_any o p2 g2 0 c2 xs w2 hr2 hfx (fun c hc => (hvx c hc).1) (by omega)
  have hr1 := fun (W : World) (h : Below w.heap.size w W) => REffect_any o q b off cap xs W (hq_step hqx h (fun h => (hqx h).2.2)) hvx (by omega)
  obtain ⟨C, hC⟩ : ∃ C, C = effC o xs := ⟨_, rfl⟩
  have hC2 : C.length ≤ 2 := hC ▸ effC_len2 o xs
  rw [← hC] at h1
  simp only [← hC] at hr1
  obtain ⟨R, hR⟩ : ∃ R, R = effR o xs := ⟨_, rfl⟩
  rw [← hR] at h1
  simp only [← hR] at hr1
  obtain ⟨r0, r1, r2, r3, r4⟩ := R
  have HR1 : Hid _ := hr1
  clear hr1 hown hown2 hR hC hB1 hwe HW1 hq1
  obtain ⟨f0, f1, f2, f3, f4, f5⟩ := hO2.facts
  go_wp2_with fail
  refine h1.mono ?_
  rintro e w3 ⟨v3, rfl, hown3, hb3⟩
  clear h1 f0 f1 f2 f3 f4 f5
  obtain ⟨w4, hw4⟩ : ∃ w4, w4 = w3.alloc (.cells #[.int .i64 r0, .bool r1, .string (bstr r2), .string (bstr r3), .int .u64 r4] 29) := ⟨_, rfl⟩
  have hb4 : Below w3.heap.size w3 w4 := by rw [hw4]; exact (Below.refl _ _).alloc (Nat.le_refl _) _
  have hz4 : RzB w4 w3.heap.size ⟨r0, r1, r2, r3, r4⟩ := by rw [hw4]; exact heap_alloc_new w3 _
  have HW4 : Hid _ := hw4
  clear hw4
  go_upto_region 4 with fail
  rw [← HW4.out]
  clear HW4
  have hb34 := below2 hb3 hb4
  have hB4 := below2 hB2 hb34
  have hO4 : OqB w4 w.heap.size o := op_row o w2.heap.size hO2 hb34 (blk_lt hO2)
  have h2 := HR1.out w4 hB4
  obtain ⟨f0, f1, f2, f3, f4, f5⟩ := hO4.facts
  go_wp2_with fail
  refine h2.mono ?_
  rintro e w5 ⟨v5, rfl, hown5, hb5⟩
  clear h2 f0 f1 f2 f3 f4 f5 HR1
  obtain ⟨w6, hw6⟩ : ∃ w6, w6 = w5.alloc (.cells #[.int .i64 r0, .bool r1, .string (bstr r2), .string (bstr r3), .int .u64 r4] 29) := ⟨_, rfl⟩
  have hb6 : Below w5.heap.size w5 w6 := by rw [hw6]; exact (Below.refl _ _).alloc (Nat.le_refl _) _
  have hz6 : RzB w6 w5.heap.size ⟨r0, r1, r2, r3, r4⟩ := by rw [hw6]; exact heap_alloc_new w5 _
  have HW6 : Hid _ := hw6
  clear hw6
  go_upto_region 5 with fail
  rw [← HW6.out]
  clear HW6
  have hb56 := below2 hb5 hb6
  have hB6 := below2 hB4 hb56
  have hz6a : RzB w6 w3.heap.size ⟨r0, r1, r2, r3, r4⟩ := hz4.below hb56 (blk_lt hz4)
  have hO6 : OqB w6 w.heap.size o := op_row o w4.heap.size hO4 hb56 (blk_lt hO4)
  have hown3' := own_cbelow hown3 hb4
  obtain ⟨p3, c3, g3, rfl, _, hg3, hr3, _⟩ := own_get hown3'
  have hown5' := own_cbelow hown5 hb6
  obtain ⟨p5, c5, g5, rfl, _, hg5, hr5, _⟩ := own_get hown5'
  clear hown3 hown3' hown5 hown5'
  have hr3' := hq_step hr3 hb56 (fun h => (hr3 h).2.2)
  have hr5' := hr5
  have hr2' := hq_step hr2 (below2 hb34 hb56) (fun h => (hr2 h).2.2)
  have hqx' := hq_step hqx hB6 (fun h => (hqx h).2.2)
  have sA : ∀ d os, Calls Try.prog 9 #[.slice p3 C.length c3, .slice p5 C.length c5] (grow (redrawn w6 d) os) fun e w' => e = .returned (.bool true) ∧ Below (grow (redrawn w6 d) os).heap.size (grow (redrawn w6 d) os) w' := fun d os =>
    Same4_yes p3 p5 g3 0 c3 g5 0 c5 C _ (fun h => ⟨(hr3' h).1, (hr3' h).2.1.step (below_regrown w6 d os) (hr3' h).2.2⟩) (fun h => ⟨(hr5' h).1, (hr5' h).2.1.step (below_regrown w6 d os) (hr5' h).2.2⟩) (by omega)
  have sB : ∀ d os, Calls Try.prog 9 #[.slice p2 xs.length c2, .slice q xs.length cap] (grow (redrawn w6 d) os) fun e w' => e = .returned (.bool true) ∧ Below (grow (redrawn w6 d) os).heap.size (grow (redrawn w6 d) os) w' := fun d os =>
    Same4_yes p2 q g2 0 c2 b off cap xs _ (fun h => ⟨(hr2' h).1, (hr2' h).2.1.step (below_regrown w6 d os) (hr2' h).2.2⟩) (fun h => ⟨(hqx' h).1, (hqx' h).2.1.step (below_regrown w6 d os) (hqx' h).2.2⟩) (by omega)
  have hq := rz_eql
  have hg := rz_guard
  have c1 := fun d os => YCheck_any o (grow (redrawn w6 d) os)
  have c2' := fun d os => RCheck15_any o (grow (redrawn w6 d) os)
  have c3' := fun d os => works15_any (grow (redrawn w6 d) os)
  obtain ⟨mv, hmv⟩ : ∃ mv : Int, (if mayO o = true then (0 : Int) else 2) = mv := ⟨_, rfl⟩
  simp only [hmv] at c1 c2'
  have he := eqR_iff.2 (rfl : (⟨r0, r1, r2, r3, r4⟩ : Rz) = ⟨r0, r1, r2, r3, r4⟩)
  obtain ⟨f0, f1, f2, f3, f4, f5⟩ := hO6.facts
  obtain ⟨y0, y1, y2, y3, y4⟩ := hz6a.facts
  obtain ⟨z0, z1, z2, z3, z4⟩ := hz6.facts
  simp only at y0 y1 y2 y3 y4 z0 z1 z2 z3 z4
  have qf0 := fun d os => cell_regrown f0 d os
  have qf1 := fun d os => cell_regrown f1 d os
  have qf2 := fun d os => cell_regrown f2 d os
  have qf3 := fun d os => cell_regrown f3 d os
  have qf4 := fun d os => cell_regrown f4 d os
  have qf5 := fun d os => cell_regrown f5 d os
  have qy0 := fun d os => cell_regrown y0 d os
  have qy1 := fun d os => cell_regrown y1 d os
  have qy2 := fun d os => cell_regrown y2 d os
  have qy3 := fun d os => cell_regrown y3 d os
  have qy4 := fun d os => cell_regrown y4 d os
  have qz0 := fun d os => cell_regrown z0 d os
  have qz1 := fun d os => cell_regrown z1 d os
  have qz2 := fun d os => cell_regrown z2 d os
  have qz3 := fun d os => cell_regrown z3 d os
  have qz4 := fun d os => cell_regrown z4 d os
  refine wp_region_quiet_below (by kernel_rfl) (by kernel_rfl) ?_
  repeat (go_big_quiet_step (first
    | (go_at_call 7; with_reducible exact Calls.regrown_of (c1 _ _))
    | (go_at_call 8; with_reducible exact Calls.regrown_of (c2' _ _))
    | (go_at_call 9; first | with_reducible exact Calls.regrown_of (sA _ _) | with_reducible exact Calls.regrown_of (sB _ _))
    | (go_at_call 10; with_reducible exact Calls.regrown_of (c3' _ _))))
  refine wpQuiet_nil ?_
  intro _ hw'
  obtain ⟨⟨dq, osq⟩, hw''⟩ := hw'
  subst hw''
  have hfin := below2 hB6 (below_regrown w6 dq osq)
  clear f0 f1 f2 f3 f4 f5 y0 y1 y2 y3 y4 z0 z1 z2 z3 z4 qf0 qf1 qf2 qf3 qf4 qf5 qy0 qy1 qy2 qy3 qy4 qz0 qz1 qz2 qz3 qz4
  go_wp2
  go_ret
  exact ⟨rfl, hfin⟩

end Go.Proofs.Ytpihdjemjfkidaa
