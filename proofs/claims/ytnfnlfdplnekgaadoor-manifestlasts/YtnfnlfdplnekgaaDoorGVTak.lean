/-
  Check of a state that may be.
  A state's bytes; the builders of its levels.
  takeFile, takeLevel: what was laid is read.
-/
import Derived.Test.YtnfnlfdplnekgaaDoorGVChkM
import Derived.Deep.RegionHeld3
import Derived.Test.YtnfnlfdplnekgaaDoorGVBld
import Derived.Laws.MakeOwn
namespace Go.Proofs.YtnfnlfdplnekgaaDoor
open Go.RowKit Go.BigFrame Go.Sort
attribute [local go_sem] Oper.semAt_some
attribute [local go_sem] size_bstr toList_bstr ls_def

theorem nrm_of {Q : Exit → Act → World → Prop} {a : Act} {w : World} (h : Q .normal a w) : Nrm Q .normal a w := h
/-- What was told last: the level, and the last row. -/
def LastS (lv : List (List Fi)) (i t : Nat) (bf : Nat) (en : List UInt8) : Prop :=
  (t = 0 → bf < i ∨ bf = 0) ∧ ∀ l t', lv[i]? = some l → t = t' + 1 → bf = i ∧ ∃ f, l[t']? = some f ∧ en = f.high
/-- Between two files that are told to Check. -/
structure VJ (w : World) (v : Value) (next log : Nat) (lv : List (List Fi)) (gb D : Nat) (RR : Loop) (i t : Nat) (W : World) : Prop where
  b0 : W.heap[w.heap.size]? = some (.cells #[.int .u64 (next : Int), .int .u64 (log : Int), v] 28 (0, 0))
  b1 : W.heap[w.heap.size + 1]? = some (.cells #[.int .i64 0] 35 (0, 0))
  ms : MS W (w.heap.size + 2) (tld lv i t)
  mb : W.heap[w.heap.size + 2 + 1]? = some (.cells #[.map (some (w.heap.size + 2))] 94 (0, 0))
  be : ∃ bf en, W.heap[w.heap.size + 2 + 1 + 1]? = some (.cells #[.int .i64 (bf : Nat)] 3 (0, 0)) ∧ W.heap[w.heap.size + 2 + 1 + 1 + 1]? = some (.cells #[.string (bstr en)] 9 (0, 0)) ∧ LastS lv i t bf en
  g : W.heap[gb]? = some (.cells #[v] 26 (0, 0))
  d : W.heap[D]? = some (.deferred (some []))
  c : W.heap[D + 1]? = some (.loop RR)
  bl : Below w.heap.size w W
theorem VJ.below {w W W' : World} {v : Value} {next log : Nat} {lv : List (List Fi)} {gb D : Nat} {RR : Loop} {i t : Nat} (h : VJ w v next log lv gb D RR i t W) (hb : Below W.heap.size W W') : VJ w v next log lv gb D RR i t W' := by
  have hk : ∀ {k : Nat} {o : Obj}, W.heap[k]? = some o → W'.heap[k]? = some o := fun h => (hb.block _ (blk_lt h)).trans h
  obtain ⟨bf, en, h1, h2, h3⟩ := h.be
  exact ⟨hk h.b0, hk h.b1, h.ms.kept (hb.block _ h.ms.lt), hk h.mb, ⟨bf, en, hk h1, hk h2, h3⟩, hk h.g, hk h.d, hk h.c, below2 h.bl hb⟩

set_option maxHeartbeats 8000000 in
set_option maxRecDepth 100000 in
theorem Check_ok (v : Value) (vs : List Value) (next log : Nat) (lv : List (List Fi)) (w : World) (hL : LArg w v vs lv) (hS : OkS next log lv) :
    Calls Tryd.prog 22 #[.agg #[.int .u64 (next : Int), .int .u64 (log : Int), v]] w fun e w' => e = .returned (.int .i64 0) ∧ Below w.heap.size w w' := by
  obtain ⟨q, cap, hv, hc, hr⟩ := id hL.sl
  subst hv
  clear hr
  have hn7 := hS.l
  have hm0 := hS.m
  have hlz : ¬ ((7 : Int) < (lv.length : Int)) := by omega
  have hmz : ¬ ((1024 : Int) < (many lv : Int)) := by omega
  have hc1 := fun W => counts_any next W
  have hc2 := fun W => counts_any log W
  rw [hS.n] at hc1
  rw [hS.g] at hc2
  have HL : Hid _ := hL
  have HS : Hid _ := hS
  have HM0 : Hid _ := hm0
  clear hL hS
  obtain ⟨w1, hw1⟩ : ∃ w1, w1 = (w.alloc (.cells #[.int .u64 (next : Int), .int .u64 (log : Int), .slice q lv.length cap] 28)).alloc (.cells #[.int .i64 0] 35) := ⟨_, rfl⟩
  have hb1 : Below w.heap.size w w1 := by rw [hw1]; exact ((Below.refl _ _).alloc (Nat.le_refl _) _).alloc (by simp) _
  have hz1 : w1.heap.size = w.heap.size + 2 := by rw [hw1]; simp
  have x0 : w1.heap[w.heap.size]? = some (.cells #[.int .u64 (next : Int), .int .u64 (log : Int), .slice q lv.length cap] 28 (0, 0)) := by rw [hw1]; exact (Below.heap_alloc _ _ _ (by simp)).trans (heap_alloc_new w _)
  have x1 : w1.heap[w.heap.size + 1]? = some (.cells #[.int .i64 0] 35 (0, 0)) := by
    rw [hw1]
    have := heap_alloc_new (w.alloc (.cells #[.int .u64 (next : Int), .int .u64 (log : Int), .slice q lv.length cap] 28)) (.cells #[.int .i64 0] 35)
    rwa [World.size_alloc] at this
  have hhm := howMany_any (.slice q lv.length cap) vs lv w1 (HL.out.below hb1) (by omega) (by omega)
  have a0 : w1.cell? ⟨w.heap.size, 0, none⟩ = some (.int .u64 (next : Int)) := (vcb x0).1 0
  have a1 : w1.cell? ⟨w.heap.size, 1, none⟩ = some (.int .u64 (log : Int)) := (vcb x0).1 1
  have a2 : w1.cell? ⟨w.heap.size, 2, none⟩ = some (.slice q lv.length cap) := (vcb x0).1 2
  have HW1 : Hid _ := hw1
  clear hw1
  refine calls_marks Tryd.func22 rfl ?_
  simp only [Tryd.ntmps22, List.size_toArray, List.length_cons, List.length_nil, Nat.reduceAdd, Nat.reduceSub, Array.replicate_succ, Array.replicate_zero, List.push_toArray, List.append_toArray, List.nil_append, List.cons_append]
  gi_wp2_with fail
  rw [← HW1.out]
  refine ⟨trivial, (callsIn_wide.2 (hc1 w1)).mono ?_⟩
  rintro e w' ⟨rfl, rfl⟩
  gi_wp2_with fail
  refine ⟨trivial, (callsIn_wide.2 (hc2 w')).mono ?_⟩
  rintro e w' ⟨rfl, rfl⟩
  gi_wp2_with fail
  refine ⟨trivial, (callsIn_wide.2 hhm).mono ?_⟩
  rintro e w' ⟨rfl, rfl⟩
  have hmm := @run_makeMap Tryd.prog
  gi_wp2_with fail
  obtain ⟨w2, hw2⟩ : ∃ w2, w2 = ((((w'.alloc (.map #[] 0)).alloc (.cells #[.map (some (w.heap.size + 2))] 94)).alloc (.cells #[.int .i64 0] 3)).alloc (.cells #[.string ⟨#[]⟩] 9)) := ⟨_, rfl⟩
  rw [← hw2]
  have hb2 : Below w'.heap.size w' w2 := by rw [hw2]; exact ((((Below.refl _ _).alloc (Nat.le_refl _) _).alloc (by simp) _).alloc (by simp; omega) _).alloc (by simp; omega) _
  have y2 : MS w2 (w.heap.size + 2) [] := by
    have h := MS.made w'
    rw [hz1] at h
    refine h.kept ?_
    rw [hw2]
    exact (Below.heap_alloc _ _ _ (by simp; omega)).trans ((Below.heap_alloc _ _ _ (by simp; omega)).trans (Below.heap_alloc _ _ _ (by simp; omega)))
  have y3 : w2.heap[w.heap.size + 2 + 1]? = some (.cells #[.map (some (w.heap.size + 2))] 94 (0, 0)) := by
    have h := heap_alloc_new (w'.alloc (.map #[] 0)) (.cells #[.map (some (w.heap.size + 2))] 94)
    rw [World.size_alloc, hz1] at h
    rw [hw2]
    exact (Below.heap_alloc _ _ _ (by simp; omega)).trans ((Below.heap_alloc _ _ _ (by simp; omega)).trans h)
  have y4 : w2.heap[w.heap.size + 2 + 1 + 1]? = some (.cells #[.int .i64 ((0 : Nat) : Int)] 3 (0, 0)) := by
    have h := heap_alloc_new ((w'.alloc (.map #[] 0)).alloc (.cells #[.map (some (w.heap.size + 2))] 94)) (.cells #[.int .i64 0] 3)
    rw [World.size_alloc, World.size_alloc, hz1] at h
    rw [hw2]
    exact (Below.heap_alloc _ _ _ (by simp; omega)).trans h
  have y5 : w2.heap[w.heap.size + 2 + 1 + 1 + 1]? = some (.cells #[.string (bstr [])] 9 (0, 0)) := by
    have h := heap_alloc_new (((w'.alloc (.map #[] 0)).alloc (.cells #[.map (some (w.heap.size + 2))] 94)).alloc (.cells #[.int .i64 0] 3)) (.cells #[.string ⟨#[]⟩] 9)
    rw [World.size_alloc, World.size_alloc, World.size_alloc, hz1] at h
    rw [hw2]
    exact h
  have hfl := files_any q lv.length cap w2
  have hb02 := below2 hb1 hb2
  have x0' := (hb2.block _ (blk_lt x0)).trans x0
  have x1' := (hb2.block _ (blk_lt x1)).trans x1
  clear hw2 HW1 hhm a0 a1 a2 hc1 hc2 hmm x0 x1 hb1 hb2 hlz hmz
  refine ⟨trivial, (callsIn_wide.2 hfl).mono ?_⟩
  rintro e wb ⟨rfl, hg, hbb⟩
  clear hfl
  gi_wp2_with fail
  refine wp_range2 (by omega) rfl (enters_of Tryd.func44 (by kernel_rfl) rfl) ?_
  intro RR hRR
  have hbW : Below wb.heap.size wb ((wb.alloc (.deferred (some []))).alloc (.loop RR)) := ((Below.refl _ _).alloc (Nat.le_refl _) _).alloc (by simp) _
  have hWa : ((wb.alloc (.deferred (some []))).alloc (.loop RR)).heap[wb.heap.size + 1]? = some (.loop RR) := by
    have := World.alloc_heap_new (wb.alloc (.deferred (some []))) (.loop RR)
    rwa [World.size_alloc] at this
  have hWb : ((wb.alloc (.deferred (some []))).alloc (.loop RR)).heap[wb.heap.size]? = some (.deferred (some [])) := (Below.heap_alloc _ _ _ (by simp)).trans (World.alloc_heap_new wb _)
  obtain ⟨W1, hWW⟩ : ∃ W1, W1 = (wb.alloc (.deferred (some []))).alloc (.loop RR) := ⟨_, rfl⟩
  rw [← hWW] at hbW hWa hWb ⊢
  clear hWW
  have hk := below2 hbb hbW
  have hJ0 : VJ w (.slice q lv.length cap) next log lv w2.heap.size wb.heap.size RR 0 0 W1 := by
    refine ⟨(hk.block _ (blk_lt x0')).trans x0', (hk.block _ (blk_lt x1')).trans x1', ?_, (hk.block _ (blk_lt y3)).trans y3, ⟨0, [], (hk.block _ (blk_lt y4)).trans y4, (hk.block _ (blk_lt y5)).trans y5, ⟨fun _ => .inr rfl, fun l t' _ h => by cases h⟩⟩, (hbW.block _ (blk_lt hg)).trans hg, hWb, hWa, below2 hb02 hk⟩
    rw [tld_zero]
    exact y2.kept (hk.block _ y2.lt)
  have z5 := blk_lt y5
  have z6 := hbb.size
  have z7 := blk_lt hg
  clear hWa hWb hbW hk hbb hg y2 y3 y4 y5 x0' x1' hb02
  have hte := files1_any w2.heap.size (wb.heap.size + 1) (.slice q lv.length cap) vs lv (VJ w (.slice q lv.length cap) next log lv w2.heap.size wb.heap.size RR) (fun _ => False) W1 (by omega) (fun l hl => by have := many_mem hl; omega) (fun i t W W' h hb => h.below hb) (fun i t W h => ⟨(vcb h.g).1 0, HL.out.below h.bl⟩) (fun i l W hl h => by
    obtain ⟨bf, en, h1, h2, h3, h4⟩ := h.be
    refine ⟨h.b0, h.b1, ?_, h.mb, ⟨bf, en, h1, h2, ⟨fun _ => ?_, fun l t' _ h => by cases h⟩⟩, h.g, h.d, h.c, h.bl⟩
    · rw [← tld_next hl]
      exact h.ms
    · cases hll : l.length with
      | zero => rcases h3 hll with h | h <;> omega
      | succ k => have := (h4 l k hl hll).1; omega) ?_ hJ0
  · refine hte.mono ?_
    clear hte hJ0 hRR
    rintro e W2 ⟨⟨u, rfl⟩, hj | h⟩
    case inr => exact h.elim
    refine ⟨⟨_, rfl⟩, Or.inl ⟨hj.c, ?_⟩⟩
    have hl3 : (tld lv lv.length 0).length = many lv := by rw [tld_end, List.length_map, many_flat]
    have hb3 : Below w.heap.size w (W2.putObj (wb.heap.size + 1) (.loop { RR with state := .exhausted })) := below_putv hj.bl (by omega) _
    have hms : MS (W2.putObj (wb.heap.size + 1) (.loop { RR with state := .exhausted })) (w.heap.size + 2) (tld lv lv.length 0) := hj.ms.kept (World.putObj_heap_other (by omega))
    have x0 : (W2.putObj (wb.heap.size + 1) (.loop { RR with state := .exhausted })).heap[w.heap.size]? = some (.cells #[.int .u64 (next : Int), .int .u64 (log : Int), .slice q lv.length cap] 28 (0, 0)) := (World.putObj_heap_other (by omega)).trans hj.b0
    have x1 : (W2.putObj (wb.heap.size + 1) (.loop { RR with state := .exhausted })).heap[w.heap.size + 1]? = some (.cells #[.int .i64 0] 35 (0, 0)) := (World.putObj_heap_other (by omega)).trans hj.b1
    have x3 : (W2.putObj (wb.heap.size + 1) (.loop { RR with state := .exhausted })).heap[w.heap.size + 2 + 1]? = some (.cells #[.map (some (w.heap.size + 2))] 94 (0, 0)) := (World.putObj_heap_other (by omega)).trans hj.mb
    have xd : (W2.putObj (wb.heap.size + 1) (.loop { RR with state := .exhausted })).heap[wb.heap.size]? = some (.deferred (some [])) := (World.putObj_heap_other (by omega)).trans hj.d
    generalize W2.putObj (wb.heap.size + 1) (.loop { RR with state := .exhausted }) = W3 at *
    have hlen := hms.len 3
    rw [hl3] at hlen
    have hhm := howMany_any (.slice q lv.length cap) vs lv W3 (HL.out.below hb3) (by omega) (by omega)
    have a2 : W3.cell? ⟨w.heap.size, 2, none⟩ = some (.slice q lv.length cap) := (vcb x0).1 2
    have a3 : W3.cell? ⟨w.heap.size + 2 + 1, 0, none⟩ = some (.map (some (w.heap.size + 2))) := (vcb x3).1 0
    have d1 : W3.cell? ⟨w.heap.size + 1, 0, none⟩ = some (.int .i64 0) := (vcb x1).1 0
    have d2 : W3.frozen? ⟨w.heap.size + 1, 0, none⟩ = false := (vcb x1).2 0
    have hr7 := heap_set_same x1 (o := 0) (.int .i64 0)
    have hd7 : (W3.setCell ⟨w.heap.size + 1, 0, none⟩ (.int .i64 0)).heap[wb.heap.size]? = some (.deferred (some [])) := (heap_set_other _ (by omega)).trans xd
    have hb7 : Below w.heap.size w (W3.setCell ⟨w.heap.size + 1, 0, none⟩ (.int .i64 0)) := below_setv hb3 (by omega) _
    clear hj hms x0 x1 x3 xd hl3 HL HS
    gi_wp2_with fail
    refine ⟨trivial, (callsIn_wide.2 hhm).mono ?_⟩
    rintro e w' ⟨rfl, rfl⟩
    gi_wp2
    generalize w'.setCell ⟨w.heap.size + 1, 0, none⟩ (.int .i64 0) = U7 at *
    have d5 : (U7.putObj wb.heap.size (.deferred none)).cell? ⟨w.heap.size + 1, 0, none⟩ = some (.int .i64 0) := by
      have h : (U7.putObj wb.heap.size (.deferred none)).heap[w.heap.size + 1]? = _ := (World.putObj_heap_other (by omega)).trans hr7
      exact (vcb h).1 0
    refine ⟨by simp, .inl ⟨_, _, rfl, run_takeDeferred hd7, ?_⟩⟩
    exact ⟨.int .i64 0, by simp [results, Tryd.results22, go_sem, d5], rfl, below_putv hb7 (by omega) _⟩
  · intro m i t l f W hl hf hj
    have hli : i < lv.length := (List.getElem?_eq_some_iff.1 hl).1
    have hfm := HS.out.f l (List.mem_of_getElem? hl) f (List.mem_of_getElem? hf)
    have hfr := tld_fresh HS.out.u hl hf
    have hsu := tld_succ hl hf
    have hln := tld_len (t := t) hl
    have hnx := cnt_lt HS.out.n
    have hgt : ∀ (en : List UInt8) (bf : Nat), LastS lv i t bf en → 0 < i → bf = i → geB en f.low = false := fun en bf h h0 h1 => by
      cases t with
      | zero => rcases h.1 rfl with h | h <;> omega
      | succ t' =>
        obtain ⟨_, f', hf', rfl⟩ := h.2 l t' hl rfl
        exact HS.out.a i l t' f' f hl h0 hf' hf
    have key : ∀ RP : Ending → World → Prop, Hid (∀ W', VJ w (.slice q lv.length cap) next log lv w2.heap.size wb.heap.size RR i (t + 1) W' → RP (.returned (.bool true)) W') → YieldAt Fence.wide m Tryd.prog (wb.heap.size + 1) #[.int .i64 (i : Int), fiV f] W RP := by
      intro RP hT
      have eRR : ({ RR with state := .ready, pending := none } : Loop) = RR := by
        have e1 := hRR.s
        have e2 := hRR.e
        cases RR
        simp_all
      have hmb := fun W => mayBe_any f W
      rw [hfm.1] at hmb
      have hid := hfm.2
      have HFH : Hid (∀ bf en, LastS lv i (t + 1) bf en ↔ bf = i ∧ en = f.high) := fun bf en => by
        constructor
        · intro h
          obtain ⟨h1, f', hf', h2⟩ := h.2 l t hl rfl
          rw [hf] at hf'
          cases hf'
          exact ⟨h1, h2⟩
        · rintro ⟨rfl, rfl⟩
          exact ⟨fun h => by omega, fun l' t' hl' h => by
            rw [hl] at hl'
            cases hl'
            obtain rfl : t = t' := by omega
            exact ⟨rfl, f, hf, rfl⟩⟩
      obtain ⟨id, low, high, n⟩ := f
      simp only at hid hfr hsu hgt
      have hb : Below W.heap.size W (W.alloc (.cells #[.int .u64 (id : Int), .string (bstr low), .string (bstr high), .int .i64 n] 48)) := (Below.refl _ _).alloc (Nat.le_refl _) _
      have hcA := heap_alloc_new W (.cells #[.int .u64 (id : Int), .string (bstr low), .string (bstr high), .int .i64 n] 48)
      have hjr := hj.c
      have HRR : Hid _ := hRR
      have HJ : Hid _ := hj
      refine yield_round2 hjr hRR rfl ?_
      clear hRR hj hl hf hfm
      gi_wp2
      generalize hWa : W.alloc (.cells #[.int .u64 (id : Int), .string (bstr low), .string (bstr high), .int .i64 n] 48) = Wa at *
      have h1a := (hb.block _ (blk_lt hjr)).trans hjr
      refine ⟨_, run_beginRound h1a HRR.out.s, ?_⟩
      have hlt := blk_lt hjr
      have hne : W.heap.size ≠ wb.heap.size + 1 := by omega
      have hWk : ∀ k, k < W.heap.size → k ≠ wb.heap.size + 1 → (Wa.putObj (wb.heap.size + 1) (.loop { RR with state := .busy })).heap[k]? = W.heap[k]? := fun k hi h2 => (World.putObj_heap_other h2).trans (hb.block k hi)
      have hrB : (Wa.putObj (wb.heap.size + 1) (.loop { RR with state := .busy })).heap[wb.heap.size + 1]? = some (.loop { RR with state := .busy }) := World.putObj_heap_same (blk_lt h1a)
      have hcB : (Wa.putObj (wb.heap.size + 1) (.loop { RR with state := .busy })).heap[W.heap.size]? = _ := (World.putObj_heap_other hne).trans hcA
      have hbeB : Below w.heap.size w (Wa.putObj (wb.heap.size + 1) (.loop { RR with state := .busy })) := below_putv (below2 HJ.out.bl hb) (by omega) _
      generalize Wa.putObj (wb.heap.size + 1) (.loop { RR with state := .busy }) = Wb at *
      obtain ⟨bf, en, hbf, hen, hls⟩ := HJ.out.be
      have x0 := (hWk _ (blk_lt HJ.out.b0) (by omega)).trans HJ.out.b0
      have x3 := (hWk _ (blk_lt HJ.out.mb) (by omega)).trans HJ.out.mb
      have x4 := (hWk _ (blk_lt hbf) (by omega)).trans hbf
      have x5 := (hWk _ (blk_lt hen) (by omega)).trans hen
      have hms : MS Wb (w.heap.size + 2) (tld lv i t) := HJ.out.ms.kept (hWk _ HJ.out.ms.lt (by omega))
      have a0 : Wb.cell? ⟨w.heap.size, 0, none⟩ = some (.int .u64 (next : Int)) := (vcb x0).1 0
      have a4 : Wb.cell? ⟨w.heap.size + 2 + 1 + 1, 0, none⟩ = some (.int .i64 (bf : Int)) := (vcb x4).1 0
      have a5 : Wb.cell? ⟨w.heap.size + 2 + 1 + 1 + 1, 0, none⟩ = some (.string (bstr en)) := (vcb x5).1 0
      obtain ⟨f0, f1, f2, f3⟩ : Wb.cell? ⟨W.heap.size, 0, none⟩ = some (.int .u64 (id : Int)) ∧ Wb.cell? ⟨W.heap.size, 1, none⟩ = some (.string (bstr low)) ∧ Wb.cell? ⟨W.heap.size, 2, none⟩ = some (.string (bstr high)) ∧ Wb.cell? ⟨W.heap.size, 3, none⟩ = some (.int .i64 n) := ⟨(vcb hcB).1 0, (vcb hcB).1 1, (vcb hcB).1 2, (vcb hcB).1 3⟩
      have hidz : ¬ ((next : Int) ≤ (id : Int)) := by omega
      have z8 := blk_lt hbf
      have z9 := blk_lt hen
      have HX3 : Hid _ := x3
      have HX4 : Hid _ := x4
      have HX5 : Hid _ := x5
      have HMS : Hid _ := hms
      have HCB : Hid _ := hcB
      have HRB : Hid _ := hrB
      have HBE : Hid _ := hbeB
      have HWK : Hid _ := hWk
      clear hWa hb hcA h1a x0 x3 x4 x5 hms hcB hrB hbeB hWk hbf hen
      by_cases hi0 : i = 0
      · have hiz : ¬ ((0 : Int) < (i : Int)) := by omega
        clear hi0
        gi_wp2_with fail
        refine ⟨trivial, fun h => (by cases h), (CallsIn.inRound _ (callsIn_wide.2 (hmb _))).mono ?_⟩
        rintro e Wd ⟨rfl, hbd⟩
        clear a0 a4 a5 f0 f1 f2 f3
        have hcD := (hbd.block _ (blk_lt HCB.out)).trans HCB.out
        have hmD : MS Wd (w.heap.size + 2) (tld lv i t) := HMS.out.kept (hbd.block _ HMS.out.lt)
        have x3D := (hbd.block _ (blk_lt HX3.out)).trans HX3.out
        obtain ⟨Wm, hrun, hmM, hgm⟩ := hmD.store hfr (by omega) (by omega)
        rw [← hsu] at hmM
        have f0 : Wd.cell? ⟨W.heap.size, 0, none⟩ = some (.int .u64 (id : Int)) := (vcb hcD).1 0
        have a3 : Wd.cell? ⟨w.heap.size + 2 + 1, 0, none⟩ = some (.map (some (w.heap.size + 2))) := (vcb x3D).1 0
        have hkM : ∀ k, k < Wb.heap.size → k ≠ w.heap.size + 2 → Wm.heap[k]? = Wb.heap[k]? := fun k h1 h2 => (hgm.block k (Nat.lt_of_lt_of_le h1 hbd.size) (fun e => h2 (by cases e; rfl))).trans (hbd.block k h1)
        have hbM : Below w.heap.size w Wm := (below2 HBE.out hbd).grown hgm (by have := HBE.out.size; have := hbd.size; omega) (fun k hk => by cases hk; omega)
        have zb := blk_lt HCB.out
        have hcM := (hkM W.heap.size (blk_lt HCB.out) (by omega)).trans HCB.out
        have x4M := (hkM _ (blk_lt HX4.out) (by omega)).trans HX4.out
        have x5M := (hkM _ (blk_lt HX5.out) (by omega)).trans HX5.out
        clear hcD hmD x3D hgm
        gi_wp2_with fail
        clear hrun f0 a3
        have f2 : Wm.cell? ⟨W.heap.size, 2, none⟩ = some (.string (bstr high)) := (vcb hcM).1 2
        have b4 : Wm.cell? ⟨w.heap.size + 2 + 1 + 1, 0, none⟩ = some (.int .i64 (bf : Int)) := (vcb x4M).1 0
        have b4f : Wm.frozen? ⟨w.heap.size + 2 + 1 + 1, 0, none⟩ = false := (vcb x4M).2 0
        have h46 : (Wm.setCell ⟨w.heap.size + 2 + 1 + 1, 0, none⟩ (.int .i64 (i : Int))).heap[w.heap.size + 2 + 1 + 1 + 1]? = some (.cells #[.string (bstr en)] 9 (0, 0)) := (heap_set_other _ (by omega)).trans x5M
        have h4c : (Wm.setCell ⟨w.heap.size + 2 + 1 + 1, 0, none⟩ (.int .i64 (i : Int))).heap[W.heap.size]? = _ := (heap_set_other _ (by omega)).trans hcM
        have b5 : (Wm.setCell ⟨w.heap.size + 2 + 1 + 1, 0, none⟩ (.int .i64 (i : Int))).cell? ⟨w.heap.size + 2 + 1 + 1 + 1, 0, none⟩ = some (.string (bstr en)) := (vcb h46).1 0
        have b5f : (Wm.setCell ⟨w.heap.size + 2 + 1 + 1, 0, none⟩ (.int .i64 (i : Int))).frozen? ⟨w.heap.size + 2 + 1 + 1 + 1, 0, none⟩ = false := (vcb h46).2 0
        have f2b : (Wm.setCell ⟨w.heap.size + 2 + 1 + 1, 0, none⟩ (.int .i64 (i : Int))).cell? ⟨W.heap.size, 2, none⟩ = some (.string (bstr high)) := (vcb h4c).1 2
        have h4b := heap_set_same x4M (o := 0) (.int .i64 (i : Int))
        have h5b := heap_set_same h46 (o := 0) (.string (bstr high))
        have h5c : ((Wm.setCell ⟨w.heap.size + 2 + 1 + 1, 0, none⟩ (.int .i64 (i : Int))).setCell ⟨w.heap.size + 2 + 1 + 1 + 1, 0, none⟩ (.string (bstr high))).heap[W.heap.size]? = _ := (heap_set_other _ (by omega)).trans h4c
        have f2c : ((Wm.setCell ⟨w.heap.size + 2 + 1 + 1, 0, none⟩ (.int .i64 (i : Int))).setCell ⟨w.heap.size + 2 + 1 + 1 + 1, 0, none⟩ (.string (bstr high))).cell? ⟨W.heap.size, 2, none⟩ = some (.string (bstr high)) := (vcb h5c).1 2
        have h54 : ((Wm.setCell ⟨w.heap.size + 2 + 1 + 1, 0, none⟩ (.int .i64 (i : Int))).setCell ⟨w.heap.size + 2 + 1 + 1 + 1, 0, none⟩ (.string (bstr high))).heap[w.heap.size + 2 + 1 + 1]? = _ := (heap_set_other _ (by omega)).trans h4b
        have hkE : ∀ k, k < Wb.heap.size → k ≠ w.heap.size + 2 → k ≠ w.heap.size + 2 + 1 + 1 → k ≠ w.heap.size + 2 + 1 + 1 + 1 → ((Wm.setCell ⟨w.heap.size + 2 + 1 + 1, 0, none⟩ (.int .i64 (i : Int))).setCell ⟨w.heap.size + 2 + 1 + 1 + 1, 0, none⟩ (.string (bstr high))).heap[k]? = Wb.heap[k]? := fun k h1 h2 h3 h4 => (heap_set_other _ h4).trans ((heap_set_other _ h3).trans (hkM k h1 h2))
        have hrE : ((Wm.setCell ⟨w.heap.size + 2 + 1 + 1, 0, none⟩ (.int .i64 (i : Int))).setCell ⟨w.heap.size + 2 + 1 + 1 + 1, 0, none⟩ (.string (bstr high))).drew.heap[wb.heap.size + 1]? = _ := (hkE _ (blk_lt HRB.out) (by omega) (by omega) (by omega)).trans HRB.out
        have hbE : Below w.heap.size w (((Wm.setCell ⟨w.heap.size + 2 + 1 + 1, 0, none⟩ (.int .i64 (i : Int))).setCell ⟨w.heap.size + 2 + 1 + 1 + 1, 0, none⟩ (.string (bstr high))).drew.putObj (wb.heap.size + 1) (.loop RR)) := below_putv (below_setv (below_setv hbM (by omega) _) (by omega) _).drew (by omega) _
        have hkF : ∀ k, k < W.heap.size → k ≠ w.heap.size + 2 → k ≠ w.heap.size + 2 + 1 + 1 → k ≠ w.heap.size + 2 + 1 + 1 + 1 → k ≠ wb.heap.size + 1 → (((Wm.setCell ⟨w.heap.size + 2 + 1 + 1, 0, none⟩ (.int .i64 (i : Int))).setCell ⟨w.heap.size + 2 + 1 + 1 + 1, 0, none⟩ (.string (bstr high))).drew.putObj (wb.heap.size + 1) (.loop RR)).heap[k]? = W.heap[k]? := fun k h1 h2 h3 h4 h5 => (World.putObj_heap_other h5).trans ((hkE k (by omega) h2 h3 h4).trans (HWK.out k h1 h5))
        have HCL : Hid (RP (.returned (.bool true)) (((Wm.setCell ⟨w.heap.size + 2 + 1 + 1, 0, none⟩ (.int .i64 (i : Int))).setCell ⟨w.heap.size + 2 + 1 + 1 + 1, 0, none⟩ (.string (bstr high))).drew.putObj (wb.heap.size + 1) (.loop RR))) := by
          refine hT.out _ ⟨(hkF _ (blk_lt HJ.out.b0) (by omega) (by omega) (by omega) (by omega)).trans HJ.out.b0, (hkF _ (blk_lt HJ.out.b1) (by omega) (by omega) (by omega) (by omega)).trans HJ.out.b1, ?_, (hkF _ (blk_lt HJ.out.mb) (by omega) (by omega) (by omega) (by omega)).trans HJ.out.mb, ⟨i, high, (World.putObj_heap_other (by omega)).trans h54, (World.putObj_heap_other (by omega)).trans h5b, (HFH.out i high).2 ⟨rfl, rfl⟩⟩, (hkF _ (blk_lt HJ.out.g) (by omega) (by omega) (by omega) (by omega)).trans HJ.out.g, (hkF _ (blk_lt HJ.out.d) (by omega) (by omega) (by omega) (by omega)).trans HJ.out.d, World.putObj_heap_same (blk_lt hrE), hbE⟩
          exact hmM.kept ((World.putObj_heap_other (by omega)).trans ((heap_set_other _ (by omega)).trans (heap_set_other _ (by omega))))
        have HRE : Hid _ := hrE
        clear hrE hbE hkE hkF h54 h5c h5b h4b h46 h4c hmM hkM hbM hcM x4M x5M
        refine sto_round (S0 := fun w' => w'.cell? ⟨W.heap.size, 2, none⟩ = some (.string (bstr high))) (S1 := fun _ => True) (st := 3) (by kernel_rfl) (by kernel_rfl) ?_
        refine wpAnyS_takeA (i := 0) (oi := ⟨_, _, _, _, _, _⟩) (v := .int .i64 (i : Int)) rfl (by kernel_rfl) (by kernel_rfl) (by kernel_rfl) rfl (fun _ _ _ h => h) (Or.inl ⟨by rfl, fun w' hS' => ?_⟩) f2 (fun _ => trivial) ?_
        · go_simp
        refine wpAnyS_takeA (i := 1) (oi := ⟨_, _, _, _, _, _⟩) (v := .pointer (some ⟨W.heap.size, 2, none⟩)) rfl (by kernel_rfl) (by kernel_rfl) (by kernel_rfl) rfl (fun _ _ _ h => h) (Or.inl ⟨by rfl, fun w' hS' => ?_⟩) f2 (fun _ => trivial) ?_
        · go_simp
        simp only [Act.put, List.setIfInBounds_toArray, List.set_cons_zero, List.set_cons_succ]
        refine wpAnyS_takeA (i := 2) (oi := ⟨_, _, _, _, _, _⟩) (v := .string (bstr high)) rfl (by kernel_rfl) (by kernel_rfl) (by kernel_rfl) rfl (fun _ _ _ h => h) (Or.inl ⟨by rfl, fun w' hS' => ?_⟩) f2 (fun _ => trivial) ?_
        · go_simp
        simp only [Act.put, List.setIfInBounds_toArray, List.set_cons_zero, List.set_cons_succ]
        refine wpAnyS_ready (rs := [3]) (by kernel_rfl) (by simp) ?_
        refine AllS.cons (o := ⟨_, _, _, _, _, _⟩) rfl (by rfl) (fun K hK => ?_) AllS.nil
        go_wp2_with fail
        refine hK.out _ _ (show (Wm.setCell ⟨w.heap.size + 2 + 1 + 1, 0, none⟩ (.int .i64 (i : Int))).drew.cell? _ = _ from f2b) (fun _ => trivial) ?_
        clear hK K
        refine wpAnyS_ready (rs := [4]) (by kernel_rfl) (by simp) ?_
        refine AllS.cons (o := ⟨_, _, _, _, _, _⟩) rfl (by rfl) (fun K hK => ?_) AllS.nil
        go_wp2_with fail
        refine hK.out _ _ (show ((Wm.setCell ⟨w.heap.size + 2 + 1 + 1, 0, none⟩ (.int .i64 (i : Int))).setCell ⟨w.heap.size + 2 + 1 + 1 + 1, 0, none⟩ (.string (bstr high))).drew.cell? _ = _ from f2c) (fun _ => trivial) ?_
        clear hK K
        refine wpAnyS_done (by kernel_rfl) ?_ _
        refine nrm_of ?_
        gi_wp2
        refine ⟨_, _, run_endRound (r := { RR with state := .busy }) none HRE.out, ?_⟩
        show RP _ (World.putObj _ _ (Obj.loop { RR with state := .ready, pending := none }))
        rw [eRR]
        exact HCL.out
      · have hiz : (0 : Int) < (i : Int) := by omega
        by_cases hbi : bf = i
        · have hgg := hgt en bf hls (by omega) hbi
          have hbi2 : i = bf := hbi.symm
          clear hbi
          subst hbi2
          clear hi0
          have hg1 : ls en low = true := by simpa [geB] using hgg
          clear hgg
          gi_wp2_with fail
          refine ⟨trivial, fun h => (by cases h), (CallsIn.inRound _ (callsIn_wide.2 (hmb _))).mono ?_⟩
          rintro e Wd ⟨rfl, hbd⟩
          clear a0 a4 a5 f0 f1 f2 f3
          have hcD := (hbd.block _ (blk_lt HCB.out)).trans HCB.out
          have hmD : MS Wd (w.heap.size + 2) (tld lv i t) := HMS.out.kept (hbd.block _ HMS.out.lt)
          have x3D := (hbd.block _ (blk_lt HX3.out)).trans HX3.out
          obtain ⟨Wm, hrun, hmM, hgm⟩ := hmD.store hfr (by omega) (by omega)
          rw [← hsu] at hmM
          have f0 : Wd.cell? ⟨W.heap.size, 0, none⟩ = some (.int .u64 (id : Int)) := (vcb hcD).1 0
          have a3 : Wd.cell? ⟨w.heap.size + 2 + 1, 0, none⟩ = some (.map (some (w.heap.size + 2))) := (vcb x3D).1 0
          have hkM : ∀ k, k < Wb.heap.size → k ≠ w.heap.size + 2 → Wm.heap[k]? = Wb.heap[k]? := fun k h1 h2 => (hgm.block k (Nat.lt_of_lt_of_le h1 hbd.size) (fun e => h2 (by cases e; rfl))).trans (hbd.block k h1)
          have hbM : Below w.heap.size w Wm := (below2 HBE.out hbd).grown hgm (by have := HBE.out.size; have := hbd.size; omega) (fun k hk => by cases hk; omega)
          have zb := blk_lt HCB.out
          have hcM := (hkM W.heap.size (blk_lt HCB.out) (by omega)).trans HCB.out
          have x4M := (hkM _ (blk_lt HX4.out) (by omega)).trans HX4.out
          have x5M := (hkM _ (blk_lt HX5.out) (by omega)).trans HX5.out
          clear hcD hmD x3D hgm
          gi_wp2_with fail
          clear hrun f0 a3
          have f2 : Wm.cell? ⟨W.heap.size, 2, none⟩ = some (.string (bstr high)) := (vcb hcM).1 2
          have b4 : Wm.cell? ⟨w.heap.size + 2 + 1 + 1, 0, none⟩ = some (.int .i64 (i : Int)) := (vcb x4M).1 0
          have b4f : Wm.frozen? ⟨w.heap.size + 2 + 1 + 1, 0, none⟩ = false := (vcb x4M).2 0
          have h46 : (Wm.setCell ⟨w.heap.size + 2 + 1 + 1, 0, none⟩ (.int .i64 (i : Int))).heap[w.heap.size + 2 + 1 + 1 + 1]? = some (.cells #[.string (bstr en)] 9 (0, 0)) := (heap_set_other _ (by omega)).trans x5M
          have h4c : (Wm.setCell ⟨w.heap.size + 2 + 1 + 1, 0, none⟩ (.int .i64 (i : Int))).heap[W.heap.size]? = _ := (heap_set_other _ (by omega)).trans hcM
          have b5 : (Wm.setCell ⟨w.heap.size + 2 + 1 + 1, 0, none⟩ (.int .i64 (i : Int))).cell? ⟨w.heap.size + 2 + 1 + 1 + 1, 0, none⟩ = some (.string (bstr en)) := (vcb h46).1 0
          have b5f : (Wm.setCell ⟨w.heap.size + 2 + 1 + 1, 0, none⟩ (.int .i64 (i : Int))).frozen? ⟨w.heap.size + 2 + 1 + 1 + 1, 0, none⟩ = false := (vcb h46).2 0
          have f2b : (Wm.setCell ⟨w.heap.size + 2 + 1 + 1, 0, none⟩ (.int .i64 (i : Int))).cell? ⟨W.heap.size, 2, none⟩ = some (.string (bstr high)) := (vcb h4c).1 2
          have h4b := heap_set_same x4M (o := 0) (.int .i64 (i : Int))
          have h5b := heap_set_same h46 (o := 0) (.string (bstr high))
          have h5c : ((Wm.setCell ⟨w.heap.size + 2 + 1 + 1, 0, none⟩ (.int .i64 (i : Int))).setCell ⟨w.heap.size + 2 + 1 + 1 + 1, 0, none⟩ (.string (bstr high))).heap[W.heap.size]? = _ := (heap_set_other _ (by omega)).trans h4c
          have f2c : ((Wm.setCell ⟨w.heap.size + 2 + 1 + 1, 0, none⟩ (.int .i64 (i : Int))).setCell ⟨w.heap.size + 2 + 1 + 1 + 1, 0, none⟩ (.string (bstr high))).cell? ⟨W.heap.size, 2, none⟩ = some (.string (bstr high)) := (vcb h5c).1 2
          have h54 : ((Wm.setCell ⟨w.heap.size + 2 + 1 + 1, 0, none⟩ (.int .i64 (i : Int))).setCell ⟨w.heap.size + 2 + 1 + 1 + 1, 0, none⟩ (.string (bstr high))).heap[w.heap.size + 2 + 1 + 1]? = _ := (heap_set_other _ (by omega)).trans h4b
          have hkE : ∀ k, k < Wb.heap.size → k ≠ w.heap.size + 2 → k ≠ w.heap.size + 2 + 1 + 1 → k ≠ w.heap.size + 2 + 1 + 1 + 1 → ((Wm.setCell ⟨w.heap.size + 2 + 1 + 1, 0, none⟩ (.int .i64 (i : Int))).setCell ⟨w.heap.size + 2 + 1 + 1 + 1, 0, none⟩ (.string (bstr high))).heap[k]? = Wb.heap[k]? := fun k h1 h2 h3 h4 => (heap_set_other _ h4).trans ((heap_set_other _ h3).trans (hkM k h1 h2))
          have hrE : ((Wm.setCell ⟨w.heap.size + 2 + 1 + 1, 0, none⟩ (.int .i64 (i : Int))).setCell ⟨w.heap.size + 2 + 1 + 1 + 1, 0, none⟩ (.string (bstr high))).drew.heap[wb.heap.size + 1]? = _ := (hkE _ (blk_lt HRB.out) (by omega) (by omega) (by omega)).trans HRB.out
          have hbE : Below w.heap.size w (((Wm.setCell ⟨w.heap.size + 2 + 1 + 1, 0, none⟩ (.int .i64 (i : Int))).setCell ⟨w.heap.size + 2 + 1 + 1 + 1, 0, none⟩ (.string (bstr high))).drew.putObj (wb.heap.size + 1) (.loop RR)) := below_putv (below_setv (below_setv hbM (by omega) _) (by omega) _).drew (by omega) _
          have hkF : ∀ k, k < W.heap.size → k ≠ w.heap.size + 2 → k ≠ w.heap.size + 2 + 1 + 1 → k ≠ w.heap.size + 2 + 1 + 1 + 1 → k ≠ wb.heap.size + 1 → (((Wm.setCell ⟨w.heap.size + 2 + 1 + 1, 0, none⟩ (.int .i64 (i : Int))).setCell ⟨w.heap.size + 2 + 1 + 1 + 1, 0, none⟩ (.string (bstr high))).drew.putObj (wb.heap.size + 1) (.loop RR)).heap[k]? = W.heap[k]? := fun k h1 h2 h3 h4 h5 => (World.putObj_heap_other h5).trans ((hkE k (by omega) h2 h3 h4).trans (HWK.out k h1 h5))
          have HCL : Hid (RP (.returned (.bool true)) (((Wm.setCell ⟨w.heap.size + 2 + 1 + 1, 0, none⟩ (.int .i64 (i : Int))).setCell ⟨w.heap.size + 2 + 1 + 1 + 1, 0, none⟩ (.string (bstr high))).drew.putObj (wb.heap.size + 1) (.loop RR))) := by
            refine hT.out _ ⟨(hkF _ (blk_lt HJ.out.b0) (by omega) (by omega) (by omega) (by omega)).trans HJ.out.b0, (hkF _ (blk_lt HJ.out.b1) (by omega) (by omega) (by omega) (by omega)).trans HJ.out.b1, ?_, (hkF _ (blk_lt HJ.out.mb) (by omega) (by omega) (by omega) (by omega)).trans HJ.out.mb, ⟨i, high, (World.putObj_heap_other (by omega)).trans h54, (World.putObj_heap_other (by omega)).trans h5b, (HFH.out i high).2 ⟨rfl, rfl⟩⟩, (hkF _ (blk_lt HJ.out.g) (by omega) (by omega) (by omega) (by omega)).trans HJ.out.g, (hkF _ (blk_lt HJ.out.d) (by omega) (by omega) (by omega) (by omega)).trans HJ.out.d, World.putObj_heap_same (blk_lt hrE), hbE⟩
            exact hmM.kept ((World.putObj_heap_other (by omega)).trans ((heap_set_other _ (by omega)).trans (heap_set_other _ (by omega))))
          have HRE : Hid _ := hrE
          clear hrE hbE hkE hkF h54 h5c h5b h4b h46 h4c hmM hkM hbM hcM x4M x5M
          refine sto_round (S0 := fun w' => w'.cell? ⟨W.heap.size, 2, none⟩ = some (.string (bstr high))) (S1 := fun _ => True) (st := 3) (by kernel_rfl) (by kernel_rfl) ?_
          refine wpAnyS_takeA (i := 0) (oi := ⟨_, _, _, _, _, _⟩) (v := .int .i64 (i : Int)) rfl (by kernel_rfl) (by kernel_rfl) (by kernel_rfl) rfl (fun _ _ _ h => h) (Or.inl ⟨by rfl, fun w' hS' => ?_⟩) f2 (fun _ => trivial) ?_
          · go_simp
          refine wpAnyS_takeA (i := 1) (oi := ⟨_, _, _, _, _, _⟩) (v := .pointer (some ⟨W.heap.size, 2, none⟩)) rfl (by kernel_rfl) (by kernel_rfl) (by kernel_rfl) rfl (fun _ _ _ h => h) (Or.inl ⟨by rfl, fun w' hS' => ?_⟩) f2 (fun _ => trivial) ?_
          · go_simp
          simp only [Act.put, List.setIfInBounds_toArray, List.set_cons_zero, List.set_cons_succ]
          refine wpAnyS_takeA (i := 2) (oi := ⟨_, _, _, _, _, _⟩) (v := .string (bstr high)) rfl (by kernel_rfl) (by kernel_rfl) (by kernel_rfl) rfl (fun _ _ _ h => h) (Or.inl ⟨by rfl, fun w' hS' => ?_⟩) f2 (fun _ => trivial) ?_
          · go_simp
          simp only [Act.put, List.setIfInBounds_toArray, List.set_cons_zero, List.set_cons_succ]
          refine wpAnyS_ready (rs := [3]) (by kernel_rfl) (by simp) ?_
          refine AllS.cons (o := ⟨_, _, _, _, _, _⟩) rfl (by rfl) (fun K hK => ?_) AllS.nil
          go_wp2_with fail
          refine hK.out _ _ (show (Wm.setCell ⟨w.heap.size + 2 + 1 + 1, 0, none⟩ (.int .i64 (i : Int))).drew.cell? _ = _ from f2b) (fun _ => trivial) ?_
          clear hK K
          refine wpAnyS_ready (rs := [4]) (by kernel_rfl) (by simp) ?_
          refine AllS.cons (o := ⟨_, _, _, _, _, _⟩) rfl (by rfl) (fun K hK => ?_) AllS.nil
          go_wp2_with fail
          refine hK.out _ _ (show ((Wm.setCell ⟨w.heap.size + 2 + 1 + 1, 0, none⟩ (.int .i64 (i : Int))).setCell ⟨w.heap.size + 2 + 1 + 1 + 1, 0, none⟩ (.string (bstr high))).drew.cell? _ = _ from f2c) (fun _ => trivial) ?_
          clear hK K
          refine wpAnyS_done (by kernel_rfl) ?_ _
          refine nrm_of ?_
          gi_wp2
          refine ⟨_, _, run_endRound (r := { RR with state := .busy }) none HRE.out, ?_⟩
          show RP _ (World.putObj _ _ (Obj.loop { RR with state := .ready, pending := none }))
          rw [eRR]
          exact HCL.out
        · have hib : ¬ ((i : Int) = (bf : Int)) := by omega
          clear hi0 hbi
          gi_wp2_with fail
          refine ⟨trivial, fun h => (by cases h), (CallsIn.inRound _ (callsIn_wide.2 (hmb _))).mono ?_⟩
          rintro e Wd ⟨rfl, hbd⟩
          clear a0 a4 a5 f0 f1 f2 f3
          have hcD := (hbd.block _ (blk_lt HCB.out)).trans HCB.out
          have hmD : MS Wd (w.heap.size + 2) (tld lv i t) := HMS.out.kept (hbd.block _ HMS.out.lt)
          have x3D := (hbd.block _ (blk_lt HX3.out)).trans HX3.out
          obtain ⟨Wm, hrun, hmM, hgm⟩ := hmD.store hfr (by omega) (by omega)
          rw [← hsu] at hmM
          have f0 : Wd.cell? ⟨W.heap.size, 0, none⟩ = some (.int .u64 (id : Int)) := (vcb hcD).1 0
          have a3 : Wd.cell? ⟨w.heap.size + 2 + 1, 0, none⟩ = some (.map (some (w.heap.size + 2))) := (vcb x3D).1 0
          have hkM : ∀ k, k < Wb.heap.size → k ≠ w.heap.size + 2 → Wm.heap[k]? = Wb.heap[k]? := fun k h1 h2 => (hgm.block k (Nat.lt_of_lt_of_le h1 hbd.size) (fun e => h2 (by cases e; rfl))).trans (hbd.block k h1)
          have hbM : Below w.heap.size w Wm := (below2 HBE.out hbd).grown hgm (by have := HBE.out.size; have := hbd.size; omega) (fun k hk => by cases hk; omega)
          have zb := blk_lt HCB.out
          have hcM := (hkM W.heap.size (blk_lt HCB.out) (by omega)).trans HCB.out
          have x4M := (hkM _ (blk_lt HX4.out) (by omega)).trans HX4.out
          have x5M := (hkM _ (blk_lt HX5.out) (by omega)).trans HX5.out
          clear hcD hmD x3D hgm
          gi_wp2_with fail
          clear hrun f0 a3
          have f2 : Wm.cell? ⟨W.heap.size, 2, none⟩ = some (.string (bstr high)) := (vcb hcM).1 2
          have b4 : Wm.cell? ⟨w.heap.size + 2 + 1 + 1, 0, none⟩ = some (.int .i64 (bf : Int)) := (vcb x4M).1 0
          have b4f : Wm.frozen? ⟨w.heap.size + 2 + 1 + 1, 0, none⟩ = false := (vcb x4M).2 0
          have h46 : (Wm.setCell ⟨w.heap.size + 2 + 1 + 1, 0, none⟩ (.int .i64 (i : Int))).heap[w.heap.size + 2 + 1 + 1 + 1]? = some (.cells #[.string (bstr en)] 9 (0, 0)) := (heap_set_other _ (by omega)).trans x5M
          have h4c : (Wm.setCell ⟨w.heap.size + 2 + 1 + 1, 0, none⟩ (.int .i64 (i : Int))).heap[W.heap.size]? = _ := (heap_set_other _ (by omega)).trans hcM
          have b5 : (Wm.setCell ⟨w.heap.size + 2 + 1 + 1, 0, none⟩ (.int .i64 (i : Int))).cell? ⟨w.heap.size + 2 + 1 + 1 + 1, 0, none⟩ = some (.string (bstr en)) := (vcb h46).1 0
          have b5f : (Wm.setCell ⟨w.heap.size + 2 + 1 + 1, 0, none⟩ (.int .i64 (i : Int))).frozen? ⟨w.heap.size + 2 + 1 + 1 + 1, 0, none⟩ = false := (vcb h46).2 0
          have f2b : (Wm.setCell ⟨w.heap.size + 2 + 1 + 1, 0, none⟩ (.int .i64 (i : Int))).cell? ⟨W.heap.size, 2, none⟩ = some (.string (bstr high)) := (vcb h4c).1 2
          have h4b := heap_set_same x4M (o := 0) (.int .i64 (i : Int))
          have h5b := heap_set_same h46 (o := 0) (.string (bstr high))
          have h5c : ((Wm.setCell ⟨w.heap.size + 2 + 1 + 1, 0, none⟩ (.int .i64 (i : Int))).setCell ⟨w.heap.size + 2 + 1 + 1 + 1, 0, none⟩ (.string (bstr high))).heap[W.heap.size]? = _ := (heap_set_other _ (by omega)).trans h4c
          have f2c : ((Wm.setCell ⟨w.heap.size + 2 + 1 + 1, 0, none⟩ (.int .i64 (i : Int))).setCell ⟨w.heap.size + 2 + 1 + 1 + 1, 0, none⟩ (.string (bstr high))).cell? ⟨W.heap.size, 2, none⟩ = some (.string (bstr high)) := (vcb h5c).1 2
          have h54 : ((Wm.setCell ⟨w.heap.size + 2 + 1 + 1, 0, none⟩ (.int .i64 (i : Int))).setCell ⟨w.heap.size + 2 + 1 + 1 + 1, 0, none⟩ (.string (bstr high))).heap[w.heap.size + 2 + 1 + 1]? = _ := (heap_set_other _ (by omega)).trans h4b
          have hkE : ∀ k, k < Wb.heap.size → k ≠ w.heap.size + 2 → k ≠ w.heap.size + 2 + 1 + 1 → k ≠ w.heap.size + 2 + 1 + 1 + 1 → ((Wm.setCell ⟨w.heap.size + 2 + 1 + 1, 0, none⟩ (.int .i64 (i : Int))).setCell ⟨w.heap.size + 2 + 1 + 1 + 1, 0, none⟩ (.string (bstr high))).heap[k]? = Wb.heap[k]? := fun k h1 h2 h3 h4 => (heap_set_other _ h4).trans ((heap_set_other _ h3).trans (hkM k h1 h2))
          have hrE : ((Wm.setCell ⟨w.heap.size + 2 + 1 + 1, 0, none⟩ (.int .i64 (i : Int))).setCell ⟨w.heap.size + 2 + 1 + 1 + 1, 0, none⟩ (.string (bstr high))).drew.heap[wb.heap.size + 1]? = _ := (hkE _ (blk_lt HRB.out) (by omega) (by omega) (by omega)).trans HRB.out
          have hbE : Below w.heap.size w (((Wm.setCell ⟨w.heap.size + 2 + 1 + 1, 0, none⟩ (.int .i64 (i : Int))).setCell ⟨w.heap.size + 2 + 1 + 1 + 1, 0, none⟩ (.string (bstr high))).drew.putObj (wb.heap.size + 1) (.loop RR)) := below_putv (below_setv (below_setv hbM (by omega) _) (by omega) _).drew (by omega) _
          have hkF : ∀ k, k < W.heap.size → k ≠ w.heap.size + 2 → k ≠ w.heap.size + 2 + 1 + 1 → k ≠ w.heap.size + 2 + 1 + 1 + 1 → k ≠ wb.heap.size + 1 → (((Wm.setCell ⟨w.heap.size + 2 + 1 + 1, 0, none⟩ (.int .i64 (i : Int))).setCell ⟨w.heap.size + 2 + 1 + 1 + 1, 0, none⟩ (.string (bstr high))).drew.putObj (wb.heap.size + 1) (.loop RR)).heap[k]? = W.heap[k]? := fun k h1 h2 h3 h4 h5 => (World.putObj_heap_other h5).trans ((hkE k (by omega) h2 h3 h4).trans (HWK.out k h1 h5))
          have HCL : Hid (RP (.returned (.bool true)) (((Wm.setCell ⟨w.heap.size + 2 + 1 + 1, 0, none⟩ (.int .i64 (i : Int))).setCell ⟨w.heap.size + 2 + 1 + 1 + 1, 0, none⟩ (.string (bstr high))).drew.putObj (wb.heap.size + 1) (.loop RR))) := by
            refine hT.out _ ⟨(hkF _ (blk_lt HJ.out.b0) (by omega) (by omega) (by omega) (by omega)).trans HJ.out.b0, (hkF _ (blk_lt HJ.out.b1) (by omega) (by omega) (by omega) (by omega)).trans HJ.out.b1, ?_, (hkF _ (blk_lt HJ.out.mb) (by omega) (by omega) (by omega) (by omega)).trans HJ.out.mb, ⟨i, high, (World.putObj_heap_other (by omega)).trans h54, (World.putObj_heap_other (by omega)).trans h5b, (HFH.out i high).2 ⟨rfl, rfl⟩⟩, (hkF _ (blk_lt HJ.out.g) (by omega) (by omega) (by omega) (by omega)).trans HJ.out.g, (hkF _ (blk_lt HJ.out.d) (by omega) (by omega) (by omega) (by omega)).trans HJ.out.d, World.putObj_heap_same (blk_lt hrE), hbE⟩
            exact hmM.kept ((World.putObj_heap_other (by omega)).trans ((heap_set_other _ (by omega)).trans (heap_set_other _ (by omega))))
          have HRE : Hid _ := hrE
          clear hrE hbE hkE hkF h54 h5c h5b h4b h46 h4c hmM hkM hbM hcM x4M x5M
          refine sto_round (S0 := fun w' => w'.cell? ⟨W.heap.size, 2, none⟩ = some (.string (bstr high))) (S1 := fun _ => True) (st := 3) (by kernel_rfl) (by kernel_rfl) ?_
          refine wpAnyS_takeA (i := 0) (oi := ⟨_, _, _, _, _, _⟩) (v := .int .i64 (i : Int)) rfl (by kernel_rfl) (by kernel_rfl) (by kernel_rfl) rfl (fun _ _ _ h => h) (Or.inl ⟨by rfl, fun w' hS' => ?_⟩) f2 (fun _ => trivial) ?_
          · go_simp
          refine wpAnyS_takeA (i := 1) (oi := ⟨_, _, _, _, _, _⟩) (v := .pointer (some ⟨W.heap.size, 2, none⟩)) rfl (by kernel_rfl) (by kernel_rfl) (by kernel_rfl) rfl (fun _ _ _ h => h) (Or.inl ⟨by rfl, fun w' hS' => ?_⟩) f2 (fun _ => trivial) ?_
          · go_simp
          simp only [Act.put, List.setIfInBounds_toArray, List.set_cons_zero, List.set_cons_succ]
          refine wpAnyS_takeA (i := 2) (oi := ⟨_, _, _, _, _, _⟩) (v := .string (bstr high)) rfl (by kernel_rfl) (by kernel_rfl) (by kernel_rfl) rfl (fun _ _ _ h => h) (Or.inl ⟨by rfl, fun w' hS' => ?_⟩) f2 (fun _ => trivial) ?_
          · go_simp
          simp only [Act.put, List.setIfInBounds_toArray, List.set_cons_zero, List.set_cons_succ]
          refine wpAnyS_ready (rs := [3]) (by kernel_rfl) (by simp) ?_
          refine AllS.cons (o := ⟨_, _, _, _, _, _⟩) rfl (by rfl) (fun K hK => ?_) AllS.nil
          go_wp2_with fail
          refine hK.out _ _ (show (Wm.setCell ⟨w.heap.size + 2 + 1 + 1, 0, none⟩ (.int .i64 (i : Int))).drew.cell? _ = _ from f2b) (fun _ => trivial) ?_
          clear hK K
          refine wpAnyS_ready (rs := [4]) (by kernel_rfl) (by simp) ?_
          refine AllS.cons (o := ⟨_, _, _, _, _, _⟩) rfl (by rfl) (fun K hK => ?_) AllS.nil
          go_wp2_with fail
          refine hK.out _ _ (show ((Wm.setCell ⟨w.heap.size + 2 + 1 + 1, 0, none⟩ (.int .i64 (i : Int))).setCell ⟨w.heap.size + 2 + 1 + 1 + 1, 0, none⟩ (.string (bstr high))).drew.cell? _ = _ from f2c) (fun _ => trivial) ?_
          clear hK K
          refine wpAnyS_done (by kernel_rfl) ?_ _
          refine nrm_of ?_
          gi_wp2
          refine ⟨_, _, run_endRound (r := { RR with state := .busy }) none HRE.out, ?_⟩
          show RP _ (World.putObj _ _ (Obj.loop { RR with state := .ready, pending := none }))
          rw [eRR]
          exact HCL.out
    exact key _ (fun W' h1 => Or.inl ⟨rfl, h1⟩)

end Go.Proofs.YtnfnlfdplnekgaaDoor

namespace Go.Proofs.YtnfnlfdplnekgaaDoor
open Go.RowKit

/-- The bytes of a level's files, of a level, of a state. -/
def lvB (l : List Fi) : List UInt8 := l.flatMap layF
def levB (l : List Fi) : List UInt8 := Lib.uvarint l.length ++ lvB l
def stB (next log : Nat) (lv : List (List Fi)) : List UInt8 := Lib.uvarint next ++ Lib.uvarint log ++ Lib.uvarint lv.length ++ lv.flatMap levB
theorem lvB_snoc {l : List Fi} {t : Nat} {f : Fi} (h : l[t]? = some f) : lvB (l.take (t + 1)) = lvB (l.take t) ++ layF f := by
  unfold lvB
  rw [List.take_add_one, h, List.flatMap_append]
  simp
theorem lvB_len {l : List Fi} (h : ∀ f ∈ l, mayF f = true ∧ f.id < 18446744073709551616) : (lvB l).length ≤ 110 * l.length := by
  unfold lvB
  induction l with
  | nil => simp
  | cons f l ih =>
    rw [List.flatMap_cons, List.length_append, List.length_cons]
    have h1 := layF_len (h f (by simp)).1 (h f (by simp)).2
    have h2 := ih fun g hg => h g (by simp [hg])
    omega
theorem Tryd.infoBld : (Tryd.prog.info? 70).map (fun i => (i.zero, i.size, i.bytes)) = some (some (.agg #[.pointer none, .slice none 0 0]), 2, 32) := by kernel_rfl
/-- The cells of n new builders. -/
def zsB (n : Nat) : Array Value := madeCells (Value.agg #[.pointer none, .slice none 0 0]).cells (n * 2)
theorem zsB_size (n : Nat) : (zsB n).size = n * 2 := by
  unfold zsB madeCells
  simp [Value.cells]
theorem zsB_get (n j : Nat) (h : j < n) : (zsB n)[j * 2]? = some (.pointer none) ∧ (zsB n)[j * 2 + 1]? = some (.slice none 0 0) := by
  have h1 : j * 2 < n * 2 := by omega
  have h2 : j * 2 + 1 < n * 2 := by omega
  have e1 : j * 2 % 2 = 0 := by omega
  have e2 : (j * 2 + 1) % 2 = 1 := by omega
  unfold zsB madeCells
  constructor
  · simp [Value.cells, h1, e1]
  · simp [Value.cells, h2, e2]
theorem makeB_run (n : Nat) (hn : n ≤ 1000) (w : World) : (Instr.makeSlice 61 (.int .i64 (n : Int)) (.int .i64 (n : Int))).run Tryd.prog w = .ok (.slice (some ⟨w.heap.size, 0, none⟩) n n) (w.alloc (.cells (zsB n) 70)) := by
  obtain ⟨i0, hi, hz0, hz1, hz2⟩ := info_parts Tryd.infoBld
  have := run_make (P := Tryd.prog) (w := w) 61 70 i0 (.agg #[.pointer none, .slice none 0 0]) Tryd.underlying61 hi hz0 .i64 .i64 (n : Int) (n : Int) (by omega) (by omega) (by rw [hz2]; omega) (by omega)
  rw [Int.toNat_natCast, hz1] at this
  exact this

/-- The builders of a state's levels, in one block: each holds its bytes. -/
structure Bs7 (w : World) (B g n : Nat) (ls : Nat → List UInt8) (vs : Nat → Value) (cur : Array Value) : Prop where
  b : ∀ k, k < n → Bw w B g (k * 2) cur (vs k) (ls k)
  blk : w.heap[g]? = some (.cells cur 70 (0, 0))
  sz : cur.size = n * 2
  ap : ∀ k k' i, k < n → k' < n → k ≠ k' → (vs k).ownBlock = some i → (vs k').ownBlock ≠ some i
  em : ∀ k, k < n → ls k = [] → vs k = .slice none 0 0
theorem Bs7.kept {w w' : World} {B g n : Nat} {ls : Nat → List UInt8} {vs : Nat → Value} {cur : Array Value} (h : Bs7 w B g n ls vs cur) (hg : w'.heap[g]? = w.heap[g]?) (hv : ∀ k i, k < n → (vs k).ownBlock = some i → w'.heap[i]? = w.heap[i]?) : Bs7 w' B g n ls vs cur :=
  ⟨fun k hk => ⟨hg.trans (h.b k hk).blk, (h.b k hk).p, (h.b k hk).q, own_kept (h.b k hk).row fun i hi => hv k i hk hi, (h.b k hk).ne, (h.b k hk).lies⟩, hg.trans h.blk, h.sz, h.ap, h.em⟩
theorem Bs7.below {w w' : World} {B g n : Nat} {ls : Nat → List UInt8} {vs : Nat → Value} {cur : Array Value} (h : Bs7 w B g n ls vs cur) (hb : Below w.heap.size w w') : Bs7 w' B g n ls vs cur :=
  h.kept (hb.block _ (blk_lt h.blk)) fun k i hk hi => hb.block i (own_blk_lt (h.b k hk).row hi).1
theorem Bs7.made (w : World) (n B : Nat) (hn : n ≤ 7) : Bs7 (w.alloc (.cells (zsB n) 70)) B w.heap.size n (fun _ => []) (fun _ => .slice none 0 0) (zsB n) := by
  have hb := heap_alloc_new w (.cells (zsB n) 70)
  refine ⟨fun k hk => ⟨hb, .inl (zsB_get n k hk).1, (zsB_get n k hk).2, ⟨rfl, .inl ⟨rfl, rfl⟩⟩, by simp [Value.ownBlock], ?_⟩, hb, zsB_size n, fun _ _ _ _ _ _ h => by simp [Value.ownBlock] at h, fun _ _ _ => rfl⟩
  rw [zsB_size]
  exact bld_lies7 n (by omega) k hk

theorem Bs7.write {w w' : World} {B g n : Nat} {ls : Nat → List UInt8} {vs : Nat → Value} {cur : Array Value} (h : Bs7 w B g n ls vs cur) {i : Nat} {s : List UInt8} {v' : Value} {cur' : Array Value} (hi : i < n) (hb : Bw w' B g (i * 2) cur' v' (ls i ++ s)) (hs : cur'.size = cur.size) (hcu : ∀ k, k ≠ i * 2 → k ≠ i * 2 + 1 → cur'[k]? = cur[k]?) (hK : Kp w w' (fun j => j = g ∨ (vs i).ownBlock = some j)) (hn : ∀ j, v'.ownBlock = some j → (vs i).ownBlock = some j ∨ w.heap.size ≤ j) (hne : s ≠ []) :
    Bs7 w' B g n (fun k => if k = i then ls i ++ s else ls k) (fun k => if k = i then v' else vs k) cur' := by
  have hfar : ∀ k j, k < n → k ≠ i → (vs k).ownBlock = some j → v'.ownBlock ≠ some j := fun k j hk hki hj he => by
    have hl := (own_blk_lt (h.b k hk).row hj).1
    rcases hn j he with h1 | h1
    · exact h.ap k i j hk hi hki hj h1
    · omega
  refine ⟨fun k hk => ?_, hb.blk, hs.trans h.sz, fun k k' j hk hk' hkk hj => ?_, fun k hk he => ?_⟩
  · by_cases e : k = i
    · subst e
      simp only [if_pos]
      exact hb
    · simp only [if_neg e]
      have hB := h.b k hk
      refine ⟨hb.blk, ?_, ?_, own_kept hB.row fun j hj => hK.block j (own_blk_lt hB.row hj).1 (fun hh => ?_), hB.ne, ?_⟩
      · rw [hcu _ (by omega) (by omega)]; exact hB.p
      · rw [hcu _ (by omega) (by omega)]; exact hB.q
      · rcases hh with rfl | hh
        · exact hB.ne hj
        · exact h.ap k i j hk hi e hj hh
      · rw [hs]; exact hB.lies
  · by_cases e : k = i
    · subst e
      have e' : ¬ k' = k := fun x => hkk x.symm
      simp only [if_pos, if_neg e'] at hj ⊢
      exact fun h2 => hfar k' j hk' e' h2 hj
    · by_cases e' : k' = i
      · subst e'
        simp only [if_pos, if_neg e] at hj ⊢
        exact hfar k j hk e hj
      · simp only [if_neg e, if_neg e'] at hj ⊢
        exact h.ap k k' j hk hk' hkk hj
  · by_cases e : k = i
    · subst e
      simp only [if_pos] at he
      exact absurd (List.append_eq_nil_iff.1 he).2 hne
    · simp only [if_neg e] at he ⊢
      exact h.em k hk he
/-- What the builder of level k holds, when level i and its first t files were told. -/
def eB (lv : List (List Fi)) (i t k : Nat) : List UInt8 := if k < i then lvB ((lv[k]?).getD []) else if k = i then lvB (((lv[k]?).getD []).take t) else []
theorem eB_zero (lv : List (List Fi)) : eB lv 0 0 = fun _ => [] := by
  funext k
  unfold eB
  by_cases e : k = 0
  · simp [e, lvB]
  · simp [e]
theorem eB_next {lv : List (List Fi)} {i : Nat} {l : List Fi} (h : lv[i]? = some l) : eB lv i l.length = eB lv (i + 1) 0 := by
  funext k
  unfold eB
  by_cases e1 : k < i
  · rw [if_pos e1, if_pos (by omega)]
  · by_cases e2 : k = i
    · subst e2
      rw [if_neg e1, if_pos rfl, if_pos (by omega), h]
      simp
    · rw [if_neg e1, if_neg e2, if_neg (by omega)]
      by_cases e3 : k = i + 1
      · rw [if_pos e3]; simp [lvB]
      · rw [if_neg e3]
theorem eB_succ {lv : List (List Fi)} {i t : Nat} {l : List Fi} {f : Fi} (h : lv[i]? = some l) (hf : l[t]? = some f) : eB lv i (t + 1) = fun k => if k = i then eB lv i t i ++ layF f else eB lv i t k := by
  funext k
  by_cases e : k = i
  · subst e
    simp only [if_pos]
    unfold eB
    rw [if_neg (Nat.lt_irrefl _), if_pos rfl, if_neg (Nat.lt_irrefl _), if_pos rfl, h]
    exact lvB_snoc hf
  · simp only [if_neg e]
    unfold eB
    simp only [if_neg e]
theorem eB_end {lv : List (List Fi)} {k : Nat} (h : k < lv.length) : eB lv lv.length 0 k = lvB lv[k] := by
  unfold eB
  rw [if_pos h, List.getElem?_eq_getElem h]
  rfl
theorem eB_len {lv : List (List Fi)} {i t k : Nat} (h : ∀ l ∈ lv, ∀ f ∈ l, mayF f = true ∧ f.id < 18446744073709551616) : (eB lv i t k).length ≤ 110 * many lv := by
  have key : ∀ m, (lvB (((lv[k]?).getD []).take m)).length ≤ 110 * many lv := fun m => by
    cases hk : lv[k]? with
    | none => simp [lvB]
    | some l =>
      have hl := List.mem_of_getElem? hk
      have h1 := lvB_len (l := l.take m) fun f hf => h l hl f (List.mem_of_mem_take hf)
      have h2 := many_mem hl
      have h3 : (l.take m).length ≤ l.length := by rw [List.length_take]; omega
      simp only [Option.getD_some]
      omega
  unfold eB
  split
  · have := key ((lv[k]?).getD []).length
    rwa [List.take_length] at this
  · split
    · exact key t
    · simp
theorem layF_ne (f : Fi) : layF f ≠ [] := by
  intro h
  have h1 : (layF f).length = 0 := by rw [h]; rfl
  unfold layF at h1
  rw [List.length_append] at h1
  have h2 := Lib.uvarint_pos f.id
  omega

/-- A state's head; what was laid of it, level by level. -/
def hdB (next log n : Nat) : List UInt8 := Lib.uvarint next ++ Lib.uvarint log ++ Lib.uvarint n
def upB (next log : Nat) (lv : List (List Fi)) (k : Nat) : List UInt8 := hdB next log lv.length ++ (lv.take k).flatMap levB
theorem upB_zero (next log : Nat) (lv : List (List Fi)) : upB next log lv 0 = hdB next log lv.length := by simp [upB]
theorem upB_succ {next log : Nat} {lv : List (List Fi)} {k : Nat} (h : k < lv.length) : upB next log lv (k + 1) = upB next log lv k ++ Lib.uvarint lv[k].length ++ lvB lv[k] := by
  unfold upB
  rw [List.take_add_one, List.getElem?_eq_getElem h, List.flatMap_append]
  simp [levB]
theorem upB_end (next log : Nat) (lv : List (List Fi)) : upB next log lv lv.length = stB next log lv := by
  unfold upB stB hdB
  rw [List.take_length]
theorem flat_len {lv : List (List Fi)} (h : ∀ l ∈ lv, ∀ f ∈ l, mayF f = true ∧ f.id < 18446744073709551616) (hm : many lv ≤ 1024) : (lv.flatMap levB).length ≤ 10 * lv.length + 110 * many lv := by
  induction lv with
  | nil => simp [many]
  | cons l lv ih =>
    have e : many (l :: lv) = l.length + many lv := by simp [many]
    rw [e] at hm
    have h1 := ih (fun l' hl => h l' (by simp [hl])) (by omega)
    have h2 := lvB_len (h l (by simp))
    have h3 := Lib.uvarint_length64 (x := l.length) (by omega)
    have h4 : (levB l).length = (Lib.uvarint l.length).length + (lvB l).length := by unfold levB; rw [List.length_append]
    rw [List.flatMap_cons, List.length_append, List.length_cons, e]
    omega
theorem hdB_len {next log n : Nat} (h1 : next < 18446744073709551616) (h2 : log < 18446744073709551616) (h3 : n < 18446744073709551616) : (hdB next log n).length ≤ 30 := by
  have a := Lib.uvarint_length64 (x := next) h1
  have b := Lib.uvarint_length64 (x := log) h2
  have c := Lib.uvarint_length64 (x := n) h3
  unfold hdB
  rw [List.length_append, List.length_append]
  omega
theorem upB_len {next log : Nat} {lv : List (List Fi)} (h : OkS next log lv) (k : Nat) : (upB next log lv k).length ≤ 200000 := by
  have hn := cnt_lt h.n
  have hg := cnt_lt h.g
  have hl := h.l
  have hm := h.m
  have h1 := flat_len (lv := lv) (fun l hl f hf => by have := h.f l hl f hf; exact ⟨this.1, by omega⟩) hm
  have h2 := hdB_len (next := next) (log := log) (n := lv.length) (by omega) (by omega) (by omega)
  have h3 : ((lv.take k).flatMap levB).length ≤ (lv.flatMap levB).length := by
    conv => rhs; rw [← List.take_append_drop k lv, List.flatMap_append, List.length_append]
    omega
  unfold upB
  rw [List.length_append]
  omega
theorem stB_len {next log : Nat} {lv : List (List Fi)} (h : OkS next log lv) : (stB next log lv).length ≤ 200000 := by
  rw [← upB_end]
  exact upB_len h _

end Go.Proofs.YtnfnlfdplnekgaaDoor

namespace Go.Proofs.YtnfnlfdplnekgaaDoor
open Go.RowKit Go.BigFrame Go.Sort
attribute [local go_sem] size_bstr toList_bstr ls_def

theorem vres2 {fn : Func} {p u : Tmp} {ty : TypeId} (h : fn.results = #[.cell p ty, .tmp u]) (tmps : Array Value) (P : Program) (w : World) :
    (results fn tmps).run P w = ((asAddr (tmps.getD p undef)).run P w).andThen fun a w₁ => ((loadVar ty a).run P w₁).andThen fun x w₂ => .ok (.tuple #[x, tmps.getD u undef]) w₂ := by
  simp only [results, h]
  simp [Sem.run_bind, Result.andThen]
/-- A file and whether it is one, answered. -/
theorem ret_file {fn : Func} {p u : Tmp} (h : fn.results = #[.cell p 48, .tmp u]) {R : Ending → World → Prop} {a : Act} {w : World} {b : Nat} {f : Fi} {v : Value} (hp : a.tmps.getD p undef = .pointer (some ⟨b, 0, none⟩)) (hu : a.tmps.getD u undef = v) (hat : FAt w b 0 f) (hd : a.defers = []) (hR : R (.returned (.tuple #[fiV f, v])) w) :
    bodyPost Tryd.prog fn R .ret a w := by
  obtain ⟨q0, q1, q2, q3⟩ := hat
  rw [Nat.zero_add] at q1 q2 q3
  exact bodyPost_ret (v := .tuple #[fiV f, v]) (by rw [vres2 h, hp, hu]; simp [go_sem, q0, q1, q2, q3]) hd hR
theorem file_set {w : World} {b : Nat} {x0 x1 x2 x3 : Value} (f : Fi) (h : w.heap[b]? = some (.cells #[x0, x1, x2, x3] 48 (0, 0))) : FAt ((((w.setCell ⟨b, 0, none⟩ (.int .u64 (f.id : Int))).setCell ⟨b, 1, none⟩ (.string (bstr f.low))).setCell ⟨b, 2, none⟩ (.string (bstr f.high))).setCell ⟨b, 3, none⟩ (.int .i64 f.n)) b 0 f := by
  have h1 := heap_set_same h (o := 0) (.int .u64 (f.id : Int))
  have h2 := heap_set_same h1 (o := 1) (.string (bstr f.low))
  have h3 := heap_set_same h2 (o := 2) (.string (bstr f.high))
  have h4 := heap_set_same h3 (o := 3) (.int .i64 f.n)
  exact ⟨(vcb h4).1 0, (vcb h4).1 1, (vcb h4).1 2, (vcb h4).1 3⟩
theorem file_other {w : World} {b i : Nat} (f : Fi) (h : i ≠ b) : ((((w.setCell ⟨b, 0, none⟩ (.int .u64 (f.id : Int))).setCell ⟨b, 1, none⟩ (.string (bstr f.low))).setCell ⟨b, 2, none⟩ (.string (bstr f.high))).setCell ⟨b, 3, none⟩ (.int .i64 f.n)).heap[i]? = w.heap[i]? :=
  (heap_set_other _ h).trans ((heap_set_other _ h).trans ((heap_set_other _ h).trans (heap_set_other _ h)))

set_option maxHeartbeats 2000000 in
set_option maxRecDepth 100000 in
theorem takeFile_ok (g : Nat) (f : Fi) (r : List UInt8) (w : World) (hR : Rd w g (bstr (layF f ++ r))) (hf : mayF f = true) (hi : f.id < 18446744073709551616) (hl : (layF f ++ r).length ≤ 10000000) :
    Calls Tryd.prog 72 #[.pointer (some ⟨g, 0, none⟩)] w fun e w' => e = .returned (.tuple #[fiV f, .bool true]) ∧ Rd w' g (bstr r) ∧ w.grownBy w' (some g) := by
  obtain ⟨h1, h2, h3, h4, h5⟩ := mayF_len hf
  obtain ⟨id, low, high, n⟩ := f
  simp only at h1 h2 h3 h4 h5 hi
  have e0 : layF ⟨id, low, high, n⟩ ++ r = Lib.uvarint id ++ (txt low ++ (txt high ++ (Lib.uvarint n.toNat ++ r))) := by simp [layF]
  rw [e0] at hR hl
  obtain ⟨a1, a2, a3⟩ := okN_num (x := id) (r := txt low ++ (txt high ++ (Lib.uvarint n.toNat ++ r))) hi
  obtain ⟨b1, b2, b3⟩ := okT_txt (m := 32) (s := low) (r := txt high ++ (Lib.uvarint n.toNat ++ r)) h2 (by omega)
  obtain ⟨c1, c2, c3⟩ := okT_txt (m := 32) (s := high) (r := Lib.uvarint n.toNat ++ r) h3 (by omega)
  obtain ⟨d1, d2, d3⟩ := okN_num (x := n.toNat) (r := r) (by omega)
  have hn1 := fun W hR => Number_r g (Lib.uvarint id ++ (txt low ++ (txt high ++ (Lib.uvarint n.toNat ++ r)))) W hR (by omega)
  rw [a1, a2, a3] at hn1
  have l1 : (txt low ++ (txt high ++ (Lib.uvarint n.toNat ++ r))).length ≤ 10000000 := by rw [List.length_append] at hl; omega
  have hn2 := fun W hR => Text_r g 32 (txt low ++ (txt high ++ (Lib.uvarint n.toNat ++ r))) W hR (by omega) (by omega)
  rw [b1, b2, b3] at hn2
  have l2 : (txt high ++ (Lib.uvarint n.toNat ++ r)).length ≤ 10000000 := by rw [List.length_append] at l1; omega
  have hn3 := fun W hR => Text_r g 32 (txt high ++ (Lib.uvarint n.toNat ++ r)) W hR (by omega) (by omega)
  rw [c1, c2, c3] at hn3
  have l3 : (Lib.uvarint n.toNat ++ r).length ≤ 10000000 := by rw [List.length_append] at l2; omega
  have hn4 := fun W hR => Number_r g (Lib.uvarint n.toNat ++ r) W hR (by omega)
  rw [d1, d2, d3] at hn4
  have hnn : ((n.toNat : Nat) : Int) = n := by omega
  rw [hnn] at hn4
  have hgz : ¬ ((1073741824 : Int) < n) := by omega
  have hcv : IntKind.i64.wrap n = n := by rw [IntKind.wrap_i64]; omega
  have hgl := hR.lt
  clear a1 a2 a3 b1 b2 b3 c1 c2 c3 d1 d2 d3 hnn e0 hl l1 l2 l3 hf
  generalize Lib.uvarint n.toNat ++ r = r3 at *
  generalize txt high ++ r3 = r2 at *
  generalize txt low ++ r2 = r1 at *
  generalize Lib.uvarint id ++ r1 = r0 at *
  obtain ⟨w0, hw0⟩ : ∃ w0, w0 = w.alloc (.cells #[.int .u64 0, .string ⟨#[]⟩, .string ⟨#[]⟩, .int .i64 0] 48) := ⟨_, rfl⟩
  have hb0 : Below w.heap.size w w0 := by rw [hw0]; exact (Below.refl _ _).alloc (Nat.le_refl _) _
  have y0 : w0.heap[w.heap.size]? = some (.cells #[.int .u64 0, .string ⟨#[]⟩, .string ⟨#[]⟩, .int .i64 0] 48 (0, 0)) := by rw [hw0]; exact heap_alloc_new w _
  have hR0 := hR.below hb0 hgl
  have HW0 : Hid _ := hw0
  clear hw0 hR
  go_enter Tryd.func72, Tryd.ntmps72
  go_wp2_with fail
  rw [← HW0.out]
  refine (hn1 w0 hR0).mono ?_
  rintro e w1 ⟨rfl, hR1, hg1⟩
  go_wp2_with fail
  refine (hn2 w1 hR1).mono ?_
  rintro e w2 ⟨rfl, hR2, hg2⟩
  go_wp2_with fail
  refine (hn3 w2 hR2).mono ?_
  rintro e w3 ⟨rfl, hR3, hg3⟩
  go_wp2_with fail
  refine (hn4 w3 hR3).mono ?_
  rintro e w4 ⟨rfl, hR4, hg4⟩
  have hg := grown_trans (grown_trans (grown_trans hg1 hg2) hg3) hg4
  have y4 := (hg.block _ (blk_lt y0) (fun e => by cases e; omega)).trans y0
  have hgw := grown_trans (grown_of_below (g := g) hb0) hg
  clear hn1 hn2 hn3 hn4 hg1 hg2 hg3 hg4 hR0 hR1 hR2 hR3 HW0
  obtain ⟨q0, q1, q2, q3⟩ : w4.cell? ⟨w.heap.size, 0, none⟩ = some (.int .u64 0) ∧ w4.cell? ⟨w.heap.size, 1, none⟩ = some (.string ⟨#[]⟩) ∧ w4.cell? ⟨w.heap.size, 2, none⟩ = some (.string ⟨#[]⟩) ∧ w4.cell? ⟨w.heap.size, 3, none⟩ = some (.int .i64 0) := ⟨(vcb y4).1 0, (vcb y4).1 1, (vcb y4).1 2, (vcb y4).1 3⟩
  obtain ⟨z0, z1, z2, z3⟩ : w4.frozen? ⟨w.heap.size, 0, none⟩ = false ∧ w4.frozen? ⟨w.heap.size, 1, none⟩ = false ∧ w4.frozen? ⟨w.heap.size, 2, none⟩ = false ∧ w4.frozen? ⟨w.heap.size, 3, none⟩ = false := ⟨(vcb y4).2 0, (vcb y4).2 1, (vcb y4).2 2, (vcb y4).2 3⟩
  have hat := file_set ⟨id, low, high, n⟩ y4
  have hRf : Rd ((((w4.setCell ⟨w.heap.size, 0, none⟩ (.int .u64 (id : Int))).setCell ⟨w.heap.size, 1, none⟩ (.string (bstr low))).setCell ⟨w.heap.size, 2, none⟩ (.string (bstr high))).setCell ⟨w.heap.size, 3, none⟩ (.int .i64 n)) g (bstr r) := (file_other ⟨id, low, high, n⟩ (by omega)).trans hR4
  have hgf : w.grownBy ((((w4.setCell ⟨w.heap.size, 0, none⟩ (.int .u64 (id : Int))).setCell ⟨w.heap.size, 1, none⟩ (.string (bstr low))).setCell ⟨w.heap.size, 2, none⟩ (.string (bstr high))).setCell ⟨w.heap.size, 3, none⟩ (.int .i64 n)) (some g) :=
    ⟨hgw.os, hgw.tape, hgw.output, by simpa using hgw.size, fun i h1 h2 => (file_other ⟨id, low, high, n⟩ (by omega)).trans (hgw.block i h1 h2)⟩
  have HAT : Hid _ := hat
  have HRF : Hid _ := hRf
  have HGF : Hid _ := hgf
  clear hat hRf hgf
  go_wp2
  exact ret_file Tryd.results72 rfl rfl HAT.out rfl ⟨rfl, HRF.out, HGF.out⟩

end Go.Proofs.YtnfnlfdplnekgaaDoor
