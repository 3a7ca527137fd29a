/-
  Encode of a state that may be.
  works: the laws' own state, there and back.
-/
import Derived.Test.YtnfnlfdplnekgaaDoorGVTak
import Derived.Test.YtnfnlfdplnekgaaDoorGQFst
import Derived.Deep.RegionHeld3
import Derived.Test.YtnfnlfdplnekgaaDoorGVSam
namespace Go.Proofs.YtnfnlfdplnekgaaDoor
open Go.RowKit Go.BigFrame Go.Sort
attribute [local go_sem] Oper.semAt_some
attribute [local go_sem] size_bstr toList_bstr ls_def append_bstr

theorem Kp.below0v {w0 W W' : World} {S : Nat → Prop} (h : Below w0.heap.size w0 W) (k : Kp W W' S) (hS : ∀ i, S i → w0.heap.size ≤ i) : Below w0.heap.size w0 W' :=
  ⟨k.os.trans h.os, k.tape.trans h.tape, k.output.trans h.output, Nat.le_trans h.size k.size, fun i hi => (k.block i (Nat.lt_of_lt_of_le hi h.size) (fun hs => by have := hS i hs; omega)).trans (h.block i hi)⟩
/-- Between two files that are told to Encode. -/
structure VE (w : World) (v : Value) (next log : Nat) (lv : List (List Fi)) (sb g gb D : Nat) (RR : Loop) (i t : Nat) (W : World) : Prop where
  b0 : W.heap[w.heap.size]? = some (.cells #[.int .u64 (next : Int), .int .u64 (log : Int), v] 28 (0, 0))
  sb : W.heap[sb]? = some (.cells #[.slice (some ⟨g, 0, none⟩) lv.length lv.length] 61 (0, 0))
  bs : ∃ vs cur, Bs7 W (D + 2) g lv.length (eB lv i t) vs cur
  g : W.heap[gb]? = some (.cells #[v] 26 (0, 0))
  d : W.heap[D]? = some (.deferred (some []))
  c : W.heap[D + 1]? = some (.loop RR)
  bl : Below w.heap.size w W
theorem VE.below {w W W' : World} {v : Value} {next log : Nat} {lv : List (List Fi)} {sb g gb D : Nat} {RR : Loop} {i t : Nat} (h : VE w v next log lv sb g gb D RR i t W) (hb : Below W.heap.size W W') : VE w v next log lv sb g gb D RR i t W' := by
  have hk : ∀ {k : Nat} {o : Obj}, W.heap[k]? = some o → W'.heap[k]? = some o := fun h => (hb.block _ (blk_lt h)).trans h
  obtain ⟨vs, cur, h1⟩ := h.bs
  exact ⟨hk h.b0, hk h.sb, ⟨vs, cur, h1.below hb⟩, hk h.g, hk h.d, hk h.c, below2 h.bl hb⟩

set_option maxHeartbeats 8000000 in
set_option maxRecDepth 100000 in
theorem Encode_ok (v : Value) (vs : List Value) (next log : Nat) (lv : List (List Fi)) (w : World) (hL : LArg w v vs lv) (hS : OkS next log lv) (hT : Tabs w) :
    Calls Tryd.prog 11 #[.agg #[.int .u64 (next : Int), .int .u64 (log : Int), v]] w fun e w' => e = .returned (.tuple #[.string (bstr (frm (stB next log lv))), .int .i64 0]) ∧ Below w.heap.size w w' := by
  obtain ⟨q, cap, hv, hc, hr⟩ := id hL.sl
  subst hv
  clear hr
  have hn7 := hS.l
  have hm0 := hS.m
  have HL : Hid _ := hL
  have HS : Hid _ := hS
  have HT : Hid _ := hT
  clear hL hS hT
  obtain ⟨w1, hw1⟩ : ∃ w1, w1 = w.alloc (.cells #[.int .u64 (next : Int), .int .u64 (log : Int), .slice q lv.length cap] 28) := ⟨_, rfl⟩
  have hb1 : Below w.heap.size w w1 := by rw [hw1]; exact (Below.refl _ _).alloc (Nat.le_refl _) _
  have x0 : w1.heap[w.heap.size]? = some (.cells #[.int .u64 (next : Int), .int .u64 (log : Int), .slice q lv.length cap] 28 (0, 0)) := by rw [hw1]; exact heap_alloc_new w _
  have hck := Check_ok (.slice q lv.length cap) vs next log lv w1 (HL.out.below hb1) HS.out
  have a0 : w1.cell? ⟨w.heap.size, 0, none⟩ = some (.int .u64 (next : Int)) := (vcb x0).1 0
  have a1 : w1.cell? ⟨w.heap.size, 1, none⟩ = some (.int .u64 (log : Int)) := (vcb x0).1 1
  have a2 : w1.cell? ⟨w.heap.size, 2, none⟩ = some (.slice q lv.length cap) := (vcb x0).1 2
  have HW1 : Hid _ := hw1
  clear hw1
  refine calls_marks Tryd.func11 rfl ?_
  simp only [Tryd.ntmps11, List.size_toArray, List.length_cons, List.length_nil, Nat.reduceAdd, Nat.reduceSub, Array.replicate_succ, Array.replicate_zero, List.push_toArray, List.append_toArray, List.nil_append, List.cons_append]
  gi_wp2_with fail
  rw [← HW1.out]
  refine ⟨trivial, (callsIn_wide.2 hck).mono ?_⟩
  rintro e w2 ⟨rfl, hb2⟩
  have x2 := (hb2.block _ (blk_lt x0)).trans x0
  have a2 : w2.cell? ⟨w.heap.size, 2, none⟩ = some (.slice q lv.length cap) := (vcb x2).1 2
  have hmk := makeB_run lv.length (by omega)
  clear a0 a1 hck HW1
  have hb3 : Below w2.heap.size w2 ((w2.alloc (.cells (zsB lv.length) 70)).alloc (.cells #[.slice (some ⟨w2.heap.size, 0, none⟩) lv.length lv.length] 61)) := ((Below.refl _ _).alloc (Nat.le_refl _) _).alloc (by simp) _
  have hb02 := below2 hb1 hb2
  have HZ2 : Hid (w.heap.size < w2.heap.size) := blk_lt x2
  have x3 := (hb3.block _ (blk_lt x2)).trans x2
  have a3 : ((w2.alloc (.cells (zsB lv.length) 70)).alloc (.cells #[.slice (some ⟨w2.heap.size, 0, none⟩) lv.length lv.length] 61)).cell? ⟨w.heap.size, 2, none⟩ = some (.slice q lv.length cap) := (vcb x3).1 2
  have y3 : ((w2.alloc (.cells (zsB lv.length) 70)).alloc (.cells #[.slice (some ⟨w2.heap.size, 0, none⟩) lv.length lv.length] 61)).heap[w2.heap.size + 1]? = some (.cells #[.slice (some ⟨w2.heap.size, 0, none⟩) lv.length lv.length] 61 (0, 0)) := by
    have := heap_alloc_new (w2.alloc (.cells (zsB lv.length) 70)) (.cells #[.slice (some ⟨w2.heap.size, 0, none⟩) lv.length lv.length] 61)
    rwa [World.size_alloc] at this
  have hfl := files_any q lv.length cap ((w2.alloc (.cells (zsB lv.length) 70)).alloc (.cells #[.slice (some ⟨w2.heap.size, 0, none⟩) lv.length lv.length] 61))
  have HBM : Hid (∀ B, Bs7 ((w2.alloc (.cells (zsB lv.length) 70)).alloc (.cells #[.slice (some ⟨w2.heap.size, 0, none⟩) lv.length lv.length] 61)) B w2.heap.size lv.length (fun _ => []) (fun _ => .slice none 0 0) (zsB lv.length)) := fun B => (Bs7.made w2 lv.length B hn7).below ((Below.refl _ _).alloc (Nat.le_refl _) _)
  gi_wp2_with fail
  generalize ((w2.alloc (.cells (zsB lv.length) 70)).alloc (.cells #[.slice (some ⟨w2.heap.size, 0, none⟩) lv.length lv.length] 61)) = w3 at *
  refine ⟨trivial, (callsIn_wide.2 hfl).mono ?_⟩
  rintro e wb ⟨rfl, hg, hbb⟩
  clear hfl hmk a2 a3 x2 x0
  gi_wp2_with fail
  refine wp_range2 (by omega) rfl (enters_of Tryd.func44 (by kernel_rfl) rfl) ?_
  intro RR hRR
  have hbW : Below wb.heap.size wb ((wb.alloc (.deferred (some []))).alloc (.loop RR)) := ((Below.refl _ _).alloc (Nat.le_refl _) _).alloc (by simp) _
  have hWa : ((wb.alloc (.deferred (some []))).alloc (.loop RR)).heap[wb.heap.size + 1]? = some (.loop RR) := by
    have := World.alloc_heap_new (wb.alloc (.deferred (some []))) (.loop RR)
    rwa [World.size_alloc] at this
  have hWb : ((wb.alloc (.deferred (some []))).alloc (.loop RR)).heap[wb.heap.size]? = some (.deferred (some [])) := (Below.heap_alloc _ _ _ (by simp)).trans (World.alloc_heap_new wb _)
  obtain ⟨W1, hWW⟩ : ∃ W1, W1 = (wb.alloc (.deferred (some []))).alloc (.loop RR) := ⟨_, rfl⟩
  rw [← hWW] at hbW hWa hWb ⊢
  clear hWW
  have hk := below2 hbb hbW
  have hb03 := below2 hb02 hb3
  have hJ0 : VE w (.slice q lv.length cap) next log lv (w2.heap.size + 1) w2.heap.size w3.heap.size wb.heap.size RR 0 0 W1 := by
    refine ⟨(hk.block _ (blk_lt x3)).trans x3, (hk.block _ (blk_lt y3)).trans y3, ⟨fun _ => .slice none 0 0, zsB lv.length, ?_⟩, (hbW.block _ (blk_lt hg)).trans hg, hWb, hWa, below2 hb03 hk⟩
    rw [eB_zero]
    exact (HBM.out _).below hk
  have z1 := blk_lt y3
  have z2 := blk_lt hg
  have z3 := hbb.size
  have z4 := blk_lt x3
  have z5 := hb02.size
  have z0 := HZ2.out
  clear hWa hWb hbW hk hbb hg y3 x3 hb03 hb3 HBM hb2 hb1
  have hid64 : ∀ l ∈ lv, ∀ f ∈ l, mayF f = true ∧ f.id < 18446744073709551616 := fun l hl f hf => by
    have h1 := HS.out.f l hl f hf
    have h2 := cnt_lt HS.out.n
    exact ⟨h1.1, by omega⟩
  have H64 : Hid _ := hid64
  clear hid64
  have hte := files1_any w3.heap.size (wb.heap.size + 1) (.slice q lv.length cap) vs lv (VE w (.slice q lv.length cap) next log lv (w2.heap.size + 1) w2.heap.size w3.heap.size wb.heap.size RR) (fun _ => False) W1 (by omega) (fun l hl => by have := many_mem hl; omega) (fun i t W W' h hb => h.below hb) (fun i t W h => ⟨(vcb h.g).1 0, HL.out.below h.bl⟩) (fun i l W hl h => by
    obtain ⟨vs', cur, h1⟩ := h.bs
    exact ⟨h.b0, h.sb, ⟨vs', cur, by rw [← eB_next hl]; exact h1⟩, h.g, h.d, h.c, h.bl⟩) ?_ hJ0
  · refine hte.mono ?_
    clear hte hJ0 hRR
    rintro e W2 ⟨⟨u, rfl⟩, hj | h⟩
    case inr => exact h.elim
    refine ⟨⟨_, rfl⟩, Or.inl ⟨hj.c, ?_⟩⟩
    have hb3 : Below w.heap.size w (W2.putObj (wb.heap.size + 1) (.loop { RR with state := .exhausted })) := below_putv hj.bl (by omega) _
    have x0 : (W2.putObj (wb.heap.size + 1) (.loop { RR with state := .exhausted })).heap[w.heap.size]? = some (.cells #[.int .u64 (next : Int), .int .u64 (log : Int), .slice q lv.length cap] 28 (0, 0)) := (World.putObj_heap_other (by omega)).trans hj.b0
    have x5 : (W2.putObj (wb.heap.size + 1) (.loop { RR with state := .exhausted })).heap[w2.heap.size + 1]? = some (.cells #[.slice (some ⟨w2.heap.size, 0, none⟩) lv.length lv.length] 61 (0, 0)) := (World.putObj_heap_other (by omega)).trans hj.sb
    have xd : (W2.putObj (wb.heap.size + 1) (.loop { RR with state := .exhausted })).heap[wb.heap.size]? = some (.deferred (some [])) := (World.putObj_heap_other (by omega)).trans hj.d
    obtain ⟨vs', cur, hbs0⟩ := hj.bs
    have hbs : Bs7 (W2.putObj (wb.heap.size + 1) (.loop { RR with state := .exhausted })) (wb.heap.size + 2) w2.heap.size lv.length (eB lv lv.length 0) vs' cur := hbs0.kept (World.putObj_heap_other (by omega)) fun k j hk hj => World.putObj_heap_other (by have := (own_blk_lt (hbs0.b k hk).row hj).2.1; omega)
    generalize W2.putObj (wb.heap.size + 1) (.loop { RR with state := .exhausted }) = W3 at *
    have hnl := cnt_lt HS.out.n
    have hgl := cnt_lt HS.out.g
    have p1 : ∀ W, Calls Tryd.prog 26 #[.string ⟨#[]⟩, .int .u64 (next : Int)] W fun e w' => e = .returned (.string (bstr (Lib.uvarint next))) ∧ Below W.heap.size W w' := fun W => putNum [] next W (by omega) (by simp)
    have p2 : ∀ W, Calls Tryd.prog 26 #[.string (bstr (Lib.uvarint next)), .int .u64 (log : Int)] W fun e w' => e = .returned (.string (bstr (Lib.uvarint next ++ Lib.uvarint log))) ∧ Below W.heap.size W w' := fun W => putNum _ log W (by omega) (by have := Lib.uvarint_length64 (x := next) (by omega); omega)
    have p3 : ∀ W, Calls Tryd.prog 26 #[.string (bstr (Lib.uvarint next ++ Lib.uvarint log)), .int .u64 (lv.length : Int)] W fun e w' => e = .returned (.string (bstr (upB next log lv 0))) ∧ Below W.heap.size W w' := fun W => by
      rw [upB_zero]
      exact putNum _ lv.length W (by omega) (by have := Lib.uvarint_length64 (x := next) (by omega); have := Lib.uvarint_length64 (x := log) (by omega); rw [List.length_append]; omega)
    have hcv : IntKind.u64.wrap (lv.length : Int) = (lv.length : Int) := by rw [IntKind.wrap_u64]; omega
    have c0 : W3.cell? ⟨w.heap.size, 0, none⟩ = some (.int .u64 (next : Int)) := (vcb x0).1 0
    have c1 : W3.cell? ⟨w.heap.size, 1, none⟩ = some (.int .u64 (log : Int)) := (vcb x0).1 1
    have q0 := fun d os => cell_regrown c0 d os
    have q1 := fun d os => cell_regrown c1 d os
    generalize Lib.uvarint next ++ Lib.uvarint log = L2 at *
    generalize Lib.uvarint next = L1 at *
    clear hj hbs0 c0 c1
    gi_wp2_with fail
    refine wpIn_wide.2 ?_
    refine wp_region_quiet_below (by kernel_rfl) (by kernel_rfl) ?_
    repeat (go_big_quiet_step (first
      | (go_at_call 26; with_reducible exact Calls.regrown_of (p1 _))
      | (go_at_call 26; with_reducible exact Calls.regrown_of (p2 _))))
    refine wpQuiet_nil ?_
    intro _ hw'
    obtain ⟨⟨dq, osq⟩, hw''⟩ := hw'
    subst hw''
    have hb4 := below_regrown W3 dq osq
    have hb4' := below2 hb3 hb4
    have x04 := (hb4.block _ (blk_lt x0)).trans x0
    have x54 := (hb4.block _ (blk_lt x5)).trans x5
    have xd4 := (hb4.block _ (blk_lt xd)).trans xd
    have hbs4 := hbs.below hb4
    generalize grow (redrawn W3 dq) osq = W4 at *
    clear q0 q1 p1 p2 hb4 hb3 x0 x5 xd hbs
    have c2 : W4.cell? ⟨w.heap.size, 2, none⟩ = some (.slice q lv.length cap) := (vcb x04).1 2
    gi_wp2_with fail
    refine ⟨trivial, (callsIn_wide.2 (p3 W4)).mono ?_⟩
    rintro e W5 ⟨rfl, hb5⟩
    have hb5' := below2 hb4' hb5
    have x05 := (hb5.block _ (blk_lt x04)).trans x04
    have x55 := (hb5.block _ (blk_lt x54)).trans x54
    have xd5 := (hb5.block _ (blk_lt xd4)).trans xd4
    have hbs5 := hbs4.below hb5
    clear p3 hb5 hb4' x04 x54 xd4 hbs4 c2
    have c2 : W5.cell? ⟨w.heap.size, 2, none⟩ = some (.slice q lv.length cap) := (vcb x05).1 2
    gi_wp2_with fail
    have hap := hbs5.ap
    have hem := hbs5.em
    have hB5 : ∀ j (h : j < lv.length), Bw W5 (wb.heap.size + 2) w2.heap.size (j * 2) cur (vs' j) (lvB lv[j]) := fun j h => by
      have := hbs5.b j h
      rwa [eB_end h] at this
    have HAP : Hid _ := hap
    have HEM : Hid (∀ j (h : j < lv.length), lvB lv[j] = [] → vs' j = .slice none 0 0) := fun j h e => hem j h (by rw [eB_end h]; exact e)
    have HXD : Hid _ := xd5
    clear hap hem hbs5 c2 x05 hnl hgl
    refine wpIn_wide.2 ?_
    go_loopw [8, 46] (fun s8 s46 wr => ∃ k : Nat, s46 = .int .i64 (k : Int) ∧ k ≤ lv.length ∧ s8 = .string (bstr (upB next log lv k)) ∧ Below w.heap.size w wr ∧ wr.heap[w2.heap.size + 1]? = some (.cells #[.slice (some ⟨w2.heap.size, 0, none⟩) lv.length lv.length] 61 (0, 0)) ∧ wr.heap[wb.heap.size]? = some (.deferred (some [])) ∧ ∀ j (h : j < lv.length), k ≤ j → Bw wr (wb.heap.size + 2) w2.heap.size (j * 2) cur (vs' j) (lvB lv[j])) (fun _ s46 _ => lv.length - (intOf s46).toNat)
    case atStart => exact ⟨0, rfl, by omega, rfl, hb5', x55, HXD.out, fun j h _ => hB5 j h⟩
    case round =>
      clear x55 hB5 hb5' HXD
      obtain ⟨k, rfl, hkl, rfl, hbw, xs, xd, hBk⟩ := hrel
      by_cases hlt : k < lv.length
      · obtain ⟨b, off, cap', u, hq', hu, ca, hA⟩ := (HL.out.below hbw).at_ hlt
        obtain ⟨rfl, rfl⟩ : q = some ⟨b, off, none⟩ ∧ cap' = cap := by
          injection hq' with h1 h2 h3
          exact ⟨h1, h3.symm⟩
        obtain ⟨q2, cap2, rfl, hc2, _⟩ := hA.sl
        have hkz : (k : Int) < (lv.length : Int) := by omega
        have hul := upB_len HS.out k
        have hup := upB_succ (next := next) (log := log) hlt
        have hlm : lv[k].length ≤ 1024 := by have := many_mem (List.getElem_mem hlt); omega
        have hcv2 : IntKind.u64.wrap (lv[k].length : Int) = (lv[k].length : Int) := by rw [IntKind.wrap_u64]; omega
        have hpn : ∀ W, Calls Tryd.prog 26 #[.string (bstr (upB next log lv k)), .int .u64 (lv[k].length : Int)] W fun e w' => e = .returned (.string (bstr (upB next log lv k ++ Lib.uvarint lv[k].length))) ∧ Below W.heap.size W w' := fun W => putNum _ _ W (by omega) (by omega)
        have hst : ∀ W, Below wr.heap.size wr W → Calls Tryd.prog 27 #[.pointer (some ⟨w2.heap.size, k * 2, none⟩)] W fun e w' => e = .returned (.string (bstr (lvB lv[k]))) ∧ Kp W w' (fun i => (vs' k).ownBlock = some i) := fun W hb => by
          have h1 := hBk k hlt (Nat.le_refl _)
          exact String_bw (wb.heap.size + 2) w2.heap.size (k * 2) cur (vs' k) (lvB lv[k]) W ⟨(hb.block _ (blk_lt h1.blk)).trans h1.blk, h1.p, h1.q, own_below h1.row hb, h1.ne, h1.lies⟩ (HEM.out k hlt)
        have a5 : wr.cell? ⟨w2.heap.size + 1, 0, none⟩ = some (.slice (some ⟨w2.heap.size, 0, none⟩) lv.length lv.length) := (vcb xs).1 0
        have hrow : ∀ j, (vs' k).ownBlock = some j → wb.heap.size + 2 ≤ j ∧ j < wr.heap.size := fun j hj => ⟨(own_blk_lt (hBk k hlt (Nat.le_refl _)).row hj).2.1, (own_blk_lt (hBk k hlt (Nat.le_refl _)).row hj).1⟩
        have HBK : Hid _ := hBk
        have HXS : Hid _ := xs
        have HXD : Hid _ := xd
        have HBW : Hid _ := hbw
        have HROW : Hid _ := hrow
        have hal : (upB next log lv k ++ Lib.uvarint lv[k].length).length + (lvB lv[k]).length ≤ 9223372036854775807 := by
          have h1 := upB_len HS.out (k + 1)
          rw [hup, List.length_append] at h1
          omega
        obtain ⟨um, hum⟩ : ∃ um, um = upB next log lv k ++ Lib.uvarint lv[k].length := ⟨_, rfl⟩
        rw [← hum] at hpn hal
        have HU2 : Hid (upB next log lv (k + 1) = um ++ lvB lv[k]) := by show _ = _; rw [hup, ← hum]
        clear hum
        have hal2 : ¬ (9223372036854775807 < um.length + (lvB lv[k]).length) := by omega
        clear hal
        have hob : b < wr.heap.size := block_lt_of_cell ca
        have HSY : Hid (∀ W W', Below wr.heap.size wr W → Kp W W' (fun i => (vs' k).ownBlock = some i) → W'.cell? ⟨w2.heap.size + 1, 0, none⟩ = some (.slice (some ⟨w2.heap.size, 0, none⟩) lv.length lv.length)) := fun W W' hb hk => by
          have h1 := (hb.block _ (blk_lt HXS.out)).trans HXS.out
          exact (vcb ((hk.block _ (blk_lt h1) (fun h => by have := HROW.out _ h; omega)).trans h1)).1 0
        have HSS : Hid (∀ W, Below wr.heap.size wr W → W.cell? ⟨w2.heap.size + 1, 0, none⟩ = some (.slice (some ⟨w2.heap.size, 0, none⟩) lv.length lv.length)) := fun W hb => (vcb ((hb.block _ (blk_lt HXS.out)).trans HXS.out)).1 0
        generalize lv[k].length = ln at *
        generalize lvB lv[k] = lk at *
        generalize upB next log lv k = ub at *
        clear hBk xs xd hbw hrow hup hu hA hc2 hul
        go_wp2_with fail
        go_region_held3 (fun w' => w'.cell? ⟨w2.heap.size + 1, 0, none⟩ = some (.slice (some ⟨w2.heap.size, 0, none⟩) lv.length lv.length)) (first | with_reducible exact a5 | go_keep)
          (first
            | (go_at_call 26; with_reducible refine (hpn _).mono ?_; rintro e Wx ⟨rfl, hbx⟩; have hbx' : Below wr.heap.size wr Wx := below2 (by repeat (first | exact RowKit.Below.refl _ _ | refine RowKit.Below.drew ?_)) hbx; have a5 := HSS.out Wx hbx')
            | (go_at_call 27; with_reducible refine (hst _ hbx').mono ?_; rintro e Wy ⟨rfl, hky⟩; have a5 := HSY.out Wx Wy hbx' hky))
        have h1x := (hbx'.block _ (blk_lt HXS.out)).trans HXS.out
        have h2x := (hbx'.block _ (blk_lt HXD.out)).trans HXD.out
        have hsy := (hky.block _ (blk_lt h1x) (fun h => by have := HROW.out _ h; omega)).trans h1x
        have hdy := (hky.block _ (blk_lt h2x) (fun h => by have := HROW.out _ h; omega)).trans h2x
        have hby : Below w.heap.size w Wy := Kp.below0v (below2 HBW.out hbx') hky fun i hi => by have := HROW.out i hi; have := HBW.out.size; omega
        have hBy : ∀ j (h : j < lv.length), k + 1 ≤ j → Bw Wy (wb.heap.size + 2) w2.heap.size (j * 2) cur (vs' j) (lvB lv[j]) := fun j h hj => by
          have h0 := HBK.out j h (by omega)
          have h3 := (hbx'.block _ (blk_lt h0.blk)).trans h0.blk
          refine ⟨(hky.block _ (blk_lt h3) (fun hh => ?_)).trans h3, h0.p, h0.q, own_kept (own_below h0.row hbx') fun i hi => hky.block i ?_ (fun hh => ?_), h0.ne, h0.lies⟩
          · have := HROW.out _ hh; omega
          · exact Nat.lt_of_lt_of_le (own_blk_lt h0.row hi).1 hbx'.size
          · exact HAP.out j k i h hlt (by omega) hi hh
        have HBY : Hid _ := hBy
        have HSY2 : Hid _ := hsy
        have HDY : Hid _ := hdy
        have HBB : Hid _ := hby
        clear hBy hsy hdy hby h1x h2x hky hbx hbx' a5 ca
        go_wp2
        go_roundw
        case rel => exact ⟨k + 1, by go_num, by omega, by rw [HU2.out], HBB.out, HSY2.out, HDY.out, HBY.out⟩
        case measure => simp [intOf]; omega
      · have hke : k = lv.length := by omega
        subst hke
        rw [upB_end]
        have hkz : ¬ ((lv.length : Int) < (lv.length : Int)) := by omega
        have hfr := Frame_ok (stB next log lv) wr (by have := stB_len HS.out; omega) (Tabs.below (w := w) HT.out hbw)
        generalize hsb : stB next log lv = sB at *
        have HSB : Hid _ := hsb
        have HXD : Hid _ := xd
        have HBW : Hid _ := hbw
        clear xs hBk xd hsb
        go_wp2_with fail
        gi_wp2_with fail
        refine ⟨trivial, (callsIn_wide.2 hfr).mono ?_⟩
        rintro e Wz ⟨rfl, hbz⟩
        have hdz := (hbz.block _ (blk_lt HXD.out)).trans HXD.out
        have hbf := below2 HBW.out hbz
        clear hfr
        gi_wp2
        refine ⟨by simp, .inl ⟨_, _, rfl, run_takeDeferred hdz, ?_⟩⟩
        exact ⟨.tuple #[.string (bstr (frm sB)), .int .i64 0], by simp [results, Tryd.results11, go_sem], by rw [HSB.out], below_putv hbf (by omega) _⟩
  · intro m i t l f W hl hf hj
    have hli : i < lv.length := (List.getElem?_eq_some_iff.1 hl).1
    have hfm := H64.out l (List.mem_of_getElem? hl) f (List.mem_of_getElem? hf)
    have hsu := eB_succ hl hf
    have hel := eB_len (i := i) (t := t) (k := i) H64.out
    have hll := layF_len hfm.1 hfm.2
    have key : ∀ RP : Ending → World → Prop, Hid (∀ W', VE w (.slice q lv.length cap) next log lv (w2.heap.size + 1) w2.heap.size w3.heap.size wb.heap.size RR i (t + 1) W' → RP (.returned (.bool true)) W') → YieldAt Fence.wide m Tryd.prog (wb.heap.size + 1) #[.int .i64 (i : Int), fiV f] W RP := by
      intro RP hT
      have eRR : ({ RR with state := .ready, pending := none } : Loop) = RR := by
        have e1 := hRR.s
        have e2 := hRR.e
        cases RR
        simp_all
      have hlay := fun W => mlay_any f W hfm.1 hfm.2
      have hne := layF_ne f
      obtain ⟨id, low, high, n⟩ := f
      obtain ⟨vs', cur, hbs⟩ := hj.bs
      have hjr := hj.c
      have HRR : Hid _ := hRR
      have HJ : Hid _ := hj
      have hb : Below W.heap.size W (W.alloc (.cells #[.int .u64 (id : Int), .string (bstr low), .string (bstr high), .int .i64 n] 48)) := (Below.refl _ _).alloc (Nat.le_refl _) _
      have hcA := heap_alloc_new W (.cells #[.int .u64 (id : Int), .string (bstr low), .string (bstr high), .int .i64 n] 48)
      refine yield_round2 hjr hRR rfl ?_
      clear hRR hj hl hf hfm
      gi_wp2
      generalize hWa : W.alloc (.cells #[.int .u64 (id : Int), .string (bstr low), .string (bstr high), .int .i64 n] 48) = Wa at *
      have h1a := (hb.block _ (blk_lt hjr)).trans hjr
      refine ⟨_, run_beginRound h1a HRR.out.s, ?_⟩
      have hlt := blk_lt hjr
      have hne1 : W.heap.size ≠ wb.heap.size + 1 := by omega
      have hWk : ∀ k, k < W.heap.size → k ≠ wb.heap.size + 1 → (Wa.putObj (wb.heap.size + 1) (.loop { RR with state := .busy })).heap[k]? = W.heap[k]? := fun k hi h2 => (World.putObj_heap_other h2).trans (hb.block k hi)
      have hrB : (Wa.putObj (wb.heap.size + 1) (.loop { RR with state := .busy })).heap[wb.heap.size + 1]? = some (.loop { RR with state := .busy }) := World.putObj_heap_same (blk_lt h1a)
      have hcB : (Wa.putObj (wb.heap.size + 1) (.loop { RR with state := .busy })).heap[W.heap.size]? = _ := (World.putObj_heap_other hne1).trans hcA
      have hbeB : Below w.heap.size w (Wa.putObj (wb.heap.size + 1) (.loop { RR with state := .busy })) := below_putv (below2 HJ.out.bl hb) (by omega) _
      generalize Wa.putObj (wb.heap.size + 1) (.loop { RR with state := .busy }) = Wb at *
      have x5 := (hWk _ (blk_lt HJ.out.sb) (by omega)).trans HJ.out.sb
      have hbsB : Bs7 Wb (wb.heap.size + 2) w2.heap.size lv.length (eB lv i t) vs' cur := hbs.kept (hWk _ (blk_lt hbs.blk) (by omega)) fun k j hk hj => hWk j (own_blk_lt (hbs.b k hk).row hj).1 (by have := (own_blk_lt (hbs.b k hk).row hj).2.1; omega)
      have a5 : Wb.cell? ⟨w2.heap.size + 1, 0, none⟩ = some (.slice (some ⟨w2.heap.size, 0, none⟩) lv.length lv.length) := (vcb x5).1 0
      obtain ⟨f0, f1, f2, f3⟩ : Wb.cell? ⟨W.heap.size, 0, none⟩ = some (.int .u64 (id : Int)) ∧ Wb.cell? ⟨W.heap.size, 1, none⟩ = some (.string (bstr low)) ∧ Wb.cell? ⟨W.heap.size, 2, none⟩ = some (.string (bstr high)) ∧ Wb.cell? ⟨W.heap.size, 3, none⟩ = some (.int .i64 n) := ⟨(vcb hcB).1 0, (vcb hcB).1 1, (vcb hcB).1 2, (vcb hcB).1 3⟩
      have hiz : (i : Int) < (lv.length : Int) := by omega
      have zb := blk_lt hcB
      clear hWa hb hcA h1a
      gi_wp2_with fail
      have hs0 : Wb.drew.cell? ⟨w2.heap.size + 1, 0, none⟩ = some (.slice (some ⟨w2.heap.size, 0, none⟩) lv.length lv.length) ∧ Wb.drew.cell? ⟨W.heap.size, 0, none⟩ = some (.int .u64 (id : Int)) ∧ Wb.drew.cell? ⟨W.heap.size, 1, none⟩ = some (.string (bstr low)) ∧ Wb.drew.cell? ⟨W.heap.size, 2, none⟩ = some (.string (bstr high)) ∧ Wb.drew.cell? ⟨W.heap.size, 3, none⟩ = some (.int .i64 n) := ⟨a5, f0, f1, f2, f3⟩
      have HX5 : Hid _ := x5
      have HCB : Hid _ := hcB
      have HRB : Hid _ := hrB
      have HBE : Hid _ := hbeB
      have HBS : Hid _ := hbsB
      have HB0 : Hid _ := hbs
      have HWK : Hid _ := hWk
      clear a5 f0 f1 f2 f3 x5 hcB hrB hbeB hbsB hWk hbs
      refine sto_round (S0 := fun w' => w'.cell? ⟨w2.heap.size + 1, 0, none⟩ = some (.slice (some ⟨w2.heap.size, 0, none⟩) lv.length lv.length) ∧ w'.cell? ⟨W.heap.size, 0, none⟩ = some (.int .u64 (id : Int)) ∧ w'.cell? ⟨W.heap.size, 1, none⟩ = some (.string (bstr low)) ∧ w'.cell? ⟨W.heap.size, 2, none⟩ = some (.string (bstr high)) ∧ w'.cell? ⟨W.heap.size, 3, none⟩ = some (.int .i64 n)) (S1 := fun _ => True) (st := 5) (by kernel_rfl) (by kernel_rfl) ?_
      refine wpAnyS_takeA (i := 0) (oi := ⟨_, _, _, _, _, _⟩) (v := .slice (some ⟨w2.heap.size, 0, none⟩) lv.length lv.length) rfl (by kernel_rfl) (by kernel_rfl) (by kernel_rfl) rfl (fun _ _ _ h => h) (Or.inl ⟨by rfl, fun w' hS' => ?_⟩) hs0 (fun _ => trivial) ?_
      · obtain ⟨h1, h2, h3, h4, h5⟩ := hS'
        go_simp
      simp only [Act.put, List.setIfInBounds_toArray, List.set_cons_zero, List.set_cons_succ]
      refine wpAnyS_takeA (i := 1) (oi := ⟨_, _, _, _, _, _⟩) (v := .int .i64 (i : Int)) rfl (by kernel_rfl) (by kernel_rfl) (by kernel_rfl) rfl (fun _ _ _ h => h) (Or.inl ⟨by rfl, fun w' hS' => ?_⟩) hs0 (fun _ => trivial) ?_
      · obtain ⟨h1, h2, h3, h4, h5⟩ := hS'
        go_simp
      simp only [Act.put, List.setIfInBounds_toArray, List.set_cons_zero, List.set_cons_succ]
      refine wpAnyS_takeA (i := 2) (oi := ⟨_, _, _, _, _, _⟩) (v := .pointer (some ⟨w2.heap.size, i * 2, none⟩)) rfl (by kernel_rfl) (by kernel_rfl) (by kernel_rfl) rfl (fun _ _ _ h => h) (Or.inl ⟨by rfl, fun w' hS' => ?_⟩) hs0 (fun _ => trivial) ?_
      · obtain ⟨h1, h2, h3, h4, h5⟩ := hS'
        go_simp
      simp only [Act.put, List.setIfInBounds_toArray, List.set_cons_zero, List.set_cons_succ]
      refine wpAnyS_takeA (i := 3) (oi := ⟨_, _, _, _, _, _⟩) (v := .agg #[.int .u64 (id : Int), .string (bstr low), .string (bstr high), .int .i64 n]) rfl (by kernel_rfl) (by kernel_rfl) (by kernel_rfl) rfl (fun _ _ _ h => h) (Or.inl ⟨by rfl, fun w' hS' => ?_⟩) hs0 (fun _ => trivial) ?_
      · obtain ⟨h1, h2, h3, h4, h5⟩ := hS'
        go_simp
      simp only [Act.put, List.setIfInBounds_toArray, List.set_cons_zero, List.set_cons_succ]
      clear hs0
      refine wpAnyS_ready (rs := [4]) (by kernel_rfl) (by simp) ?_
      refine AllS.cons (o := ⟨_, _, _, _, _, _⟩) rfl (by rfl) (fun K hK => ?_) AllS.nil
      go_wp2_with (first | (go_at_call 25; refine (hlay _).mono ?_; rintro e W4 ⟨rfl, hb4⟩))
      have hb34 : Below Wb.heap.size Wb W4 := ⟨hb4.os, hb4.tape, hb4.output, hb4.size, hb4.block⟩
      have x54 := (hb34.block _ (blk_lt HX5.out)).trans HX5.out
      have hc4 := (hb34.block _ (blk_lt HCB.out)).trans HCB.out
      have hbs4 : Bs7 W4 (wb.heap.size + 2) w2.heap.size lv.length (eB lv i t) vs' cur := HBS.out.below hb34
      have hbe4 := below2 HBE.out hb34
      refine hK.out _ _ ⟨(vcb x54).1 0, (vcb hc4).1 0, (vcb hc4).1 1, (vcb hc4).1 2, (vcb hc4).1 3⟩ (fun _ => trivial) ?_
      clear hK K hb4
      have z6 := hb34.size
      have hwr := WriteString_bw (wb.heap.size + 2) w2.heap.size (i * 2) cur (vs' i) (eB lv i t i) (layF ⟨id, low, high, n⟩) W4 (hbs4.b i hli) (by omega) (by omega)
      generalize layF ⟨id, low, high, n⟩ = lf at *
      refine wpAnyS_ready (rs := [5]) (by kernel_rfl) (by simp) ?_
      refine AllS.cons (o := ⟨_, _, _, _, _, _⟩) rfl (by rfl) (fun K hK => ?_) AllS.nil
      go_wp2_with (first | (go_at_call 24; refine hwr.mono ?_; rintro e W5 ⟨v', cur', rfl, hbw, hsz, hcu, hK5, hn5⟩))
      have hrow : ∀ j, (vs' i).ownBlock = some j → wb.heap.size + 2 ≤ j ∧ j < W.heap.size := fun j hj => ⟨(own_blk_lt (HB0.out.b i hli).row hj).2.1, (own_blk_lt (HB0.out.b i hli).row hj).1⟩
      have hk5 : ∀ k, k < W4.heap.size → k ≠ w2.heap.size → (k < wb.heap.size + 2 ∨ W.heap.size ≤ k) → W5.heap[k]? = W4.heap[k]? := fun k h1 h2 h3 => hK5.block k h1 (fun h => by
        rcases h with h | h
        · exact h2 h
        · have := hrow k h; omega)
      have hbs5 := hbs4.write hli hbw hsz hcu hK5 hn5 hne
      rw [← hsu] at hbs5
      have x55 := (hk5 _ (blk_lt x54) (by omega) (by omega)).trans x54
      have hc5 := (hk5 W.heap.size (blk_lt hc4) (by omega) (by omega)).trans hc4
      have hr5 := (hk5 _ (by have := blk_lt HRB.out; omega) (by omega) (by omega)).trans ((hb34.block _ (blk_lt HRB.out)).trans HRB.out)
      have hbe5 : Below w.heap.size w W5 := Kp.below0v hbe4 hK5 fun k hk => by
        rcases hk with hk | hk
        · omega
        · have := hrow k hk; omega
      refine hK.out _ _ ⟨(vcb x55).1 0, (vcb hc5).1 0, (vcb hc5).1 1, (vcb hc5).1 2, (vcb hc5).1 3⟩ (fun _ => trivial) ?_
      clear hK K
      refine wpAnyS_done (by kernel_rfl) ?_ _
      have hkF : ∀ k, k < wb.heap.size + 1 → k ≠ w2.heap.size → (W5.putObj (wb.heap.size + 1) (.loop RR)).heap[k]? = W.heap[k]? := fun k h1 h2 => (World.putObj_heap_other (by omega)).trans ((hk5 k (by omega) h2 (by omega)).trans ((hb34.block k (by omega)).trans (HWK.out k (by omega) (by omega))))
      have HCL : Hid (RP (.returned (.bool true)) (W5.putObj (wb.heap.size + 1) (.loop RR))) := by
        refine hT.out _ ⟨(hkF _ (by omega) (by omega)).trans HJ.out.b0, (hkF _ (by omega) (by omega)).trans HJ.out.sb, ⟨_, cur', hbs5.kept (World.putObj_heap_other (by omega)) fun k j hk hj => World.putObj_heap_other ?_⟩, (hkF _ (by omega) (by omega)).trans HJ.out.g, (hkF _ (by omega) (by omega)).trans HJ.out.d, World.putObj_heap_same (blk_lt hr5), below_putv hbe5 (by omega) _⟩
        have := (own_blk_lt (hbs5.b k hk).row hj).2.1
        omega
      have HR5 : Hid _ := hr5
      clear hkF hr5 hc5 x55 hbs5 hbe5 hk5 hrow hbw hcu hK5 hn5 hbs4 hbe4 hc4 x54 hb34
      refine nrm_of ?_
      gi_wp2
      refine ⟨_, _, run_endRound (r := { RR with state := .busy }) none HR5.out, ?_⟩
      show RP _ (World.putObj _ _ (Obj.loop { RR with state := .ready, pending := none }))
      rw [eRR]
      exact HCL.out
    exact key _ (fun W' h1 => Or.inl ⟨rfl, h1⟩)

end Go.Proofs.YtnfnlfdplnekgaaDoor

namespace Go.Proofs.YtnfnlfdplnekgaaDoor
open Go.RowKit Go.BigFrame Go.Sort
attribute [local go_sem] size_bstr toList_bstr ls_def

def wkF : Fi := ⟨1, [97], [98], 7⟩
theorem wk_ok : OkS 2 5 [[wkF]] :=
  ⟨by decide, by decide, by decide, by decide, by decide, by decide, fun i l t f f' hl hi h1 h2 => by
    match i, hl with
    | 0, _ => omega⟩
theorem wk_st : stB 2 5 [[wkF]] = [2, 5, 1, 1, 1, 1, 97, 1, 98, 7] := by decide +kernel
set_option maxHeartbeats 4000000 in
set_option maxRecDepth 100000 in
theorem works13_any (w : World) (hT : Tabs w) : Calls Tryd.prog 10 #[] w fun e w' => e = .returned (.bool true) ∧ Below w.heap.size w w' := by
  obtain ⟨W, hW⟩ : ∃ W, W = ((w.alloc (.cells #[.int .u64 1, .string ⟨#[97]⟩, .string ⟨#[98]⟩, .int .i64 7] 48)).alloc (.cells #[.slice (some ⟨w.heap.size, 0, none⟩) 1 1] 46)).alloc (.cells #[.int .u64 2, .int .u64 5, .slice (some ⟨w.heap.size + 1, 0, none⟩) 1 1] 28) := ⟨_, rfl⟩
  have hb0 : Below w.heap.size w W := by rw [hW]; exact (((Below.refl _ _).alloc (Nat.le_refl _) _).alloc (by simp) _).alloc (by simp; omega) _
  have x0 : W.heap[w.heap.size]? = some (.cells #[.int .u64 1, .string ⟨#[97]⟩, .string ⟨#[98]⟩, .int .i64 7] 48 (0, 0)) := by rw [hW]; exact (Below.heap_alloc _ _ _ (by simp; omega)).trans ((Below.heap_alloc _ _ _ (by simp)).trans (heap_alloc_new w _))
  have x1 : W.heap[w.heap.size + 1]? = some (.cells #[.slice (some ⟨w.heap.size, 0, none⟩) 1 1] 46 (0, 0)) := by
    have h := heap_alloc_new (w.alloc (.cells #[.int .u64 1, .string ⟨#[97]⟩, .string ⟨#[98]⟩, .int .i64 7] 48)) (.cells #[.slice (some ⟨w.heap.size, 0, none⟩) 1 1] 46)
    rw [World.size_alloc] at h
    rw [hW]
    exact (Below.heap_alloc _ _ _ (by simp)).trans h
  have x2 : W.heap[w.heap.size + 1 + 1]? = some (.cells #[.int .u64 2, .int .u64 5, .slice (some ⟨w.heap.size + 1, 0, none⟩) 1 1] 28 (0, 0)) := by
    have h := heap_alloc_new ((w.alloc (.cells #[.int .u64 1, .string ⟨#[97]⟩, .string ⟨#[98]⟩, .int .i64 7] 48)).alloc (.cells #[.slice (some ⟨w.heap.size, 0, none⟩) 1 1] 46)) (.cells #[.int .u64 2, .int .u64 5, .slice (some ⟨w.heap.size + 1, 0, none⟩) 1 1] 28)
    rw [World.size_alloc, World.size_alloc] at h
    rw [hW]
    exact h
  have hL : LArg W (.slice (some ⟨w.heap.size + 1, 0, none⟩) 1 1) [.slice (some ⟨w.heap.size, 0, none⟩) 1 1] [[wkF]] := by
    refine ⟨rfl, ⟨_, 1, rfl, Nat.le_refl _, fun _ => ⟨w.heap.size + 1, 0, rfl, blk_lt x1, fun k u hu => ?_⟩⟩, fun k u l hu hl => ?_⟩
    · match k, hu with
      | 0, hu => cases hu; exact (vcb x1).1 0
    · match k, hu, hl with
      | 0, hu, hl =>
        cases hu
        cases hl
        refine ⟨_, 1, rfl, Nat.le_refl _, fun _ => ⟨w.heap.size, 0, rfl, blk_lt x0, fun i hi => ?_⟩⟩
        match i, hi with
        | 0, _ => exact ⟨(vcb x0).1 0, (vcb x0).1 1, (vcb x0).1 2, (vcb x0).1 3⟩
  have hen := Encode_ok (.slice (some ⟨w.heap.size + 1, 0, none⟩) 1 1) [.slice (some ⟨w.heap.size, 0, none⟩) 1 1] 2 5 [[wkF]] W hL wk_ok (Tabs.below (w := w) hT hb0)
  rw [wk_st] at hen
  have hfr : ∀ W', Tabs W' → Calls Tryd.prog 21 #[.string ⟨#[2, 5, 1, 1, 1, 1, 97, 1, 98, 7]⟩] W' fun e w' => e = .returned (.tuple #[.string (bstr (frm [2, 5, 1, 1, 1, 1, 97, 1, 98, 7])), .int .i64 0]) ∧ Below W'.heap.size W' w' := fun W' h => Frame_ok [2, 5, 1, 1, 1, 1, 97, 1, 98, 7] W' (by decide) h
  have hdc := fun W' (h : Tabs W') => Decode_ok 2 5 [[wkF]] W' wk_ok h
  rw [wk_st] at hdc
  have HW : Hid _ := hW
  have HT : Hid _ := (Tabs.below (w := w) hT hb0)
  generalize frm [2, 5, 1, 1, 1, 1, 97, 1, 98, 7] = fB at *
  clear hW hT hL
  go_enter Tryd.func10, Tryd.ntmps10
  go_wp2_with fail
  rw [← HW.out]
  refine hen.mono ?_
  rintro e w1 ⟨rfl, hb1⟩
  have HT1 : Hid _ := Tabs.below (w := W) HT.out hb1
  go_wp2_with fail
  refine (hfr w1 HT1.out).mono ?_
  rintro e w2 ⟨rfl, hb2⟩
  have HT2 : Hid _ := Tabs.below (w := w1) HT1.out hb2
  have hb02 := below2 hb1 hb2
  clear hb1 hb2 hen hfr HW HT HT1
  go_wp2_with fail
  refine (hdc w2 HT2.out).mono ?_
  rintro e w3 ⟨v, vs, rfl, hL3, hb3⟩
  have hb03 := below2 hb02 hb3
  clear hb02 hdc HT2
  obtain ⟨b, off, cap, u, rfl, _, cu, hV⟩ := hL3.at_ (i := 0) (by decide)
  obtain ⟨q5, cap5, rfl, _, hr5⟩ := hV.sl
  obtain ⟨b5, off5, rfl, _, hR5⟩ := hr5 (by decide)
  have hAt := hR5 0 (by decide)
  have y0 := (hb03.block _ (blk_lt x0)).trans x0
  have y1 := (hb03.block _ (blk_lt x1)).trans x1
  have y2 := (hb03.block _ (blk_lt x2)).trans x2
  have hbf := below2 hb0 hb03
  have hb4 : Below w3.heap.size w3 (w3.alloc (.cells #[.int .u64 2, .int .u64 5, .slice (some ⟨b, off, none⟩) 1 cap] 28)) := (Below.refl _ _).alloc (Nat.le_refl _) _
  have x4 := heap_alloc_new w3 (.cells #[.int .u64 2, .int .u64 5, .slice (some ⟨b, off, none⟩) 1 cap] 28)
  have hAt4 := hAt.step hb4 hAt.lt
  have cu4 : (w3.alloc (.cells #[.int .u64 2, .int .u64 5, .slice (some ⟨b, off, none⟩) 1 cap] 28)).cell? ⟨b, off, none⟩ = some (.slice (some ⟨b5, off5, none⟩) 1 cap5) := by rw [hb4.cell (p := ⟨b, off, none⟩) (block_lt_of_cell cu)]; exact cu
  have z0 := (hb4.block _ (blk_lt y0)).trans y0
  have z1 := (hb4.block _ (blk_lt y1)).trans y1
  have z2 := (hb4.block _ (blk_lt y2)).trans y2
  have hbf4 := below2 hbf hb4
  have heq : ∀ W : World, (binOp .eql 48 (.agg #[.int .u64 1, .string (bstr [97]), .string (bstr [98]), .int .i64 7]) (.agg #[.int .u64 1, .string (bstr [97]), .string (bstr [98]), .int .i64 7])).run Tryd.prog W = .ok (.bool true) W := fun W => file_eql wkF wkF W
  have hgd := fun op x y xs ys W => file_guard op x y xs ys W
  generalize hw4 : w3.alloc (.cells #[.int .u64 2, .int .u64 5, .slice (some ⟨b, off, none⟩) 1 cap] 28) = w4 at *
  have HW4 : Hid _ := hw4
  obtain ⟨a0, a1, a2, a3⟩ : w4.cell? ⟨b5, off5, none⟩ = some (.int .u64 1) ∧ w4.cell? ⟨b5, off5 + 1, none⟩ = some (.string (bstr [97])) ∧ w4.cell? ⟨b5, off5 + 2, none⟩ = some (.string (bstr [98])) ∧ w4.cell? ⟨b5, off5 + 3, none⟩ = some (.int .i64 7) := ⟨hAt4.c0, hAt4.c1, hAt4.c2, hAt4.c3⟩
  obtain ⟨g0, g1, g2, g3⟩ : w4.cell? ⟨w.heap.size, 0, none⟩ = some (.int .u64 1) ∧ w4.cell? ⟨w.heap.size, 1, none⟩ = some (.string (bstr [97])) ∧ w4.cell? ⟨w.heap.size, 2, none⟩ = some (.string (bstr [98])) ∧ w4.cell? ⟨w.heap.size, 3, none⟩ = some (.int .i64 7) := ⟨(vcb z0).1 0, (vcb z0).1 1, (vcb z0).1 2, (vcb z0).1 3⟩
  have k1 : w4.cell? ⟨w.heap.size + 1, 0, none⟩ = some (.slice (some ⟨w.heap.size, 0, none⟩) 1 1) := (vcb z1).1 0
  have k2 : w4.cell? ⟨w.heap.size + 1 + 1, 2, none⟩ = some (.slice (some ⟨w.heap.size + 1, 0, none⟩) 1 1) := (vcb z2).1 2
  obtain ⟨m0, m1, m2⟩ : w4.cell? ⟨w3.heap.size, 0, none⟩ = some (.int .u64 2) ∧ w4.cell? ⟨w3.heap.size, 1, none⟩ = some (.int .u64 5) ∧ w4.cell? ⟨w3.heap.size, 2, none⟩ = some (.slice (some ⟨b, off, none⟩) 1 cap) := ⟨(vcb x4).1 0, (vcb x4).1 1, (vcb x4).1 2⟩
  clear hw4 hAt hAt4 z0 z1 z2 y0 y1 y2 x0 x1 x2 x4 hb4 hbf hb03 hb3 hL3 hV hR5 hr5 cu
  go_wp2_with fail
  rw [HW4.out]
  go_quiet (fail)
  have hbn := below2 hbf4 (below_drewv w4 nq)
  go_wp2
  go_ret
  exact ⟨rfl, hbn⟩

end Go.Proofs.YtnfnlfdplnekgaaDoor
