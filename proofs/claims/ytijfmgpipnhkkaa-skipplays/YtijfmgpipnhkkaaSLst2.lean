/-
  The law's own list: all that a list tells, as a row.
-/
import Derived.Test.YtijfmgpipnhkkaaSLst
namespace Go.Proofs.Ytijfmgpipnhkkaa
open Go.RowKit
attribute [local go_sem] Oper.semAt_some
attribute [local go_sem] size_bstr toList_bstr ls_def

set_option maxHeartbeats 2000000 in
set_option maxRecDepth 100000 in
theorem list_rp (l hd : Nat) (T : List Tw) (v : Value) (w : World) (h : Ls w l hd T v []) (hn : T.length ≤ 1000000) (RP0 : Ending → World → Prop)
    (hRP : Hid (∀ r v' W, W.ownsRow w.heap.size 34 5 r T.length (ccells (T.map (fun t => t.c))) → Ls W l hd T v' [] → Kp w W (Ow l hd T v) → (∀ i, Ow l hd T v' i → Ow l hd T v i ∨ w.heap.size ≤ i) → (∀ i, r.ownBlock = some i → ¬ Ow l hd T v' i) → RP0 (.returned r) W)) :
    Calls Try.prog 29 #[.pointer (some ⟨l, 0, none⟩)] w RP0 := by
  obtain ⟨i0, hi0, hz0, hz1, hz2⟩ := info_parts Try.infoCell
  have hb0 : Below w.heap.size w (w.alloc (.cells #[.slice none 0 0] 25)) := (Below.refl _ _).alloc (Nat.le_refl _) _
  have ho0 : (w.alloc (.cells #[.slice none 0 0] 25)).heap[w.heap.size]? = some (.cells #[.slice none 0 0] 25 (0, 0)) := heap_alloc_new _ _
  have HS0 : Hid ((w.alloc (.cells #[.slice none 0 0] 25)).heap.size = w.heap.size + 1) := (World.size_alloc _ _ : _ = _)
  have hal := All_any (some ⟨l, 0, none⟩) (w.alloc (.cells #[.slice none 0 0] 25))
  generalize hw0 : w.alloc (.cells #[.slice none 0 0] 25) = w0 at *
  refine calls_marks Try.func29 rfl ?_
  simp only [Try.ntmps29, List.size_toArray, List.length_cons, List.length_nil, Nat.reduceAdd, Nat.reduceSub, Array.replicate_succ, Array.replicate_zero, List.push_toArray, List.append_toArray, List.nil_append, List.cons_append]
  gi_wp2_with (refine ⟨trivial, ?_⟩; gi_at_call 12; refine (callsIn_wide.2 hal).mono ?_; rintro e w1 ⟨rfl, hbx, hb1⟩)
  clear hal hw0
  refine wp_range2 (by omega) rfl (enters_of Try.func37 (by kernel_rfl) rfl) ?_
  intro RR hRR
  have hb01 := below2 hb0 hb1
  have hbW : Below w1.heap.size w1 ((w1.alloc (.deferred (some []))).alloc (.loop RR)) := ((Below.refl _ _).alloc (Nat.le_refl _) _).alloc (by simp) _
  have hW1 : ((w1.alloc (.deferred (some []))).alloc (.loop RR)).heap[w1.heap.size + 1]? = some (.loop RR) := by
    have := World.alloc_heap_new (w1.alloc (.deferred (some []))) (.loop RR)
    rwa [World.size_alloc] at this
  have hW2 : ((w1.alloc (.deferred (some []))).alloc (.loop RR)).heap[w1.heap.size]? = some (.deferred (some [])) := (Below.heap_alloc _ _ _ (by simp)).trans (World.alloc_heap_new w1 _)
  obtain ⟨W1, hWW⟩ : ∃ W1, W1 = (w1.alloc (.deferred (some []))).alloc (.loop RR) := ⟨_, rfl⟩
  rw [← hWW] at hbW hW1 hW2 ⊢
  clear hWW
  have hs0 := HS0.out
  have hs1 := hb1.size
  have hOw : ∀ i, Ow l hd T v i → i < w.heap.size := fun i hi => h.lt hi
  have hB : ∀ t ∈ T, 0 ≤ ccl t.c (plC [] []) := fun t ht => ccl_first (h.may t ht)
  have hJ0 : LJ w l hd T v w1.heap.size RR ([] ++ T) (Ow l hd ([] ++ T) v) 0 W1 := by
    refine ⟨rfl, Kp.of_below _ (below2 hb01 hbW), fun i hi => Or.inl hi, hW1, hW2, fun hf => ?_, fun hf => ?_, fun hf => ?_, .slice none 0 0, (hbW.block _ (by omega)).trans ((hb1.block _ (by omega)).trans ho0), ⟨rfl, .inl ⟨rfl, rfl⟩⟩, fun i hi => by cases hi⟩
    · have := hOw _ hf; omega
    · have := hOw _ hf; omega
    · have := hOw _ hf; omega
  have hfr := from1_any l hd w0.heap.size (w1.heap.size + 1) [] T v [] [] W1 (LJ w l hd T v w1.heap.size RR) (fun _ _ _ => False) (LJ.abd w l hd T v w1.heap.size RR) (fun _ _ _ _ _ h _ _ => h) (hbx.step hbW) (h.below (below2 hb01 hbW)) (by simp) hB ?_ hJ0
  · clear hs0
    refine hfr.mono ?_
    rintro e W2 ⟨⟨u, rfl⟩, T', v', hL', hj | hj⟩
    · refine ⟨⟨_, rfl⟩, Or.inl ⟨hj.rc, ?_⟩⟩
      have hT' := hj.eT
      subst hT'
      obtain ⟨rv, h1, h2, h3⟩ := hj.ro
      obtain ⟨q, cap, rfl⟩ : ∃ q cap, rv = .slice q T'.length cap := by
        rcases h2.2 with ⟨e, e0⟩ | ⟨g, cap, cur, e, _⟩
        · exact ⟨none, 0, by rw [e, e0]⟩
        · exact ⟨_, _, e⟩
      have hlen : (T'.map (fun t => t.c)).take T'.length = T'.map (fun t => t.c) := by rw [List.take_of_length_le (by simp)]
      rw [hlen] at h2
      have hwr : w.heap.size ≠ w1.heap.size + 1 := by have := hb1.size; have := HS0.out; omega
      have hwd : w.heap.size ≠ w1.heap.size := by have := hb1.size; have := HS0.out; omega
      have hoc : (W2.putObj (w1.heap.size + 1) (.loop { RR with state := .exhausted })).cell? ⟨w.heap.size, 0, none⟩ = some (.slice q T'.length cap) := by simp [World.cell?, World.putObj_heap_other hwr, h1]
      have hdf : (W2.putObj (w1.heap.size + 1) (.loop { RR with state := .exhausted })).heap[w1.heap.size]? = some (.deferred (some [])) := (World.putObj_heap_other (by omega)).trans hj.df
      have hK5 : Kp w ((W2.putObj (w1.heap.size + 1) (.loop { RR with state := .exhausted })).putObj w1.heap.size (.deferred none)) (Ow l hd T' v) := (hj.kp.put _ (Or.inr (by have := hb1.size; have := HS0.out; omega))).put _ (Or.inr (by have := hb1.size; have := HS0.out; omega))
      have hne : ∀ i, Ow l hd T' v' i ∨ (Value.slice q T'.length cap).ownBlock = some i → i ≠ w1.heap.size + 1 ∧ i ≠ w1.heap.size := fun i hi => by
        rcases hi with hi | hi
        · exact ⟨fun e => hj.nl (e ▸ hi), fun e => hj.nd (e ▸ hi)⟩
        · obtain ⟨_, _, cur, hc⟩ := own_blk_lt h2 hi
          refine ⟨fun e => ?_, fun e => ?_⟩
          · rw [e, hj.rc] at hc; cases hc
          · rw [e, hj.df] at hc; cases hc
      have hsame : ∀ i, Ow l hd T' v' i ∨ (Value.slice q T'.length cap).ownBlock = some i → ((W2.putObj (w1.heap.size + 1) (.loop { RR with state := .exhausted })).putObj w1.heap.size (.deferred none)).heap[i]? = W2.heap[i]? := fun i hi => by
        rw [World.putObj_heap_other (hne i hi).2, World.putObj_heap_other (hne i hi).1]
      have HFO : Hid _ := hj.fo
      have HH3 : Hid _ := h3
      clear hlen h1
      gi_wp2
      refine ⟨by simp, .inl ⟨_, _, rfl, run_takeDeferred hdf, ?_⟩⟩
      exact ⟨.slice q T'.length cap, by simp [results, Try.results29, go_sem], hRP.out (.slice q T'.length cap) v' _ (own_kept h2 fun i hi => hsame i (Or.inr hi)) (hL'.kept fun i hi => hsame i (Or.inl hi)) hK5 HFO.out HH3.out⟩
    · exact hj.elim
  · clear hJ0 hW1 hW2 hbW
    intro m k X T' F j c W hc hm hX hS hj
    have hT' := hj.eT
    subst hT'
    have key : ∀ RP : Ending → World → Prop, Hid (∀ W' F', Stt l hd k T' F' ((T'.map (fun t => t.c)).drop (j + 1)) W' → LJ w l hd T' v w1.heap.size RR T' (Un F' X) (j + 1) W' → (∀ i, X i → ¬ F' i ∧ W'.heap[i]? = W.heap[i]?) → RP (.returned (.bool true)) W') → YieldAt Fence.wide m Try.prog (w1.heap.size + 1) #[clV c] W RP := by
      intro RP hT
      obtain ⟨rv, h1, h2, h3⟩ := hj.ro
      have hb : Below W.heap.size W (W.alloc (.cells #[.string (bstr c.row), .string (bstr c.col), .int .u64 c.ver, .bool c.gone, .string (bstr c.val)] 34)) := (Below.refl _ _).alloc (Nat.le_refl _) _
      have hcA := CellAt.new W 34 c.row c.col c.ver c.gone c.val
      refine yield_round2 hj.rc hRR rfl ?_
      have HC : Hid _ := hc
      clear hc
      gi_wp2
      generalize hWa : W.alloc (.cells #[.string (bstr c.row), .string (bstr c.col), .int .u64 c.ver, .bool c.gone, .string (bstr c.val)] 34) = Wa at *
      have hrca := (hb.block _ (blk_lt hj.rc)).trans hj.rc
      refine ⟨_, run_beginRound hrca hRR.s, ?_⟩
      obtain ⟨q, cap, hrv⟩ : ∃ q cap, rv = .slice q j cap := by
        rcases h2.2 with ⟨e, e0⟩ | ⟨g, cap, cur, e, _⟩
        · exact ⟨none, 0, by rw [e, e0]⟩
        · exact ⟨_, _, e⟩
      have hlw := blk_lt h1
      have hlr := blk_lt hj.rc
      have hwr : w.heap.size ≠ w1.heap.size + 1 := by have := hs1; omega
      have hrb : ∀ i, rv.ownBlock = some i → i ≠ w1.heap.size + 1 ∧ i ≠ w.heap.size ∧ i ≠ w1.heap.size := fun i hi => by
        obtain ⟨_, _, cur, hc⟩ := own_blk_lt h2 hi
        refine ⟨fun e => ?_, fun e => ?_, fun e => ?_⟩
        · rw [e, hj.rc] at hc; cases hc
        · rw [e, h1] at hc; cases hc
        · rw [e, hj.df] at hc; cases hc
      have hKb : Kp W (Wa.putObj (w1.heap.size + 1) (.loop { RR with state := .busy })) (fun i => i = w1.heap.size + 1 ∨ i = w.heap.size ∨ rv.ownBlock = some i) := (Kp.of_below _ hb).put _ (Or.inl (Or.inl rfl))
      have hob : (Wa.putObj (w1.heap.size + 1) (.loop { RR with state := .busy })).heap[w.heap.size]? = some (.cells #[rv] 25 (0, 0)) := (World.putObj_heap_other hwr).trans ((hb.block _ hlw).trans h1)
      have hrw : (Wa.putObj (w1.heap.size + 1) (.loop { RR with state := .busy })).ownsRow w.heap.size 34 5 rv j (ccells ((T'.map (fun t => t.c)).take j)) := own_kept h2 fun i hi => (World.putObj_heap_other (hrb i hi).1).trans (hb.block _ (own_blk_lt h2 hi).1)
      have hrc : (Wa.putObj (w1.heap.size + 1) (.loop { RR with state := .busy })).heap[w1.heap.size + 1]? = some (.loop { RR with state := .busy }) := World.putObj_heap_same (blk_lt hrca)
      have hca : CellAt (Wa.putObj (w1.heap.size + 1) (.loop { RR with state := .busy })) W.heap.size c.row c.col c.ver c.gone c.val := by
        have hcell : ∀ o, (Wa.putObj (w1.heap.size + 1) (.loop { RR with state := .busy })).cell? ⟨W.heap.size, o, none⟩ = Wa.cell? ⟨W.heap.size, o, none⟩ := fun o => by simp only [World.cell?, World.putObj_heap_other (show W.heap.size ≠ w1.heap.size + 1 by omega)]
        exact ⟨by rw [hcell]; exact hcA.c0, by rw [hcell]; exact hcA.c1, by rw [hcell]; exact hcA.c2, by rw [hcell]; exact hcA.c3, by rw [hcell]; exact hcA.c4⟩
      generalize Wa.putObj (w1.heap.size + 1) (.loop { RR with state := .busy }) = Wb at *
      have hoc : Wb.cell? ⟨w.heap.size, 0, none⟩ = some (.slice q j cap) := by simp [World.cell?, hob, hrv]
      obtain ⟨e0, e1, e2, e3, e4⟩ := id hca
      have hszb := hKb.size
      have hjl : j < (T'.map (fun t => t.c)).length := by
        rcases Nat.lt_or_ge j (T'.map (fun t => t.c)).length with a | a
        · exact a
        · have hcc := HC.out
          rw [List.getElem?_eq_none a] at hcc; cases hcc
      have hjn : j < 1000000 := by simp at hjl; omega
      have HJL : Hid _ := hjl
      have HRV : Hid _ := hrv
      have hbase : w.heap.size ≤ Wb.heap.size := Nat.le_trans hj.kp.size hszb
      clear hWa hcA hca hrca hjl hrv
      gi_wp2_with (gi_at_builtin; refine wpListIn_app _ rfl _ _ 25 rfl w.heap.size 34 i0 (.agg #[.string ⟨#[]⟩, .string ⟨#[]⟩, .int .u64 0, .bool false, .string ⟨#[]⟩]) 5 64 Try.underlying25 hi0 hz0 hz1 hz2 rfl (by decide) rv j _ HRV.out.symm (hrw.alloc _) ⟨Wb.heap.size, 0, none⟩ 1 1 (encC c) (by omega) rfl rfl (cell_news Wb c 34) (encC_one _) ?c3 ?c4 ?c5 ?_)
      case c3 => unfold maxLen; omega
      case c4 => omega
      case c5 => simp; omega
      intro v3 W3 hown3 hgrow hwh
      obtain ⟨q3, cap3, rfl⟩ : ∃ q3 cap3, v3 = .slice q3 (j + 1) cap3 := by
        rcases hown3.2 with ⟨_, e0⟩ | ⟨g, cap, cur, e, _⟩
        · omega
        · exact ⟨_, _, e⟩
      have hK3 : Kp Wb W3 (fun i => rv.ownBlock = some i) := (Kp.of_below _ ((Below.refl _ _).alloc (Nat.le_refl _) _)).trans (Kp.of_grown hgrow (fun k e => e)) (fun i hi => Or.inl hi)
      have ho3 := (hK3.block _ (blk_lt hob) (fun e => (hrb _ e).2.1 rfl)).trans hob
      have hr3 := (hK3.block _ (blk_lt hrc) (fun e => (hrb _ e).1 rfl)).trans hrc
      have ho3c : W3.cell? ⟨w.heap.size, 0, none⟩ = some rv := by simp [World.cell?, ho3]
      have ho3f : W3.frozen? ⟨w.heap.size, 0, none⟩ = false := by simp [World.frozen?, ho3]
      clear hoc e0 e1 e2 e3 e4
      gi_wp2
      have hr4 : (W3.setCell ⟨w.heap.size, 0, none⟩ (.slice q3 (j + 1) cap3)).heap[w1.heap.size + 1]? = some (.loop { RR with state := .busy }) := (heap_set_other _ (Ne.symm hwr)).trans hr3
      refine ⟨_, _, run_endRound (r := { RR with state := .busy }) none hr4, ?_⟩
      have eRR : ({ RR with state := .ready, pending := none } : Loop) = RR := by
        have e1 := hRR.s
        have e2 := hRR.e
        cases RR
        simp_all
      have hK5 : Kp W ((W3.setCell ⟨w.heap.size, 0, none⟩ (.slice q3 (j + 1) cap3)).putObj (w1.heap.size + 1) (.loop RR)) (fun i => i = w1.heap.size + 1 ∨ i = w.heap.size ∨ rv.ownBlock = some i) := ((hKb.trans hK3 (fun i hi => Or.inl (Or.inr (Or.inr hi)))).setCell _ (Or.inl (Or.inr (Or.inl rfl)))).put _ (Or.inl (Or.inl rfl))
      have hUn : ∀ i, Un F X i → i < W.heap.size ∧ ¬ (i = w1.heap.size + 1 ∨ i = w.heap.size ∨ rv.ownBlock = some i) := fun i hi => by
        refine ⟨?_, ?_⟩
        · rcases hi with hi | hi
          · obtain ⟨_, _, _, _, _, hSS⟩ := hS
            exact hSS.lt i hi
          · exact (hX i hi).1
        · rintro (rfl | rfl | e)
          · exact hj.nl hi
          · exact hj.nb hi
          · exact h3 i e hi
      have hv3 : ∀ i, (Value.slice q3 (j + 1) cap3).ownBlock = some i → i ≠ w.heap.size ∧ i ≠ w1.heap.size + 1 ∧ ¬ Un F X i := fun i hi => by
        obtain ⟨_, _, cur, hc⟩ := own_blk_lt hown3 hi
        refine ⟨fun e => ?_, fun e => ?_, fun hu => ?_⟩
        · rw [e, ho3] at hc; cases hc
        · rw [e, hr3] at hc; cases hc
        · rcases hwh with e | e
          · exact h3 i (e ▸ hi) hu
          · rw [e] at hi
            cases hi
            have := (hUn _ hu).1
            omega
      have hgo := hT.out ((W3.setCell ⟨w.heap.size, 0, none⟩ (.slice q3 (j + 1) cap3)).putObj (w1.heap.size + 1) (.loop RR)) F (hS.kept hK5.size fun i hi => hK5.block i (hUn i (Or.inl hi)).1 (hUn i (Or.inl hi)).2) ?lj (fun i hi => ⟨(hX i hi).2, hK5.block i (hUn i (Or.inr hi)).1 (hUn i (Or.inr hi)).2⟩)
      · have e5 : ({ state := if (none : Option Code).isNone = true then LoopState.ready else LoopState.done, pending := none, fn := RR.fn, tmps := RR.tmps, params := RR.params, assign := RR.assign, body := RR.body, defers := RR.defers } : Loop) = RR := eRR
        show RP _ (World.putObj _ _ (Obj.loop _))
        rw [e5]
        exact hgo
      · refine ⟨rfl, hj.kp.trans hK5 (fun i hi => Or.inr ?_), hj.fo, World.putObj_heap_same (by have := blk_lt hr4; exact this), (hK5.block _ (blk_lt hj.df) ?_).trans hj.df, hj.nl, hj.nd, hj.nb, .slice q3 (j + 1) cap3, ?_, ?_, fun i hi => (hv3 i hi).2.2⟩
        · rcases hi with rfl | rfl | e
          · have := hs1; omega
          · exact Nat.le_refl _
          · exact (own_blk_lt h2 e).2.1
        · rintro (e | e | e)
          · omega
          · have := hs1; omega
          · exact (hrb _ e).2.2 rfl
        · rw [World.putObj_heap_other hwr, heap_set_same ho3]
          rfl
        · rw [show ccells ((T'.map (fun t => t.c)).take (j + 1)) = ccells ((T'.map (fun t => t.c)).take j) ++ encC c by
            have hjl := HJL.out
            have hcc := HC.out
            rw [List.getElem?_eq_getElem hjl] at hcc
            rw [List.take_succ_eq_append_getElem hjl, ccells_append]
            congr 1
            simp only [Option.some.injEq] at hcc
            rw [hcc]
            simp [ccells]]
          exact own_kept hown3 fun i hi => (World.putObj_heap_other (hv3 i hi).2.1).trans (heap_set_other _ (hv3 i hi).1)
    exact key _ (fun W' F' h1 h2 h3 => Or.inl ⟨rfl, T', F', h1, h2, h3⟩)

theorem list_any (l hd : Nat) (T : List Tw) (v : Value) (w : World) (h : Ls w l hd T v []) (hn : T.length ≤ 1000000) :
    Calls Try.prog 29 #[.pointer (some ⟨l, 0, none⟩)] w fun e W => ∃ r v', e = .returned r ∧ W.ownsRow w.heap.size 34 5 r T.length (ccells (T.map (fun t => t.c))) ∧ Ls W l hd T v' [] ∧ Kp w W (Ow l hd T v) ∧ (∀ i, Ow l hd T v' i → Ow l hd T v i ∨ w.heap.size ≤ i) ∧ ∀ i, r.ownBlock = some i → ¬ Ow l hd T v' i :=
  list_rp l hd T v w h hn _ fun r v' _ h1 h2 h3 h4 h5 => ⟨r, v', rfl, h1, h2, h3, h4, h5⟩

end Go.Proofs.Ytijfmgpipnhkkaa
