/-
  The contracts of bloom.Check and bloom.Has.
-/
import Derived.Test.YtiingodillcleaaBPlc
namespace Go.Proofs.Ytiingodillcleaa
open Go.RowKit
attribute [local go_sem] Oper.semAt_some
attribute [local go_sem] size_bstr getElem_bstr toList_bstr

theorem below_set0 {B : Nat} {w w' : World} (h : Below B w w') {g o : Nat} (hg : B ≤ g) (v : Value) : Below B w (w'.setCell ⟨g, o, none⟩ v) :=
  ⟨h.os, h.tape, h.output, by show _ ≤ (w'.heap.modify _ _).size; rw [Array.size_modify]; exact h.size, fun k hk => (heap_set_other v (by omega)).trans (h.block k hk)⟩
theorem below_put {B : Nat} {w w' : World} (h : Below B w w') {g : Nat} (hg : B ≤ g) (o : Obj) : Below B w (w'.putObj g o) :=
  ⟨h.os, h.tape, h.output, Nat.le_trans h.size (by simp), fun k hk => (World.putObj_heap_other (by omega)).trans (h.block k hk)⟩
def ckE (f : List UInt8) : Int := if isF f = true then 0 else 4
set_option maxHeartbeats 1000000 in
theorem Check_any (f : List UInt8) (w : World) (hl : f.length ≤ 9223372036854775807) :
    Calls Try.prog 12 #[.string (bstr f)] w fun e w' => e = .returned (.int .i64 (ckE f)) ∧ w' = w := by
  have hck : ckE f = if (9 ≤ f.length ∧ f.length ≤ 131073) ∧ 1 ≤ (f.getD 0 0).toNat ∧ (f.getD 0 0).toNat ≤ 8 then 0 else 4 := by
    unfold ckE isF
    simp [and_assoc]
  by_cases h1 : f.length < 9
  · have e : ckE f = 4 := by rw [hck, if_neg (by omega)]
    rw [e]
    go_enter Try.func12, Try.ntmps12
    go_wp2
    go_ret
    exact ⟨rfl, rfl⟩
  · by_cases h2 : 131073 < f.length
    · have e : ckE f = 4 := by rw [hck, if_neg (by omega)]
      rw [e]
      go_enter Try.func12, Try.ntmps12
      go_wp2
      go_ret
      exact ⟨rfl, rfl⟩
    · obtain ⟨k, l, rfl⟩ : ∃ k l, f = k :: l := by
        cases f with
        | nil => simp at h1
        | cons k l => exact ⟨k, l, rfl⟩
      have hg : (k :: l).getD 0 0 = k := rfl
      rw [hg] at hck
      simp only [List.length_cons] at h1 h2 hck hl
      have hkl := k.toNat_lt
      by_cases h3 : k.toNat < 1
      · have e : ckE (k :: l) = 4 := by rw [hck, if_neg (by omega)]
        rw [e]
        clear hck
        go_enter Try.func12, Try.ntmps12
        go_wp2
        all_goals first | (exfalso; omega) | (go_ret; exact ⟨rfl, rfl⟩)
      · by_cases h4 : 8 < k.toNat
        · have e : ckE (k :: l) = 4 := by rw [hck, if_neg (by omega)]
          rw [e]
          clear hck
          go_enter Try.func12, Try.ntmps12
          go_wp2
          all_goals first | (exfalso; omega) | (go_ret; exact ⟨rfl, rfl⟩)
        · have e : ckE (k :: l) = 0 := by rw [hck, if_pos (by omega)]
          rw [e]
          clear hck
          go_enter Try.func12, Try.ntmps12
          go_wp2
          all_goals first | (exfalso; omega) | (go_ret; exact ⟨rfl, rfl⟩)

/-- What the rounds of Has keep: q: the filter's box, then the answer's; b: the iterator's; D: the loop's. -/
structure HJ (w : World) (b D : Nat) (RR : Loop) (f s : List UInt8) (k z j : Nat) (W : World) : Prop where
  bx : Bx W b s k z
  fb : W.heap[w.heap.size]? = some (.cells #[.string (bstr f)] 9 (0, 0))
  rb : W.heap[w.heap.size + 1]? = some (.cells #[.bool false] 4 (0, 0))
  df : W.heap[D]? = some (.deferred (some []))
  rc : W.heap[D + 1]? = some (.loop RR)
  be : Below w.heap.size w W
  al : ∀ i, i < j → hasB f.tail (plc s (8 * z) i) = true
/-- One that is not there was met. -/
structure HX (w : World) (D : Nat) (RR : Loop) (f s : List UInt8) (k z : Nat) (W : World) : Prop where
  rb : W.heap[w.heap.size + 1]? = some (.cells #[.bool false] 4 (0, 0))
  df : W.heap[D]? = some (.deferred (some []))
  rc : W.heap[D + 1]? = some (.loop { RR with state := .done, pending := some .ret })
  be : Below w.heap.size w W
  no : ∃ i, i < k ∧ hasB f.tail (plc s (8 * z) i) = false
theorem HJ.abd {w : World} {b D : Nat} {RR : Loop} {f s : List UInt8} {k z j : Nat} {W W' : World} (h : HJ w b D RR f s k z j W) (hb : Below W.heap.size W W') : HJ w b D RR f s k z j W' :=
  ⟨h.bx.step hb, (hb.block _ (blk_lt h.fb)).trans h.fb, (hb.block _ (blk_lt h.rb)).trans h.rb, (hb.block _ (blk_lt h.df)).trans h.df, (hb.block _ (blk_lt h.rc)).trans h.rc, below2 h.be hb, h.al⟩

theorem has_facts (k : UInt8) (l s : List UInt8) (j : Nat) (hl : 0 < l.length) : ∃ A V N : Nat, ∃ hA : A < (k :: l).length, bits .and .u8 ((((k :: l)[A]'hA).toNat : Nat) : Int) (V : Int) = (N : Int) ∧ Hid (N = 0 ↔ hasB l (plc s (8 * l.length) j) = false) ∧ plA (plc s (8 * l.length) j) = #[.int .i64 (A : Int), .int .u8 (V : Int)] := by
  have hp := plc_lt s (m := 8 * l.length) (by omega) j
  generalize plc s (8 * l.length) j = p at *
  have hd : p / 8 < l.length := by omega
  have hA : 1 + p / 8 < (k :: l).length := by rw [List.length_cons]; omega
  have eA : (k :: l)[1 + p / 8] = l[p / 8] := by simp [Nat.add_comm 1]
  have hV : 2 ^ (p % 8) < 256 := by
    have hr : p % 8 < 8 := Nat.mod_lt _ (by decide)
    generalize p % 8 = r at *
    have : ∀ r, r < 8 → 2 ^ r < 256 := by decide
    exact this r hr
  have hx := (l[p / 8]).toNat_lt
  refine ⟨1 + p / 8, 2 ^ (p % 8), (l[p / 8]).toNat &&& 2 ^ (p % 8), hA, ?_, ?_, rfl⟩
  · rw [eA, u8_and_nat _ _ hx hV]
  · show _ ↔ _
    rw [and_bit]
    unfold hasB
    rw [List.getD_eq_getElem?_getD, List.getElem?_eq_getElem hd]
    rfl
theorem setCell_noop {W : World} {n o : Nat} {v : Value} (h : W.cell? ⟨n, o, none⟩ = some v) : W.setCell ⟨n, o, none⟩ v = W := by
  have hlt := block_lt_of_cell h
  have e : W.heap.modify n (fun | .cells c elem frozen => .cells (if (none : Option (Nat × Nat)).isSome then c else c.setIfInBounds o v) elem frozen | o => o) = W.heap := by
    apply Array.ext_getElem?
    intro k
    rw [Array.getElem?_modify]
    split
    · rename_i hk
      subst hk
      simp only [World.cell?] at h
      cases hb : W.heap[n]? with
      | none => rfl
      | some ob =>
        rw [hb] at h
        cases ob with
        | cells c t fz =>
          simp at h
          simp
          apply Array.ext_getElem?
          intro j
          rw [Array.getElem?_setIfInBounds]
          split
          · rename_i hj
            subst hj
            rw [h]
            split
            · rfl
            · rename_i hh
              rw [Array.getElem?_eq_none (by omega)] at h
              cases h
          · rfl
        | _ => rfl
    · rfl
  cases W
  simp only [World.setCell] at e ⊢
  congr 1

set_option maxHeartbeats 4000000 in
set_option maxRecDepth 100000 in
theorem Has_any (f s : List UInt8) (w : World) (hl : f.length ≤ 9223372036854775807) (hs : s.length ≤ 9223372036854775807) :
    Calls Try.prog 14 #[.string (bstr f), .string (bstr s)] w fun e w' => e = .returned (.bool (hasF f s)) ∧ Below w.heap.size w w' := by
  obtain ⟨w0, hw0⟩ : ∃ w0, w0 = (w.alloc (.cells #[.string (bstr f)] 9)).alloc (.cells #[.bool false] 4) := ⟨_, rfl⟩
  have hb0 : Below w.heap.size w w0 := by rw [hw0]; exact ((Below.refl _ _).alloc (Nat.le_refl _) _).alloc (by simp) _
  have hf0 : w0.heap[w.heap.size]? = some (.cells #[.string (bstr f)] 9 (0, 0)) := by rw [hw0]; exact (Below.heap_alloc _ _ _ (by simp)).trans (heap_alloc_new w _)
  have hr0 : w0.heap[w.heap.size + 1]? = some (.cells #[.bool false] 4 (0, 0)) := by
    have := heap_alloc_new (w.alloc (.cells #[.string (bstr f)] 9)) (.cells #[.bool false] 4)
    rw [hw0]
    simpa using this
  have cf : w0.cell? ⟨w.heap.size, 0, none⟩ = some (.string (bstr f)) := (cells_block hf0).1 0
  have hck := Check_any f w0 hl
  refine calls_marks Try.func14 rfl ?_
  simp only [Try.ntmps14, List.size_toArray, List.length_cons, List.length_nil, Nat.reduceAdd, Nat.reduceSub, Array.replicate_succ, Array.replicate_zero, List.push_toArray, List.append_toArray, List.nil_append, List.cons_append]
  gi_wp2_with fail
  rw [← hw0]
  refine ⟨trivial, (callsIn_wide.2 hck).mono ?_⟩
  rintro e w1 ⟨rfl, rfl⟩
  clear hck hw0
  have fz : w1.frozen? ⟨w.heap.size + 1, 0, none⟩ = false := (cells_block hr0).2 0
  have cr : w1.cell? ⟨w.heap.size + 1, 0, none⟩ = some (.bool false) := (cells_block hr0).1 0
  cases hF : isF f with
  | false =>
    have e4 : ckE f = 4 := by unfold ckE; rw [hF]; rfl
    have ht : hasF f s = true := by unfold hasF; rw [hF]; rfl
    rw [e4]
    gi_wp2
    have hs1 := heap_set_same hr0 (o := 0) (.bool true)
    have hb1 : Below w.heap.size w (w1.setCell ⟨w.heap.size + 1, 0, none⟩ (.bool true)) := below_set0 hb0 (g := w.heap.size + 1) (o := 0) (by omega) (.bool true)
    generalize w1.setCell ⟨w.heap.size + 1, 0, none⟩ (.bool true) = w2 at *
    have c2 : w2.cell? ⟨w.heap.size + 1, 0, none⟩ = some (.bool true) := (cells_block hs1).1 0
    exact ⟨.bool true, by simp [results, Try.results14, go_sem, c2], by rw [ht], hb1⟩
  | true =>
    have e4 : ckE f = 0 := by unfold ckE; rw [hF]; rfl
    obtain ⟨k, l, rfl⟩ : ∃ k l, f = k :: l := by
      cases f with
      | nil => simp [isF] at hF
      | cons k l => exact ⟨k, l, rfl⟩
    have hkl : 1 ≤ k.toNat ∧ k.toNat ≤ 8 ∧ 8 ≤ l.length ∧ l.length ≤ 131072 := by
      unfold isF at hF
      have hg : (k :: l).getD 0 0 = k := rfl
      rw [hg] at hF
      simp at hF
      omega
    have hha : Hid (hasF (k :: l) s = (plcs s k.toNat (8 * l.length)).all fun p => hasB l p) := by show hasF (k :: l) s = _; unfold hasF; rw [hF]; rfl
    obtain ⟨hk1, hk8, hl8, hlm⟩ := hkl
    rw [e4]
    have hwl : IntKind.i64.wrap (l.length : Int) = (l.length : Int) := by rw [IntKind.wrap_i64]; omega
    gi_wp2_with fail
    have hblt := blk_lt hf0
    refine wpIn_wide.2 ?_
    go_region_held3 (fun w' => w'.cell? ⟨w.heap.size, 0, none⟩ = some (.string (bstr (k :: l)))) (first | with_reducible exact cf | with_reducible exact cf2 | go_keep) ((go_at_call 16; refine (places_any s k.toNat l.length _).mono ?_; rintro e wf ⟨rfl, hbx, hbf⟩; have cf2 : wf.cell? ⟨w.heap.size, 0, none⟩ = some (.string (bstr (k :: l))) := (cells_block ((hbf.block _ hblt).trans hf0)).1 0))
    gi_wp2
    clear cf cf2 fz cr
    refine wp_range2 (by omega) rfl (enters_of Try.func18 (by kernel_rfl) rfl) ?_
    intro RR hRR
    have hbf' : Below w1.heap.size w1 wf := ⟨hbf.os, hbf.tape, hbf.output, hbf.size, hbf.block⟩
    have hb01 := below2 hb0 hbf'
    have hbW : Below wf.heap.size wf ((wf.alloc (.deferred (some []))).alloc (.loop RR)) := ((Below.refl _ _).alloc (Nat.le_refl _) _).alloc (by simp) _
    have hW1 : ((wf.alloc (.deferred (some []))).alloc (.loop RR)).heap[wf.heap.size + 1]? = some (.loop RR) := by
      have := World.alloc_heap_new (wf.alloc (.deferred (some []))) (.loop RR)
      rwa [World.size_alloc] at this
    have hW2 : ((wf.alloc (.deferred (some []))).alloc (.loop RR)).heap[wf.heap.size]? = some (.deferred (some [])) := (Below.heap_alloc _ _ _ (by simp)).trans (World.alloc_heap_new wf _)
    obtain ⟨W1, hWW⟩ : ∃ W1, W1 = (wf.alloc (.deferred (some []))).alloc (.loop RR) := ⟨_, rfl⟩
    rw [← hWW] at hbW hW1 hW2 ⊢
    clear hWW
    have hsz := hbf'.size
    have hrlt := blk_lt hr0
    have hJ0 : HJ w w1.heap.size wf.heap.size RR (k :: l) s k.toNat l.length 0 W1 :=
      ⟨hbx.step hbW, (hbW.block _ (by omega)).trans ((hbf'.block _ hblt).trans hf0), (hbW.block _ (by omega)).trans ((hbf'.block _ hrlt).trans hr0), hW2, hW1, below2 hb01 hbW, fun i hi => absurd hi (Nat.not_lt_zero i)⟩
    have hpl := places1_any s k.toNat l.length w1.heap.size (wf.heap.size + 1) (HJ w w1.heap.size wf.heap.size RR (k :: l) s k.toNat l.length) (HX w wf.heap.size RR (k :: l) s k.toNat l.length) W1 hs hk8 (by omega) hlm (fun j W W' h hb => h.abd hb) (fun j W h => h.bx) ?_ hJ0
    · refine hpl.mono ?_
      have hws : w.heap.size + 1 ≠ wf.heap.size + 1 := by omega
      have hwd : w.heap.size + 1 ≠ wf.heap.size := by omega
      have hdd : wf.heap.size ≠ wf.heap.size + 1 := by omega
      have hleD : w.heap.size ≤ wf.heap.size := by omega
      clear hpl hJ0 hW1 hW2 hbW
      rintro e W2 ⟨⟨u, rfl⟩, hj | hj⟩
      · refine ⟨⟨_, rfl⟩, Or.inl ⟨hj.rc, ?_⟩⟩
        have hans : hasF (k :: l) s = true := by
          rw [hha.out, List.all_eq_true]
          intro p hp
          unfold plcs at hp
          obtain ⟨i, hi, rfl⟩ := List.mem_map.1 hp
          exact hj.al i (List.mem_range.1 hi)
        have hK : Below w.heap.size w (W2.putObj (wf.heap.size + 1) (.loop { RR with state := .exhausted })) := below_put hj.be (by omega) _
        have hr2 : (W2.putObj (wf.heap.size + 1) (.loop { RR with state := .exhausted })).heap[w.heap.size + 1]? = some (.cells #[.bool false] 4 (0, 0)) := (World.putObj_heap_other hws).trans hj.rb
        have hd2 : (W2.putObj (wf.heap.size + 1) (.loop { RR with state := .exhausted })).heap[wf.heap.size]? = some (.deferred (some [])) := (World.putObj_heap_other hdd).trans hj.df
        generalize W2.putObj (wf.heap.size + 1) (.loop { RR with state := .exhausted }) = W3 at *
        have fz : W3.frozen? ⟨w.heap.size + 1, 0, none⟩ = false := (cells_block hr2).2 0
        have cr : W3.cell? ⟨w.heap.size + 1, 0, none⟩ = some (.bool false) := (cells_block hr2).1 0
        gi_wp2
        have hs3 := heap_set_same hr2 (o := 0) (.bool true)
        have hK3 : Below w.heap.size w (W3.setCell ⟨w.heap.size + 1, 0, none⟩ (.bool true)) := below_set0 hK (g := w.heap.size + 1) (o := 0) (by omega) (.bool true)
        have hd3 : (W3.setCell ⟨w.heap.size + 1, 0, none⟩ (.bool true)).heap[wf.heap.size]? = some (.deferred (some [])) := (heap_set_other _ (Ne.symm hwd)).trans hd2
        generalize W3.setCell ⟨w.heap.size + 1, 0, none⟩ (.bool true) = W4 at *
        refine ⟨by simp, .inl ⟨_, _, rfl, run_takeDeferred hd3, ?_⟩⟩
        have c5 : (W4.putObj wf.heap.size (.deferred none)).cell? ⟨w.heap.size + 1, 0, none⟩ = some (.bool true) := by simp only [World.cell?, World.putObj_heap_other hwd, hs3]; rfl
        exact ⟨.bool true, by simp [results, Try.results14, go_sem, c5], by first | rfl | rw [hans], below_put hK3 hleD _⟩
      · refine ⟨⟨_, rfl⟩, Or.inr ⟨.ret, hj.rc, ?_⟩⟩
        have hans : hasF (k :: l) s = false := by
          obtain ⟨i, hi, hn⟩ := hj.no
          rw [hha.out, List.all_eq_false]
          refine ⟨plc s (8 * l.length) i, List.mem_map.2 ⟨i, List.mem_range.2 hi, rfl⟩, ?_⟩
          have hn2 : hasB l (plc s (8 * l.length) i) = false := hn
          rw [hn2]
          simp
        have hd2 : (W2.putObj (wf.heap.size + 1) (.loop { RR with state := .exhausted, pending := some .ret })).heap[wf.heap.size]? = some (.deferred (some [])) := (World.putObj_heap_other hdd).trans hj.df
        gi_wp2
        refine ⟨by simp, .inl ⟨_, _, rfl, run_takeDeferred hd2, ?_⟩⟩
        have c5 : ((W2.putObj (wf.heap.size + 1) (.loop { RR with state := .exhausted, pending := some .ret })).putObj wf.heap.size (.deferred none)).cell? ⟨w.heap.size + 1, 0, none⟩ = some (.bool false) := by simp only [World.cell?, World.putObj_heap_other hwd, World.putObj_heap_other hws, hj.rb]; rfl
        exact ⟨.bool false, by simp [results, Try.results14, go_sem, c5], by first | rfl | rw [hans], below_put (below_put hj.be (by omega) _) hleD _⟩
    · clear hJ0 hW1 hW2 hbW
      intro m j W hjk hj
      have key : ∀ RP : Ending → World → Prop, Hid (∀ W', HJ w w1.heap.size wf.heap.size RR (k :: l) s k.toNat l.length (j + 1) W' → RP (.returned (.bool true)) W') → Hid (∀ W', HX w wf.heap.size RR (k :: l) s k.toNat l.length W' → RP (.returned (.bool false)) W') → YieldAt Fence.wide m Try.prog (wf.heap.size + 1) (plA (plc s (8 * l.length) j)) W RP := by
        intro RP hT hX
        have eRR : ({ RR with state := .ready, pending := none } : Loop) = RR := by
          have e1 := hRR.s
          have e2 := hRR.e
          cases RR
          simp_all
        obtain ⟨A, V, N, hAl, hN, hN0, ep⟩ := has_facts k l s j (by omega)
        rw [ep]
        refine yield_round2 hj.rc hRR rfl ?_
        gi_wp2
        refine ⟨_, run_beginRound hj.rc hRR.s, ?_⟩
        have hne1 : w.heap.size ≠ wf.heap.size + 1 := by omega
        have hne2 : w.heap.size + 1 ≠ wf.heap.size + 1 := by omega
        have hne3 : wf.heap.size ≠ wf.heap.size + 1 := by omega
        have hlr := blk_lt hj.rc
        have hb1 : Below w.heap.size w (W.putObj (wf.heap.size + 1) (.loop { RR with state := .busy })) := below_put hj.be (by omega) _
        have hfb : (W.putObj (wf.heap.size + 1) (.loop { RR with state := .busy })).heap[w.heap.size]? = _ := (World.putObj_heap_other hne1).trans hj.fb
        have hrb : (W.putObj (wf.heap.size + 1) (.loop { RR with state := .busy })).heap[w.heap.size + 1]? = _ := (World.putObj_heap_other hne2).trans hj.rb
        have hdf : (W.putObj (wf.heap.size + 1) (.loop { RR with state := .busy })).heap[wf.heap.size]? = _ := (World.putObj_heap_other hne3).trans hj.df
        have hrc : (W.putObj (wf.heap.size + 1) (.loop { RR with state := .busy })).heap[wf.heap.size + 1]? = some (.loop { RR with state := .busy }) := World.putObj_heap_same hlr
        have hbx2 : Bx (W.putObj (wf.heap.size + 1) (.loop { RR with state := .busy })) w1.heap.size s k.toNat l.length := by
          have hblt := hj.bx.lt
          have hwl : w1.heap.size + 1 + 1 < wf.heap.size := hbx.lt
          exact ⟨(World.putObj_heap_other (by omega)).trans hj.bx.a, (World.putObj_heap_other (by omega)).trans hj.bx.r, (World.putObj_heap_other (by omega)).trans hj.bx.c⟩
        generalize W.putObj (wf.heap.size + 1) (.loop { RR with state := .busy }) = Wb at *
        have cf : Wb.cell? ⟨w.heap.size, 0, none⟩ = some (.string (bstr (k :: l))) := (cells_block hfb).1 0
        have cr : Wb.cell? ⟨w.heap.size + 1, 0, none⟩ = some (.bool false) := (cells_block hrb).1 0
        have fr : Wb.frozen? ⟨w.heap.size + 1, 0, none⟩ = false := (cells_block hrb).2 0
        have hst : Wb.setCell ⟨w.heap.size + 1, 0, none⟩ (.bool false) = Wb := setCell_noop cr
        have hAi : (A : Int) < (l.length : Int) + 1 := by rw [List.length_cons] at hAl; omega
        cases hb : hasB l (plc s (8 * l.length) j) with
        | true =>
          have hn1 : ¬ N = 0 := fun e => by rw [hN0.out.1 e] at hb; cases hb
          have hn2 : ¬ ((N : Int) = 0) := by omega
          gi_wp2
          refine ⟨_, _, run_endRound (r := { RR with state := .busy }) none hrc, ?_⟩
          have e5 : ({ state := if (none : Option Code).isNone = true then LoopState.ready else LoopState.done, pending := none, fn := RR.fn, tmps := RR.tmps, params := RR.params, assign := RR.assign, body := RR.body, defers := RR.defers } : Loop) = RR := eRR
          show RP _ (World.putObj _ _ (Obj.loop _))
          rw [e5]
          have hblt : w1.heap.size + 1 + 1 < wf.heap.size := hbx.lt
          refine hT.out _ ⟨⟨(World.putObj_heap_other (by omega)).trans hbx2.a, (World.putObj_heap_other (by omega)).trans hbx2.r, (World.putObj_heap_other (by omega)).trans hbx2.c⟩, (World.putObj_heap_other hne1).trans hfb, (World.putObj_heap_other hne2).trans hrb, (World.putObj_heap_other hne3).trans hdf, World.putObj_heap_same (blk_lt hrc), below_put hb1 (by omega) _, fun i hi => ?_⟩
          by_cases hij : i < j
          · exact hj.al i hij
          · obtain rfl : i = j := by omega
            exact hb
        | false =>
          obtain rfl : N = 0 := hN0.out.2 hb
          gi_wp2
          refine ⟨_, _, run_endRound (r := { RR with state := .busy }) (some .ret) hrc, ?_⟩
          exact hX.out _ ⟨(World.putObj_heap_other hne2).trans hrb, (World.putObj_heap_other hne3).trans hdf, World.putObj_heap_same (blk_lt hrc), below_put hb1 (by omega) _, j, hjk, hb⟩
      exact key _ (fun W' h => Or.inl ⟨rfl, h⟩) (fun W' h => Or.inr ⟨rfl, h⟩)

end Go.Proofs.Ytiingodillcleaa
