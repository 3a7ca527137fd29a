/-
  A file taken into a log: all of it, or its frames alone.
  The contract of take.
  The contract of take, of a file that has more than its frames.
  A file put behind a log's others, wherever it lies.
  The contract of take, of a file that has more than its frames, and is written anew.
-/
import Derived.Test.YtpldfakfgngaaaaGreatDoorWDisc
import Derived.Deep.RegionLaw
namespace Go.Proofs.YtpldfakfgngaaaaGreatDoor
open Go.RowKit
attribute [local go_sem] size_bstr toList_bstr append_bstr

theorem Lo.drew {B : Nat} {w : World} {m fr N : Nat} {L : List Fl} {k : Wk} {F : List Wf} {v : Value} (h : Lo B w m L fr N k F v) : Lo B w.drew m L fr N k F v := h.below (below_drewN (Below.refl _ _) 1)
theorem Tryz.infoPF : (Tryz.prog.info? 100).map (fun i => (i.zero, i.size, i.bytes)) = some (some (.pointer none), 1, 8) := by kernel_rfl
theorem Read_P {d m fr N : Nat} {L : List Fl} (s : List UInt8) (w : World) (h : Dk w d m L fr N) (hl : s.length ≤ maxLen) (he : (lkP s (Pu L)).isSome = true) :
    Calls Tryz.prog 33 #[.pointer (some ⟨d, 0, none⟩), .string (bstr s)] w fun e w' => e = .returned (.tuple #[.string (bstr (gtP s (Pu L))), .int .i64 0]) ∧ w' = w := by
  have hr := Read_any s w h hl
  have h1 : (ofP s (Pu L)).2.1 = by_ (lk s L) := (ofP_Pu s L).1
  have h2 : isP s (Pu L) = (lk s L).isSome := isP_Pu s L
  have h3 : (lk s L).isSome = true := h2.symm.trans he
  have h4 : fc (lk s L) = 0 := by
    cases e : lk s L with
    | none => rw [e] at h3; cases h3
    | some x => rfl
  rw [← h1, h4] at hr
  exact hr
/-- A log with one file more. -/
theorem Wm.add {w w' : World} {k : Wk} {F : List Wf} {v v' : Value} {f : Wf} (h : Wm w k F v) (hk : ∀ i, Fw k F v i → i ≠ k.g → v.ownBlock ≠ some i → w'.heap[i]? = w.heap[i]?)
    (hg : w'.heap[k.g]? = some (.cells #[.pointer (some ⟨k.d, 0, none⟩), .string (bstr k.p), .int .i64 k.most, k.fn, v'] 84 (0, 0))) (hr : Rw w' 100 v' (ptrV (F ++ [f]))) (hf : WfAt w' k.p f)
    (n1 : ∀ a ∈ F, a.g ≠ f.g) (n2 : ∀ a ∈ F, a.v.ownBlock = none ∨ a.v.ownBlock ≠ f.v.ownBlock) (n3 : f.v.ownBlock ≠ some k.cb) : Wm w' k (F ++ [f]) v' := by
  have tg : ∀ {i : Nat} {cur : Array Value} {t : TypeId} {x : Nat × Nat}, w.heap[i]? = some (.cells cur t x) → t ≠ 84 → t ≠ 100 → Fw k F v i → w'.heap[i]? = w.heap[i]? := by
    intro i cur t x hi h1 h2 hF
    refine hk i hF (fun e => ?_) (fun e => ?_)
    · rw [e, h.blk] at hi
      cases hi
      exact h1 rfl
    · obtain ⟨cur', hc⟩ := h.row.blk e
      rw [hc] at hi
      cases hi
      exact h2 rfl
  have hca := tg h.ca (by decide) (by decide) (Or.inr (Or.inl rfl))
  have hcb := tg h.cb (by decide) (by decide) (Or.inr (Or.inr (Or.inl rfl)))
  refine ⟨hg, hca.trans h.ca, hcb.trans h.cb, hr, fun a ha => ?_, ?_, ?_, fun a ha => ?_⟩
  · rcases List.mem_append.1 ha with ha | ha
    · have hfa := h.fl a ha
      refine hfa.kept (tg hfa.blk (by decide) (by decide) (Or.inr (Or.inr (Or.inr (Or.inr ⟨a, ha, Or.inl rfl⟩))))) (fun i hi => ?_)
      obtain ⟨cur, hc⟩ := hfa.row.blk hi
      exact tg hc (by decide) (by decide) (Or.inr (Or.inr (Or.inr (Or.inr ⟨a, ha, Or.inr hi⟩))))
    · rw [List.mem_singleton] at ha
      subst ha
      exact hf
  · exact List.pairwise_append.2 ⟨h.gs, List.pairwise_singleton _ _, fun a ha b hb => by rw [List.mem_singleton.1 hb]; exact n1 a ha⟩
  · exact List.pairwise_append.2 ⟨h.rs, List.pairwise_singleton _ _, fun a ha b hb => by rw [List.mem_singleton.1 hb]; exact n2 a ha⟩
  · rcases List.mem_append.1 ha with ha | ha
    · exact h.nb a ha
    · rw [List.mem_singleton] at ha
      subst ha
      exact n3
theorem ptrV_snoc (F : List Wf) (f : Wf) : ptrV (F ++ [f]) = ptrV F ++ [.pointer (some ⟨f.g, 0, none⟩)] := by simp [ptrV]
/-- 'w.files = append(w.files, f)', f a new block: the log behind it. -/
theorem Lo.push {B : Nat} {w W w2 w3 : World} {m fr N : Nat} {L : List Fl} {k : Wk} {F : List Wf} {v v' : Value} {f : Wf} (h : Lo B w m L fr N k F v) (hb : Below w.heap.size w W) (hF : WfAt W k.p f) (hg : w.heap.size ≤ f.g) (hv : ∀ i, f.v.ownBlock = some i → w.heap.size ≤ i)
    (hgr : W.grownBy w2 v.ownBlock) (hr : Rw w2 100 v' (ptrV (F ++ [f]))) (hv' : v'.ownBlock = v.ownBlock ∨ v'.ownBlock = some W.heap.size) (h3 : w3 = w2.setCell ⟨k.g, 4, none⟩ v') :
    Lo B w3 m L fr N k (F ++ [f]) v' ∧ Ks w w3 m L L k F (F ++ [f]) v v' := by
  have hWm := h.wm.below hb
  have hsz := hb.size
  have hfl : f.g < W.heap.size := (Array.getElem?_eq_some_iff.1 hF.blk).1
  have s2 := hgr.size
  have hgk : w2.heap[k.g]? = W.heap[k.g]? := hgr.block k.g (hWm.lt (Or.inl rfl)) (fun e => by
    obtain ⟨cur, hc⟩ := hWm.row.blk e.symm
    rw [hWm.blk] at hc
    cases hc)
  have hset : ∀ i, i ≠ k.g → w3.heap[i]? = w2.heap[i]? := fun i hi => by rw [h3]; exact Below.heap_setCell _ _ _ _ (fun e => hi (by rw [e]))
  have hkg : w3.heap[k.g]? = some (.cells #[.pointer (some ⟨k.d, 0, none⟩), .string (bstr k.p), .int .i64 k.most, k.fn, v'] 84 (0, 0)) := by
    rw [h3]
    exact block_set (hgk.trans hWm.blk) 4 v'
  have hkeep : ∀ i, i < W.heap.size → i ≠ k.g → v.ownBlock ≠ some i → w3.heap[i]? = W.heap[i]? := fun i hi h1 h2 => (hset i h1).trans (hgr.block i hi (fun e => h2 e.symm))
  have hrow : Rw w3 100 v' (ptrV (F ++ [f])) := hr.kept fun i hi => hset i (fun e => by
    obtain ⟨cur, hc⟩ := hr.blk hi
    rw [e, hgk, hWm.blk] at hc
    cases hc)
  have vne : ∀ {i : Nat} {cur : Array Value} {t : TypeId} {x : Nat × Nat}, W.heap[i]? = some (.cells cur t x) → t ≠ 100 → v.ownBlock ≠ some i := fun {i cur t x} hi ht e => by
    obtain ⟨cur', hc⟩ := hWm.row.blk e
    rw [hi] at hc
    cases hc
    exact ht rfl
  have hF3 : WfAt w3 k.p f := hF.kept (hkeep _ hfl (fun e => by have := h.wm.lt (Or.inl rfl : Fw k F v k.g); omega) (vne hF.blk (by decide))) (fun i hi => by
    obtain ⟨cur, hc⟩ := hF.row.blk hi
    refine hkeep i (hF.row.lt hi) (fun e => ?_) (vne hc (by decide))
    have := h.wm.lt (Or.inl rfl : Fw k F v k.g)
    have := hv i hi
    omega)
  have hw : Wm w3 k (F ++ [f]) v' := h.wm.add (fun i hi h1 h2 => (hkeep i (Nat.lt_of_lt_of_le (h.wm.lt hi) hsz) h1 h2).trans (hb.block i (h.wm.lt hi))) hkg hrow hF3
    (fun a ha => by have := h.wm.lt (Or.inr (Or.inr (Or.inr (Or.inr ⟨a, ha, Or.inl rfl⟩)))); omega)
    (fun a ha => by
      cases e : a.v.ownBlock with
      | none => exact Or.inl rfl
      | some i =>
        refine Or.inr (fun e2 => ?_)
        have := h.wm.lt (Or.inr (Or.inr (Or.inr (Or.inr ⟨a, ha, Or.inr e⟩))))
        have := hv i e2.symm
        omega)
    (fun e => by
      have := h.wm.lt (Or.inr (Or.inr (Or.inl rfl)) : Fw k F v k.cb)
      have := hv _ e
      omega)
  refine h.log hw ⟨?_, ?_, ?_, ?_, fun i hi hn => ?_⟩ (fun i hi => ?_)
  · rw [h3]; exact hgr.os.trans hb.os
  · rw [h3]; exact hgr.tape.trans hb.tape
  · rw [h3]; exact hgr.output.trans hb.output
  · rw [h3]
    simp only [World.setCell, Array.size_modify]
    omega
  · rw [hkeep i (by omega) (fun e => hn (Or.inl e)) (fun e => hn (Or.inr (Or.inr (Or.inr (Or.inl e))))), hb.block i hi]
  · rcases hi with e | e | e | e | ⟨a, ha, e⟩
    · exact Or.inl (Or.inl e)
    · exact Or.inl (Or.inr (Or.inl e))
    · exact Or.inl (Or.inr (Or.inr (Or.inl e)))
    · rcases hv' with h1 | h1
      · rw [h1] at e
        exact Or.inl (Or.inr (Or.inr (Or.inr (Or.inl e))))
      · rw [h1] at e
        cases e
        exact Or.inr hsz
    · rcases List.mem_append.1 ha with ha | ha
      · exact Or.inl (Or.inr (Or.inr (Or.inr (Or.inr ⟨a, ha, e⟩))))
      · rw [List.mem_singleton] at ha
        subst ha
        rcases e with e | e
        · exact Or.inr (by omega)
        · exact Or.inr (hv i e)

end Go.Proofs.YtpldfakfgngaaaaGreatDoor

namespace Go.Proofs.YtpldfakfgngaaaaGreatDoor
open Go.RowKit
attribute [local go_sem] size_bstr toList_bstr append_bstr

/-- What a file of these bytes has: its records. -/
def scn' (s : List UInt8) : List (List UInt8) := scn s.length s
def agA (p : List UInt8) (n : Nat) : Value := .agg #[.string (bstr (nm p n)), .int .u64 (n : Int), .int .i64 0]

theorem push_facts {W w4 : World} {k : Wk} {F : List Wf} {v : Value} (hWm : Wm W k F v) (hgr : W.grownBy w4 v.ownBlock) {g : Nat} {a b c : Value} (hb : W.heap[g]? = some (.cells #[a, b, c] 97 (0, 0))) :
    w4.cell? ⟨k.g, 4, none⟩ = some v ∧ w4.frozen? ⟨k.g, 4, none⟩ = false ∧ w4.cell? ⟨g, 0, none⟩ = some a ∧ w4.cell? ⟨g, 1, none⟩ = some b ∧ w4.cell? ⟨g, 2, none⟩ = some c := by
  have ne : ∀ {i : Nat} {cur : Array Value} {t : TypeId} {x : Nat × Nat}, W.heap[i]? = some (.cells cur t x) → t ≠ 100 → some i ≠ v.ownBlock := fun {i cur t x} hi ht e => by
    obtain ⟨cur', hc⟩ := hWm.row.blk e.symm
    rw [hi] at hc
    cases hc
    exact ht rfl
  have h1 := (hgr.block k.g (hWm.lt (Or.inl rfl)) (ne hWm.blk (by decide))).trans hWm.blk
  have h2 := (hgr.block g (Array.getElem?_eq_some_iff.1 hb).1 (ne hb (by decide))).trans hb
  exact ⟨(cells5 h1).2.2.2.2, (cells_block h1).2 4, cells3 h2⟩

set_option maxHeartbeats 600000 in
set_option maxRecDepth 100000 in
theorem take_whole {B : Nat} {k : Wk} {F : List Wf} {v : Value} {m fr N : Nat} {L : List Fl} (n : Nat) (w : World) (h : Lo B w m L fr N k F v) (he : (lkP (nm k.p n) (Pu L)).isSome = true) (hp : k.p.length ≤ 48) (hF : F.length ≤ 1000000)
    (hlen : (gtP (nm k.p n) (Pu L)).length ≤ 35184372088832) (hg : totS (scn' (gtP (nm k.p n) (Pu L))) = (gtP (nm k.p n) (Pu L)).length) :
    Calls Tryz.prog 77 #[.pointer (some ⟨k.g, 0, none⟩), agA k.p n] w fun e w' => e = .returned (.tuple #[.bool true, .int .i64 0]) ∧ ∃ f v', Lo B w' m L fr N k (F ++ [f]) v' ∧ Ks w w' m L L k F (F ++ [f]) v v' ∧ pw f = (n, scn' (gtP (nm k.p n) (Pu L))) := by
  obtain ⟨i0, hi, hz0, hz1, hz2⟩ := info_parts Tryz.infoPF
  have hnl : (nm k.p n).length ≤ maxLen := by rw [nm_length]; unfold maxLen; omega
  unfold agA
  obtain ⟨s, hs⟩ : ∃ s, s = gtP (nm k.p n) (Pu L) := ⟨_, rfl⟩
  have hrd : ∀ {w' : World}, Dk w' k.d m L fr N → Calls Tryz.prog 33 #[.pointer (some ⟨k.d, 0, none⟩), .string (bstr (nm k.p n))] w' fun e w'' => e = .returned (.tuple #[.string (bstr s), .int .i64 0]) ∧ w'' = w' := fun {w'} hD => by
    rw [hs]; exact Read_P (nm k.p n) w' hD hnl he
  rw [← hs] at hlen hg ⊢
  clear hs he
  go_enter Tryz.func77, Tryz.ntmps77
  go_wp2_with fail
  have hBw : Below w.heap.size w (w.alloc (.cells #[.string (bstr (nm k.p n)), .int .u64 (n : Int), .int .i64 0] 97)) := (Below.refl _ _).alloc (Nat.le_refl _) _
  have hbk : (w.alloc (.cells #[.string (bstr (nm k.p n)), .int .u64 (n : Int), .int .i64 0] 97)).heap[w.heap.size]? = some (.cells #[.string (bstr (nm k.p n)), .int .u64 (n : Int), .int .i64 0] 97 (0, 0)) := heap_alloc_new w _
  generalize w.alloc (.cells #[.string (bstr (nm k.p n)), .int .u64 (n : Int), .int .i64 0] 97) = W at *
  have hW := h.below hBw
  obtain ⟨c0, -, -, c3, c4⟩ := cells5 hW.wm.blk
  obtain ⟨b0, b1, b2⟩ := cells3 hbk
  go_region_held3 (fun w' => w'.cell? ⟨k.g, 0, none⟩ = some (.pointer (some ⟨k.d, 0, none⟩)) ∧ w'.cell? ⟨w.heap.size, 0, none⟩ = some (.string (bstr (nm k.p n)))) (first | with_reducible exact ⟨c0, b0⟩ | go_keep)
    ((go_at_call 33; refine (hrd hW.dk.drew).mono ?_; rintro e w3 ⟨rfl, rfl⟩))
  have hW1 := hW.drew
  have hbk1 : W.drew.heap[w.heap.size]? = some (.cells #[.string (bstr (nm k.p n)), .int .u64 (n : Int), .int .i64 0] 97 (0, 0)) := hbk
  have hBw1 : Below w.heap.size w W.drew := hBw.trans ((below_drewN (Below.refl W.heap.size W) 1).mono hBw.size)
  clear hW hbk hBw c0 c3 c4 b0 b1 b2 hrd
  generalize W.drew = W1 at *
  have hsc := Scan_any s W1 hlen hW1.vw.tabs
  have e1 : scn s.length s = scn' s := rfl
  rw [e1, hg] at hsc
  clear e1
  go_wp2_with fail
  refine hsc.mono ?_
  rintro e w2 ⟨u, rfl, own2, hb2⟩
  obtain ⟨q2, cap2, rfl⟩ := own_slice own2
  have hW2 := hW1.below hb2
  have hbk2 := (hb2.block _ (Array.getElem?_eq_some_iff.1 hbk1).1).trans hbk1
  have b2 := (cells3 hbk2).2.2
  have f2 := (cells_block hbk2).2 2
  have hBw2 : Below w.heap.size w w2 := hBw1.trans (hb2.mono hBw1.size)
  go_wp2_with fail
  have hbk3 := block_set hbk2 2 (.int .i64 (s.length : Int))
  have hbk3 : (w2.setCell ⟨w.heap.size, 2, none⟩ (.int .i64 (s.length : Int))).heap[w.heap.size]? = some (.cells #[.string (bstr (nm k.p n)), .int .u64 (n : Int), .int .i64 (s.length : Int)] 97 (0, 0)) := hbk3
  have hBw3 : Below w.heap.size w (w2.setCell ⟨w.heap.size, 2, none⟩ (.int .i64 (s.length : Int))) := hBw2.setCell (Nat.le_refl _) _
  have hs3 : ∀ i, i ≠ w.heap.size → (w2.setCell ⟨w.heap.size, 2, none⟩ (.int .i64 (s.length : Int))).heap[i]? = w2.heap[i]? := fun i hi => Below.heap_setCell _ _ _ _ (fun e => hi (by rw [e]))
  have own3 : (w2.setCell ⟨w.heap.size, 2, none⟩ (.int .i64 (s.length : Int))).ownsRow W1.heap.size 9 1 (.slice q2 (scn' s).length cap2) (scn' s).length (strCells (scn' s)) := by
    rcases own2.2 with a | ⟨g, c, cur, a1, a2, a3, a4⟩
    · exact ⟨own2.1, Or.inl a⟩
    · exact ⟨own2.1, Or.inr ⟨g, c, cur, a1, a2, (hs3 g (by have := (Array.getElem?_eq_some_iff.1 hbk1).1; omega)).trans a3, a4⟩⟩
  generalize w2.setCell ⟨w.heap.size, 2, none⟩ (.int .i64 (s.length : Int)) = w3 at *
  have hW3 := h.below hBw3
  obtain ⟨-, -, -, -, c4⟩ := cells5 hW3.wm.blk
  obtain ⟨b0, b1, b2⟩ := cells3 hbk3
  have hA1 : Below w3.heap.size w3 (w3.alloc (.cells #[.string (bstr (nm k.p n)), .int .u64 (n : Int), .int .i64 (s.length : Int), .slice q2 (scn' s).length cap2] 99)) := (Below.refl _ _).alloc (Nat.le_refl _) _
  have hA2' : Below w3.heap.size w3 ((w3.alloc (.cells #[.string (bstr (nm k.p n)), .int .u64 (n : Int), .int .i64 (s.length : Int), .slice q2 (scn' s).length cap2] 99)).alloc (.cells #[.pointer (some ⟨w3.heap.size, 0, none⟩)] 100)) := hA1.alloc hA1.size _
  have hA2 : Below w3.heap.size w3 ((w3.alloc (.cells #[.string (bstr (nm k.p n)), .int .u64 (n : Int), .int .i64 (s.length : Int), .slice q2 (scn' s).length cap2] 99)).alloc (.cells #[.pointer (some ⟨w3.heap.size, 0, none⟩)] 100)).drew := below_drewN hA2' 1
  have hAg : ((w3.alloc (.cells #[.string (bstr (nm k.p n)), .int .u64 (n : Int), .int .i64 (s.length : Int), .slice q2 (scn' s).length cap2] 99)).alloc (.cells #[.pointer (some ⟨w3.heap.size, 0, none⟩)] 100)).drew.heap[w3.heap.size]? = some (.cells #[.string (bstr (nm k.p n)), .int .u64 (n : Int), .int .i64 (s.length : Int), .slice q2 (scn' s).length cap2] 99 (0, 0)) := by
    show ((w3.alloc (.cells #[.string (bstr (nm k.p n)), .int .u64 (n : Int), .int .i64 (s.length : Int), .slice q2 (scn' s).length cap2] 99)).alloc (.cells #[.pointer (some ⟨w3.heap.size, 0, none⟩)] 100)).heap[w3.heap.size]? = _
    rw [heap_alloc_old _ _ (by simp)]
    exact heap_alloc_new w3 _
  have hAc : ((w3.alloc (.cells #[.string (bstr (nm k.p n)), .int .u64 (n : Int), .int .i64 (s.length : Int), .slice q2 (scn' s).length cap2] 99)).alloc (.cells #[.pointer (some ⟨w3.heap.size, 0, none⟩)] 100)).drew.cell? ⟨w3.heap.size + 1, 0, none⟩ = some (.pointer (some ⟨w3.heap.size, 0, none⟩)) := by
    simp
  have hWA := hW3.wm.below hA2
  have hRw := hWA.row
  have hbA := (hA2.block _ (Array.getElem?_eq_some_iff.1 hbk3).1).trans hbk3
  have c41 : (w3.alloc (.cells #[.string (bstr (nm k.p n)), .int .u64 (n : Int), .int .i64 (s.length : Int), .slice q2 (scn' s).length cap2] 99)).cell? ⟨k.g, 4, none⟩ = some v := (cells5 (hW3.wm.below hA1).blk).2.2.2.2
  have c42 : ((w3.alloc (.cells #[.string (bstr (nm k.p n)), .int .u64 (n : Int), .int .i64 (s.length : Int), .slice q2 (scn' s).length cap2] 99)).alloc (.cells #[.pointer (some ⟨w3.heap.size, 0, none⟩)] 100)).cell? ⟨k.g, 4, none⟩ = some v := (cells5 (hW3.wm.below hA2').blk).2.2.2.2
  have hBA := hBw3.trans (hA2.mono hBw3.size)
  have hWf : WfAt _ k.p ⟨n, scn' s, w3.heap.size, .slice q2 (scn' s).length cap2⟩ := ⟨by rw [hg]; exact hAg, Rw.of_own (B := W1.heap.size) (by rw [strV_len]; exact own_belowS own3 hA2)⟩
  have hvA : ∀ i, (Value.slice q2 (scn' s).length cap2).ownBlock = some i → w.heap.size ≤ i := fun i hi => Nat.le_trans hBw1.size (own3.lt i hi).1
  go_region_law
    ((refine step_app_rw (by rfl) _ _ 82 (by rfl) 100 i0 (.pointer none) 8 Tryz.underlying82 hi hz0 hz1 hz2 rfl v (ptrV F) (by rfl) hRw (.pointer (some ⟨w3.heap.size, 0, none⟩)) rfl ⟨w3.heap.size + 1, 0, none⟩ 1 (by rfl) hAc (by rw [ptrV_len]; unfold maxLen; omega) (by rw [ptrV_len]; omega) ?_; intro v' w4 hr4 hgr4 hv4; obtain ⟨d4, fz4, d0, d1, d2⟩ := push_facts hWA hgr4 hbA; obtain ⟨q4, cap4, rfl⟩ := hr4.len))
  all_goals
    go_wp2
    go_ret2
    have hfin := h.push (f := ⟨n, scn' s, w3.heap.size, .slice q2 (scn' s).length cap2⟩) hBA hWf hBw3.size hvA hgr4 (by rw [ptrV_snoc]; exact hr4) hv4 rfl
    simp only [List.length_append, List.length_singleton] at hfin
    exact ⟨rfl, _, _, hfin.1, hfin.2, rfl⟩

end Go.Proofs.YtpldfakfgngaaaaGreatDoor

namespace Go.Proofs.YtpldfakfgngaaaaGreatDoor
open Go.RowKit
attribute [local go_sem] size_bstr toList_bstr append_bstr

theorem sp_ok {p : List UInt8} (hp : p.length ≤ 48) : okN (sp p) = true := by
  have : (sp p).length = p.length + 3 := by simp [sp]
  simp only [okN, Bool.and_eq_true, decide_eq_true_eq]
  omega
theorem Wm.bx {w : World} {k : Wk} {F : List Wf} {v : Value} (h : Wm w k F v) : Bx w k.d k.ca k.cb (sp k.p) := ⟨h.ca, h.cb⟩

set_option maxHeartbeats 600000 in
set_option maxRecDepth 100000 in
theorem take_err {B : Nat} {k : Wk} {F : List Wf} {v : Value} {m fr N : Nat} {L : List Fl} (n : Nat) (w : World) (h : Lo B w m L fr N k F v) (he : (lkP (nm k.p n) (Pu L)).isSome = true) (hp : k.p.length ≤ 48)
    (hlen : (gtP (nm k.p n) (Pu L)).length ≤ 35184372088832) (hg : totS (scn' (gtP (nm k.p n) (Pu L))) < (gtP (nm k.p n) (Pu L)).length) (hfit : fr + tot L ≤ 9223372036854775807) (hb : tot L ≤ 35184372088832) (hN : N + 4 < maxLen) (hf : fr + tot L - totP (wtoP (sp k.p) (Pu L)) < ((gtP (nm k.p n) (Pu L)).take (totS (scn' (gtP (nm k.p n) (Pu L))))).length) :
    Calls Tryz.prog 77 #[.pointer (some ⟨k.g, 0, none⟩), agA k.p n] w fun e w' => e = .returned (.tuple #[.bool false, .int .i64 7]) ∧ ∃ L' fr', Lo B w' m L' fr' (N + 4) k F v ∧ Ks w w' m L L' k F F v v ∧ Pu L' = wtoP (sp k.p) (Pu L) ∧ fr' + tot L' = fr + tot L := by
  have hnl : (nm k.p n).length ≤ maxLen := by rw [nm_length]; unfold maxLen; omega
  unfold agA
  obtain ⟨s, hs⟩ : ∃ s, s = gtP (nm k.p n) (Pu L) := ⟨_, rfl⟩
  have hrd : ∀ {w' : World}, Dk w' k.d m L fr N → Calls Tryz.prog 33 #[.pointer (some ⟨k.d, 0, none⟩), .string (bstr (nm k.p n))] w' fun e w'' => e = .returned (.tuple #[.string (bstr s), .int .i64 0]) ∧ w'' = w' := fun {w'} hD => by
    rw [hs]; exact Read_P (nm k.p n) w' hD hnl he
  rw [← hs] at hlen hg hf
  have HX : Hid (fr + tot L - totP (wtoP (sp k.p) (Pu L)) < (s.take (totS (scn' s))).length) := hf
  clear hs he hf
  go_enter Tryz.func77, Tryz.ntmps77
  go_wp2_with fail
  have hBw : Below w.heap.size w (w.alloc (.cells #[.string (bstr (nm k.p n)), .int .u64 (n : Int), .int .i64 0] 97)) := (Below.refl _ _).alloc (Nat.le_refl _) _
  have hbk : (w.alloc (.cells #[.string (bstr (nm k.p n)), .int .u64 (n : Int), .int .i64 0] 97)).heap[w.heap.size]? = some (.cells #[.string (bstr (nm k.p n)), .int .u64 (n : Int), .int .i64 0] 97 (0, 0)) := heap_alloc_new w _
  generalize w.alloc (.cells #[.string (bstr (nm k.p n)), .int .u64 (n : Int), .int .i64 0] 97) = W at *
  have hW := h.below hBw
  obtain ⟨c0, -, -, c3, c4⟩ := cells5 hW.wm.blk
  obtain ⟨b0, b1, b2⟩ := cells3 hbk
  go_region_held3 (fun w' => w'.cell? ⟨k.g, 0, none⟩ = some (.pointer (some ⟨k.d, 0, none⟩)) ∧ w'.cell? ⟨w.heap.size, 0, none⟩ = some (.string (bstr (nm k.p n)))) (first | with_reducible exact ⟨c0, b0⟩ | go_keep)
    ((go_at_call 33; refine (hrd hW.dk.drew).mono ?_; rintro e w3 ⟨rfl, rfl⟩))
  have hW1 := hW.drew
  have hbk1 : W.drew.heap[w.heap.size]? = some (.cells #[.string (bstr (nm k.p n)), .int .u64 (n : Int), .int .i64 0] 97 (0, 0)) := hbk
  have hBw1 : Below w.heap.size w W.drew := hBw.trans ((below_drewN (Below.refl W.heap.size W) 1).mono hBw.size)
  clear hW hbk hBw c0 c3 c4 b0 b1 b2 hrd
  generalize W.drew = W1 at *
  have hsc := Scan_any s W1 hlen hW1.vw.tabs
  have e1 : scn s.length s = scn' s := rfl
  rw [e1] at hsc
  clear e1
  go_wp2_with fail
  refine hsc.mono ?_
  rintro e w2 ⟨u, rfl, own2, hb2⟩
  obtain ⟨q2, cap2, rfl⟩ := own_slice own2
  have hW2 := hW1.below hb2
  have hbk2 := (hb2.block _ (Array.getElem?_eq_some_iff.1 hbk1).1).trans hbk1
  have hBw2 : Below w.heap.size w w2 := hBw1.trans (hb2.mono hBw1.size)
  have hne : ((totS (scn' s) : Int) == (s.length : Int)) = false := by rw [beq_eq_false_iff_ne]; omega
  obtain ⟨b, hbs⟩ : ∃ b, b = s.take (totS (scn' s)) := ⟨_, rfl⟩
  have hbl : b.length ≤ s.length := by rw [hbs, List.length_take]; omega
  have hbt : b.length = totS (scn' s) := by rw [hbs, List.length_take]; omega
  have hhd := fun w : World => run_head (P := Tryz.prog) 9 s (totS (scn' s)) (Nat.le_of_lt hg) w Tryz.underlying9
  rw [← hbs] at hhd
  have hle : (totS (scn' s) : Int) ≤ (s.length : Int) := by omega
  have HB : Hid (b.length = totS (scn' s)) := hbt
  rw [← hbs] at HX
  clear hbt hbs
  go_wp2_with fail
  have c3 : w2.cell? ⟨k.g, 3, none⟩ = some (.func (.func 73) #[] #[.pointer (some ⟨k.ca, 0, none⟩), .pointer (some ⟨k.cb, 0, none⟩)]) := (cells5 hW2.wm.blk).2.2.2.1
  obtain ⟨b0, b1, b2⟩ := cells3 hbk2
  have han := anew_any (sp k.p) (nm k.p n) b w2.drew hW2.dk.drew hW2.wm.drew.bx (sp_ok hp) (nm_ok hp n) hfit (by omega) hN
  have hz : anA (fr + tot L) (sp k.p) (nm k.p n) b (Pu L) = (wtoP (sp k.p) (Pu L), 7) := by unfold anA; rw [if_pos HX.out]
  rw [hz] at han
  clear hz
  go_region_held3 (fun w' => w'.cell? ⟨k.g, 3, none⟩ = some (.func (.func 73) #[] #[.pointer (some ⟨k.ca, 0, none⟩), .pointer (some ⟨k.cb, 0, none⟩)]) ∧ w'.cell? ⟨w.heap.size, 0, none⟩ = some (.string (bstr (nm k.p n)))) (first | with_reducible exact ⟨c3, b0⟩ | with_reducible exact ⟨d3, d0⟩ | go_keep)
    ((go_at_call 73; refine han.mono ?_; rintro e w5 ⟨rfl, L5, fr5, S5, P5, R5, T5⟩; have hW5 := hW2.drew.disk S5; have hbk5 := (S5.kp.block _ (Array.getElem?_eq_some_iff.1 hbk2).1 (hW2.dk.drew.other hbk2 (by decide))).trans hbk2; have d3 : w5.cell? ⟨k.g, 3, none⟩ = some (.func (.func 73) #[] #[.pointer (some ⟨k.ca, 0, none⟩), .pointer (some ⟨k.cb, 0, none⟩)]) := (cells5 hW5.wm.blk).2.2.2.1; have d0 := (cells3 hbk5).1))
  go_wp2
  go_ret2
  have hK : Ks w w5 m L L5 k F F v v := (Ks.of_below L k F v hBw2).trans ((Ks.of_below L k F v (below_drewN (Below.refl _ _) 1)).trans (Ks.of_disk F v S5))
  exact ⟨rfl, L5, fr5, hW5, hK, P5, R5⟩

end Go.Proofs.YtpldfakfgngaaaaGreatDoor

namespace Go.Proofs.YtpldfakfgngaaaaGreatDoor
open Go.RowKit

theorem Lo.push2 {B : Nat} {w W w2 w3 : World} {m fr N : Nat} {L : List Fl} {k : Wk} {F : List Wf} {v v' : Value} {f : Wf} (h : Lo B w m L fr N k F v) (hb : Below w.heap.size w W) (hF : WfAt W k.p f) (hg : ∀ a ∈ F, a.g ≠ f.g) (hgB : B ≤ f.g)
    (hv : ∀ i, f.v.ownBlock = some i → B ≤ i ∧ i ≠ k.cb ∧ ∀ a ∈ F, a.v.ownBlock ≠ some i)
    (hgr : W.grownBy w2 v.ownBlock) (hr : Rw w2 100 v' (ptrV (F ++ [f]))) (hv' : v'.ownBlock = v.ownBlock ∨ v'.ownBlock = some W.heap.size) (h3 : w3 = w2.setCell ⟨k.g, 4, none⟩ v') :
    Lo B w3 m L fr N k (F ++ [f]) v' ∧ Kp w w3 (Fw k F v) ∧ ∀ i, Fw k (F ++ [f]) v' i → Fw k F v i ∨ w.heap.size ≤ i ∨ i = f.g ∨ f.v.ownBlock = some i := by
  have hWm := h.wm.below hb
  have hsz := hb.size
  have hfl : f.g < W.heap.size := (Array.getElem?_eq_some_iff.1 hF.blk).1
  have s2 := hgr.size
  have vne : ∀ {i : Nat} {cur : Array Value} {t : TypeId} {x : Nat × Nat}, W.heap[i]? = some (.cells cur t x) → t ≠ 100 → v.ownBlock ≠ some i := fun {i cur t x} hi ht e => by
    obtain ⟨cur', hc⟩ := hWm.row.blk e
    rw [hi] at hc
    cases hc
    exact ht rfl
  have gne : ∀ {i : Nat} {cur : Array Value} {t : TypeId} {x : Nat × Nat}, W.heap[i]? = some (.cells cur t x) → t ≠ 84 → i ≠ k.g := fun {i cur t x} hi ht e => by
    rw [e, hWm.blk] at hi
    cases hi
    exact ht rfl
  have hgk : w2.heap[k.g]? = W.heap[k.g]? := hgr.block k.g (hWm.lt (Or.inl rfl)) (fun e => vne hWm.blk (by decide) e.symm)
  have hset : ∀ i, i ≠ k.g → w3.heap[i]? = w2.heap[i]? := fun i hi => by rw [h3]; exact Below.heap_setCell _ _ _ _ (fun e => hi (by rw [e]))
  have hkg : w3.heap[k.g]? = some (.cells #[.pointer (some ⟨k.d, 0, none⟩), .string (bstr k.p), .int .i64 k.most, k.fn, v'] 84 (0, 0)) := by
    rw [h3]
    exact block_set (hgk.trans hWm.blk) 4 v'
  have hkeep : ∀ i, i < W.heap.size → i ≠ k.g → v.ownBlock ≠ some i → w3.heap[i]? = W.heap[i]? := fun i hi h1 h2 => (hset i h1).trans (hgr.block i hi (fun e => h2 e.symm))
  have hrow : Rw w3 100 v' (ptrV (F ++ [f])) := hr.kept fun i hi => hset i (fun e => by
    obtain ⟨cur, hc⟩ := hr.blk hi
    rw [e, hgk, hWm.blk] at hc
    cases hc)
  have hF3 : WfAt w3 k.p f := hF.kept (hkeep _ hfl (gne hF.blk (by decide)) (vne hF.blk (by decide))) (fun i hi => by
    obtain ⟨cur, hc⟩ := hF.row.blk hi
    exact hkeep i (hF.row.lt hi) (gne hc (by decide)) (vne hc (by decide)))
  have hw : Wm w3 k (F ++ [f]) v' := h.wm.add (fun i hi h1 h2 => (hkeep i (Nat.lt_of_lt_of_le (h.wm.lt hi) hsz) h1 h2).trans (hb.block i (h.wm.lt hi))) hkg hrow hF3 hg
    (fun a ha => by
      cases e : a.v.ownBlock with
      | none => exact Or.inl rfl
      | some i =>
        refine Or.inr (fun e2 => ?_)
        exact (hv i e2.symm).2.2 a ha e)
    (fun e => (hv _ e).2.1 rfl)
  have hK : Kp w w3 (Fw k F v) := by
    refine ⟨?_, ?_, ?_, ?_, fun i hi hn => ?_⟩
    · rw [h3]; exact hgr.os.trans hb.os
    · rw [h3]; exact hgr.tape.trans hb.tape
    · rw [h3]; exact hgr.output.trans hb.output
    · rw [h3]
      simp only [World.setCell, Array.size_modify]
      omega
    · rw [hkeep i (by omega) (fun e => hn (Or.inl e)) (fun e => hn (Or.inr (Or.inr (Or.inr (Or.inl e))))), hb.block i hi]
  have hmem : ∀ i, Fw k (F ++ [f]) v' i → Fw k F v i ∨ w.heap.size ≤ i ∨ i = f.g ∨ f.v.ownBlock = some i := by
    intro i hi
    rcases hi with e | e | e | e | ⟨a, ha, e⟩
    · exact Or.inl (Or.inl e)
    · exact Or.inl (Or.inr (Or.inl e))
    · exact Or.inl (Or.inr (Or.inr (Or.inl e)))
    · rcases hv' with h1 | h1
      · rw [h1] at e
        exact Or.inl (Or.inr (Or.inr (Or.inr (Or.inl e))))
      · rw [h1] at e
        cases e
        exact Or.inr (Or.inl hsz)
    · rcases List.mem_append.1 ha with ha | ha
      · exact Or.inl (Or.inr (Or.inr (Or.inr (Or.inr ⟨a, ha, e⟩))))
      · rw [List.mem_singleton] at ha
        subst ha
        exact Or.inr (Or.inr e)
  refine ⟨⟨h.dk.log h.wm hK, hw, h.geD, fun i hi => ?_, h.vw.below (hK.below h.vw.le h.geW)⟩, hK, hmem⟩
  rcases hmem i hi with a | a | a | a
  · exact h.geW i a
  · exact Nat.le_trans h.vw.le a
  · rw [a]; exact hgB
  · exact (hv i a).1
/-- A log is as it was where neither its blocks nor its disk's were touched. -/
theorem Lo.kept {B : Nat} {w w' : World} {m fr N : Nat} {L : List Fl} {k : Wk} {F : List Wf} {v : Value} (h : Lo B w m L fr N k F v) (hD : ∀ i, Ft k.d m L i → w'.heap[i]? = w.heap[i]?) (hW : ∀ i, Fw k F v i → w'.heap[i]? = w.heap[i]?) (hb : Below B w w') : Lo B w' m L fr N k F v :=
  ⟨h.dk.kept hD, h.wm.kept hW, h.geD, h.geW, h.vw.below hb⟩

end Go.Proofs.YtpldfakfgngaaaaGreatDoor

namespace Go.Proofs.YtpldfakfgngaaaaGreatDoor
open Go.RowKit
attribute [local go_sem] size_bstr toList_bstr append_bstr

set_option maxHeartbeats 600000 in
set_option maxRecDepth 100000 in
theorem take_cut {B : Nat} {k : Wk} {F : List Wf} {v : Value} {m fr N : Nat} {L : List Fl} (n : Nat) (w : World) (h : Lo B w m L fr N k F v) (he : (lkP (nm k.p n) (Pu L)).isSome = true) (hp : k.p.length ≤ 48)
    (hlen : (gtP (nm k.p n) (Pu L)).length ≤ 35184372088832) (hg : totS (scn' (gtP (nm k.p n) (Pu L))) < (gtP (nm k.p n) (Pu L)).length) (hfit : fr + tot L ≤ 9223372036854775807) (hb : tot L ≤ 35184372088832) (hN : N + 4 < maxLen) (hF : F.length ≤ 1000000) (hf : ¬ fr + tot L - totP (wtoP (sp k.p) (Pu L)) < ((gtP (nm k.p n) (Pu L)).take (totS (scn' (gtP (nm k.p n) (Pu L))))).length) :
    Calls Tryz.prog 77 #[.pointer (some ⟨k.g, 0, none⟩), agA k.p n] w fun e w' => e = .returned (.tuple #[.bool false, .int .i64 0]) ∧ ∃ L' fr' f v', Lo B w' m L' fr' (N + 4) k (F ++ [f]) v' ∧ Ks w w' m L L' k F (F ++ [f]) v v' ∧ pw f = (n, scn' (gtP (nm k.p n) (Pu L))) ∧ Pu L' = wthP (nm k.p n, ((gtP (nm k.p n) (Pu L)).take (totS (scn' (gtP (nm k.p n) (Pu L))))), ((gtP (nm k.p n) (Pu L)).take (totS (scn' (gtP (nm k.p n) (Pu L))))).length) (wtoP (sp k.p) (Pu L)) ∧ fr' + tot L' = fr + tot L := by
  obtain ⟨i0, hi, hz0, hz1, hz2⟩ := info_parts Tryz.infoPF
  have hnl : (nm k.p n).length ≤ maxLen := by rw [nm_length]; unfold maxLen; omega
  unfold agA
  obtain ⟨s, hs⟩ : ∃ s, s = gtP (nm k.p n) (Pu L) := ⟨_, rfl⟩
  have hrd : ∀ {w' : World}, Dk w' k.d m L fr N → Calls Tryz.prog 33 #[.pointer (some ⟨k.d, 0, none⟩), .string (bstr (nm k.p n))] w' fun e w'' => e = .returned (.tuple #[.string (bstr s), .int .i64 0]) ∧ w'' = w' := fun {w'} hD => by
    rw [hs]; exact Read_P (nm k.p n) w' hD hnl he
  rw [← hs] at hlen hg hf ⊢
  have HX : Hid (¬ fr + tot L - totP (wtoP (sp k.p) (Pu L)) < (s.take (totS (scn' s))).length) := hf
  obtain ⟨b, hbs⟩ : ∃ b, b = s.take (totS (scn' s)) := ⟨_, rfl⟩
  rw [← hbs]
  have HBS : Hid (b = s.take (totS (scn' s))) := hbs
  clear hs he hf hbs
  go_enter Tryz.func77, Tryz.ntmps77
  go_wp2_with fail
  have hBw : Below w.heap.size w (w.alloc (.cells #[.string (bstr (nm k.p n)), .int .u64 (n : Int), .int .i64 0] 97)) := (Below.refl _ _).alloc (Nat.le_refl _) _
  have hbk : (w.alloc (.cells #[.string (bstr (nm k.p n)), .int .u64 (n : Int), .int .i64 0] 97)).heap[w.heap.size]? = some (.cells #[.string (bstr (nm k.p n)), .int .u64 (n : Int), .int .i64 0] 97 (0, 0)) := heap_alloc_new w _
  generalize w.alloc (.cells #[.string (bstr (nm k.p n)), .int .u64 (n : Int), .int .i64 0] 97) = W at *
  have hW := h.below hBw
  obtain ⟨c0, -, -, c3, c4⟩ := cells5 hW.wm.blk
  obtain ⟨b0, b1, b2⟩ := cells3 hbk
  go_region_held3 (fun w' => w'.cell? ⟨k.g, 0, none⟩ = some (.pointer (some ⟨k.d, 0, none⟩)) ∧ w'.cell? ⟨w.heap.size, 0, none⟩ = some (.string (bstr (nm k.p n)))) (first | with_reducible exact ⟨c0, b0⟩ | go_keep)
    ((go_at_call 33; refine (hrd hW.dk.drew).mono ?_; rintro e w3 ⟨rfl, rfl⟩))
  have hW1 := hW.drew
  have hbk1 : W.drew.heap[w.heap.size]? = some (.cells #[.string (bstr (nm k.p n)), .int .u64 (n : Int), .int .i64 0] 97 (0, 0)) := hbk
  have hBw1 : Below w.heap.size w W.drew := hBw.trans ((below_drewN (Below.refl W.heap.size W) 1).mono hBw.size)
  clear hW hbk hBw c0 c3 c4 b0 b1 b2 hrd
  generalize W.drew = W1 at *
  have hsc := Scan_any s W1 hlen hW1.vw.tabs
  have e1 : scn s.length s = scn' s := rfl
  rw [e1] at hsc
  clear e1
  go_wp2_with fail
  refine hsc.mono ?_
  rintro e w2 ⟨u, rfl, own2, hb2⟩
  obtain ⟨q2, cap2, rfl⟩ := own_slice own2
  have hW2 := hW1.below hb2
  have hbk2 := (hb2.block _ (Array.getElem?_eq_some_iff.1 hbk1).1).trans hbk1
  have hBw2 : Below w.heap.size w w2 := hBw1.trans (hb2.mono hBw1.size)
  have hne : ((totS (scn' s) : Int) == (s.length : Int)) = false := by rw [beq_eq_false_iff_ne]; omega
  have hbs := HBS.out
  clear HBS
  have hbl : b.length ≤ s.length := by rw [hbs, List.length_take]; omega
  have hbt : b.length = totS (scn' s) := by rw [hbs, List.length_take]; omega
  have hhd := fun w : World => run_head (P := Tryz.prog) 9 s (totS (scn' s)) (Nat.le_of_lt hg) w Tryz.underlying9
  rw [← hbs] at hhd
  have hle : (totS (scn' s) : Int) ≤ (s.length : Int) := by omega
  have HB : Hid (b.length = totS (scn' s)) := hbt
  rw [← hbs] at HX
  clear hbt hbs
  go_wp2_with fail
  have c3 : w2.cell? ⟨k.g, 3, none⟩ = some (.func (.func 73) #[] #[.pointer (some ⟨k.ca, 0, none⟩), .pointer (some ⟨k.cb, 0, none⟩)]) := (cells5 hW2.wm.blk).2.2.2.1
  obtain ⟨b0, b1, b2⟩ := cells3 hbk2
  have han := anew_any (sp k.p) (nm k.p n) b w2.drew hW2.dk.drew hW2.wm.drew.bx (sp_ok hp) (nm_ok hp n) hfit (by omega) hN
  have hz : anA (fr + tot L) (sp k.p) (nm k.p n) b (Pu L) = (wthP (nm k.p n, b, b.length) (wtoP (sp k.p) (Pu L)), 0) := by unfold anA; rw [if_neg HX.out]
  rw [hz] at han
  clear hz
  go_region_held3 (fun w' => w'.cell? ⟨k.g, 3, none⟩ = some (.func (.func 73) #[] #[.pointer (some ⟨k.ca, 0, none⟩), .pointer (some ⟨k.cb, 0, none⟩)]) ∧ w'.cell? ⟨w.heap.size, 0, none⟩ = some (.string (bstr (nm k.p n)))) (first | with_reducible exact ⟨c3, b0⟩ | with_reducible exact ⟨d3, d0⟩ | go_keep)
    ((go_at_call 73; refine han.mono ?_; rintro e w5 ⟨rfl, L5, fr5, S5, P5, R5, T5⟩; have hW5 := hW2.drew.disk S5; have hbk5 := (S5.kp.block _ (Array.getElem?_eq_some_iff.1 hbk2).1 (hW2.dk.drew.other hbk2 (by decide))).trans hbk2; have d3 : w5.cell? ⟨k.g, 3, none⟩ = some (.func (.func 73) #[] #[.pointer (some ⟨k.ca, 0, none⟩), .pointer (some ⟨k.cb, 0, none⟩)]) := (cells5 hW5.wm.blk).2.2.2.1; have d0 := (cells3 hbk5).1))
  have hK5 : Ks w w5 m L L5 k F F v v := (Ks.of_below L k F v hBw2).trans ((Ks.of_below L k F v (below_drewN (Below.refl _ _) 1)).trans (Ks.of_disk F v S5))
  have own5 := own_kept hW2.dk.drew S5.kp own2 (by decide)
  have b52 := (cells3 hbk5).2.2
  have f52 := (cells_block hbk5).2 2
  have hs5 : w2.heap.size ≤ w5.heap.size := S5.kp.size
  have hwsz : w.heap.size < w2.heap.size := (Array.getElem?_eq_some_iff.1 hbk2).1
  have hlt2 : ∀ i, (Value.slice q2 (scn' s).length cap2).ownBlock = some i → W1.heap.size ≤ i := fun i hi => (own2.lt i hi).1
  have hwW : w.heap.size < W1.heap.size := (Array.getElem?_eq_some_iff.1 hbk1).1
  clear d0 d3 c3 b0 b1 b2 han hW2 own2 hbk2 hb2 hhd
  go_wp2_with fail
  have hbk3 : (w5.setCell ⟨w.heap.size, 2, none⟩ (.int .i64 (totS (scn' s) : Int))).heap[w.heap.size]? = some (.cells #[.string (bstr (nm k.p n)), .int .u64 (n : Int), .int .i64 (totS (scn' s) : Int)] 97 (0, 0)) := block_set hbk5 2 (.int .i64 (totS (scn' s) : Int))
  have hs3 : ∀ i, i ≠ w.heap.size → (w5.setCell ⟨w.heap.size, 2, none⟩ (.int .i64 (totS (scn' s) : Int))).heap[i]? = w5.heap[i]? := fun i hi => Below.heap_setCell _ _ _ _ (fun e => hi (by rw [e]))
  have hFt : ¬ Ft k.d m L5 w.heap.size := hW5.dk.other hbk5 (by decide)
  have hFw : ¬ Fw k F v w.heap.size := fun hi => by have := h.wm.lt hi; omega
  have hB5 : Below B w5 (w5.setCell ⟨w.heap.size, 2, none⟩ (.int .i64 (totS (scn' s) : Int))) := (Below.refl _ _).setCell h.vw.le _
  have hW3 : Lo B (w5.setCell ⟨w.heap.size, 2, none⟩ (.int .i64 (totS (scn' s) : Int))) m L5 fr5 (N + 4) k F v := hW5.kept (fun i hi => hs3 i (fun e => hFt (e ▸ hi))) (fun i hi => hs3 i (fun e => hFw (e ▸ hi))) hB5
  have hK3 : Ks w (w5.setCell ⟨w.heap.size, 2, none⟩ (.int .i64 (totS (scn' s) : Int))) m L L5 k F F v v := ⟨⟨hK5.kp.os, hK5.kp.tape, hK5.kp.output, by simp only [World.setCell, Array.size_modify]; exact hK5.kp.size, fun i hi hn => (hs3 i (by omega)).trans (hK5.kp.block i hi hn)⟩, hK5.ft, hK5.fw⟩
  have own3 : (w5.setCell ⟨w.heap.size, 2, none⟩ (.int .i64 (totS (scn' s) : Int))).ownsRow W1.heap.size 9 1 (.slice q2 (scn' s).length cap2) (scn' s).length (strCells (scn' s)) := by
    rcases own5.2 with a | ⟨g, c, cur, a1, a2, a3, a4⟩
    · exact ⟨own5.1, Or.inl a⟩
    · exact ⟨own5.1, Or.inr ⟨g, c, cur, a1, a2, (hs3 g (by omega)).trans a3, a4⟩⟩
  have hsz3 : w5.heap.size ≤ (w5.setCell ⟨w.heap.size, 2, none⟩ (.int .i64 (totS (scn' s) : Int))).heap.size := by simp only [World.setCell, Array.size_modify]; exact Nat.le_refl _
  generalize w5.setCell ⟨w.heap.size, 2, none⟩ (.int .i64 (totS (scn' s) : Int)) = w3 at *
  obtain ⟨-, -, -, -, c4⟩ := cells5 hW3.wm.blk
  obtain ⟨b0, b1, b2⟩ := cells3 hbk3
  clear b52 f52
  have hA1 : Below w3.heap.size w3 (w3.alloc (.cells #[.string (bstr (nm k.p n)), .int .u64 (n : Int), .int .i64 (totS (scn' s) : Int), .slice q2 (scn' s).length cap2] 99)) := (Below.refl _ _).alloc (Nat.le_refl _) _
  have hA2' : Below w3.heap.size w3 ((w3.alloc (.cells #[.string (bstr (nm k.p n)), .int .u64 (n : Int), .int .i64 (totS (scn' s) : Int), .slice q2 (scn' s).length cap2] 99)).alloc (.cells #[.pointer (some ⟨w3.heap.size, 0, none⟩)] 100)) := hA1.alloc hA1.size _
  have hA2 : Below w3.heap.size w3 ((w3.alloc (.cells #[.string (bstr (nm k.p n)), .int .u64 (n : Int), .int .i64 (totS (scn' s) : Int), .slice q2 (scn' s).length cap2] 99)).alloc (.cells #[.pointer (some ⟨w3.heap.size, 0, none⟩)] 100)).drew := below_drewN hA2' 1
  have hAg : ((w3.alloc (.cells #[.string (bstr (nm k.p n)), .int .u64 (n : Int), .int .i64 (totS (scn' s) : Int), .slice q2 (scn' s).length cap2] 99)).alloc (.cells #[.pointer (some ⟨w3.heap.size, 0, none⟩)] 100)).drew.heap[w3.heap.size]? = some (.cells #[.string (bstr (nm k.p n)), .int .u64 (n : Int), .int .i64 (totS (scn' s) : Int), .slice q2 (scn' s).length cap2] 99 (0, 0)) := by
    show ((w3.alloc (.cells #[.string (bstr (nm k.p n)), .int .u64 (n : Int), .int .i64 (totS (scn' s) : Int), .slice q2 (scn' s).length cap2] 99)).alloc (.cells #[.pointer (some ⟨w3.heap.size, 0, none⟩)] 100)).heap[w3.heap.size]? = _
    rw [heap_alloc_old _ _ (by simp)]
    exact heap_alloc_new w3 _
  have hAc : ((w3.alloc (.cells #[.string (bstr (nm k.p n)), .int .u64 (n : Int), .int .i64 (totS (scn' s) : Int), .slice q2 (scn' s).length cap2] 99)).alloc (.cells #[.pointer (some ⟨w3.heap.size, 0, none⟩)] 100)).drew.cell? ⟨w3.heap.size + 1, 0, none⟩ = some (.pointer (some ⟨w3.heap.size, 0, none⟩)) := by
    simp
  have hWA := hW3.wm.below hA2
  have hRw := hWA.row
  have hbA := (hA2.block _ (Array.getElem?_eq_some_iff.1 hbk3).1).trans hbk3
  have c41 : (w3.alloc (.cells #[.string (bstr (nm k.p n)), .int .u64 (n : Int), .int .i64 (totS (scn' s) : Int), .slice q2 (scn' s).length cap2] 99)).cell? ⟨k.g, 4, none⟩ = some v := (cells5 (hW3.wm.below hA1).blk).2.2.2.2
  have c42 : ((w3.alloc (.cells #[.string (bstr (nm k.p n)), .int .u64 (n : Int), .int .i64 (totS (scn' s) : Int), .slice q2 (scn' s).length cap2] 99)).alloc (.cells #[.pointer (some ⟨w3.heap.size, 0, none⟩)] 100)).cell? ⟨k.g, 4, none⟩ = some v := (cells5 (hW3.wm.below hA2').blk).2.2.2.2
  have hWf : WfAt _ k.p ⟨n, scn' s, w3.heap.size, .slice q2 (scn' s).length cap2⟩ := ⟨hAg, Rw.of_own (B := W1.heap.size) (by rw [strV_len]; exact own_belowS own3 hA2)⟩
  have hvA : ∀ i, (Value.slice q2 (scn' s).length cap2).ownBlock = some i → B ≤ i ∧ i ≠ k.cb ∧ ∀ a ∈ F, a.v.ownBlock ≠ some i := fun i hi => by
    have h1 := hlt2 i hi
    have h2 := h.vw.le
    refine ⟨by omega, fun e => ?_, fun a ha e => ?_⟩
    · have := h.wm.lt (Or.inr (Or.inr (Or.inl rfl)) : Fw k F v k.cb)
      omega
    · have := h.wm.lt (Or.inr (Or.inr (Or.inr (Or.inr ⟨a, ha, Or.inr e⟩))))
      omega
  have hgA : ∀ a ∈ F, a.g ≠ w3.heap.size := fun a ha e => by
    have := h.wm.lt (Or.inr (Or.inr (Or.inr (Or.inr ⟨a, ha, Or.inl rfl⟩))))
    omega
  go_region_law
    ((refine step_app_rw (by rfl) _ _ 82 (by rfl) 100 i0 (.pointer none) 8 Tryz.underlying82 hi hz0 hz1 hz2 rfl v (ptrV F) (by rfl) hRw (.pointer (some ⟨w3.heap.size, 0, none⟩)) rfl ⟨w3.heap.size + 1, 0, none⟩ 1 (by rfl) hAc (by rw [ptrV_len]; unfold maxLen; omega) (by rw [ptrV_len]; omega) ?_; intro v' w4 hr4 hgr4 hv4; obtain ⟨d4, fz4, d0, d1, d2⟩ := push_facts hWA hgr4 hbA; obtain ⟨q4, cap4, rfl⟩ := hr4.len))
  all_goals
    go_wp2
    go_ret2
    have hfin := hW3.push2 (f := ⟨n, scn' s, w3.heap.size, .slice q2 (scn' s).length cap2⟩) hA2 hWf hgA (by have := h.vw.le; show B ≤ w3.heap.size; omega) hvA hgr4 (by rw [ptrV_snoc]; exact hr4) hv4 rfl
    simp only [List.length_append, List.length_singleton] at hfin
    obtain ⟨k1, k2, k3⟩ := hfin
    have hKn : Ks w3 _ m L5 L5 k F F v v := ⟨k2.mono fun _ h => Or.inl (Or.inr h), fun _ h => Or.inl h, fun _ h => Or.inl h⟩
    have hKt := hK3.trans hKn
    refine ⟨rfl, _, _, _, _, k1, ⟨hKt.kp, hKt.ft, fun i hi => ?_⟩, rfl, P5, R5⟩
    rcases k3 i hi with e | e | e | e
    · exact Or.inl e
    · exact Or.inr (by omega)
    · exact Or.inr (by rw [e]; show w.heap.size ≤ w3.heap.size; omega)
    · exact Or.inr (by have := hlt2 i e; omega)

end Go.Proofs.YtpldfakfgngaaaaGreatDoor

