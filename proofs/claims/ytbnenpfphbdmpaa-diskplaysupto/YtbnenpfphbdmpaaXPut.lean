/-
  The contracts of disk.Remove and disk.Append.
-/
import Derived.Test.YtbnenpfphbdmpaaXApp
namespace Go.Proofs.Ytbnenpfphbdmpaa
open Go.RowKit

set_option maxHeartbeats 1000000 in
theorem Remove_any {d m fr N : Nat} {L : List Fl} (s : List UInt8) (w : World) (h : Dk w d m L fr N) (hl : s.length ≤ maxLen) (hfit : fr + tot L ≤ 9223372036854775807) :
    Calls Try.prog 25 #[.pointer (some ⟨d, 0, none⟩), .string (bstr s)] w fun e w' => e = .returned (.int .i64 (fc (lk s L))) ∧ Stp w w' d m L (wto s L) (fr + (by_ (lk s L)).length) N := by
  have hf := find_any s w h hl
  have hd := drop_any s w h hl hfit
  cases e : lk s L with
  | none =>
    have e2 := wto_none e
    rw [e] at hf
    rw [e2]
    simp only [pv, fc, by_] at hf ⊢
    go_enter Try.func25, Try.ntmps25
    go_wp2_with fail
    refine hf.mono ?_
    rintro e w1 ⟨rfl, rfl⟩
    go_wp2
    go_ret
    exact ⟨rfl, Stp.refl h⟩
  | some f =>
    rw [e] at hf hd
    simp only [pv, fc, by_] at hf hd ⊢
    generalize f.g = g at *
    generalize f.bytes.length = n at *
    go_enter Try.func25, Try.ntmps25
    go_wp2_with fail
    refine hf.mono ?_
    rintro e w1 ⟨rfl, rfl⟩
    go_wp2_with fail
    refine hd.mono ?_
    rintro e w1 ⟨rfl, hS⟩
    go_wp2
    go_ret
    exact ⟨rfl, hS⟩

set_option maxHeartbeats 1000000 in
theorem Remove_nil (s : List UInt8) (w : World) :
    Calls Try.prog 25 #[.pointer none, .string (bstr s)] w fun e w' => e = .returned (.int .i64 1) ∧ w' = w := by
  go_enter Try.func25, Try.ntmps25
  go_wp2_with fail
  refine (find_nil s _).mono ?_
  rintro e w1 ⟨rfl, rfl⟩
  go_wp2
  go_ret
  exact ⟨rfl, rfl⟩

set_option maxHeartbeats 1000000 in
theorem Append_nil (s t : List UInt8) (w : World) :
    Calls Try.prog 20 #[.pointer none, .string (bstr s), .string (bstr t)] w fun e w' => e = .returned (.int .i64 1) ∧ w' = w := by
  go_enter Try.func20, Try.ntmps20
  go_wp2_with fail
  refine (none_nil _).mono ?_
  rintro e w1 ⟨rfl, rfl⟩
  go_wp2
  go_ret
  exact ⟨rfl, rfl⟩

set_option maxHeartbeats 1000000 in
theorem Append_zero (d : Nat) (s t : List UInt8) (w : World) (c1 : w.cell? ⟨d, 1, none⟩ = some (.map none)) :
    Calls Try.prog 20 #[.pointer (some ⟨d, 0, none⟩), .string (bstr s), .string (bstr t)] w fun e w' => e = .returned (.int .i64 1) ∧ w' = w := by
  go_enter Try.func20, Try.ntmps20
  go_wp2_with fail
  refine (none_zero d _ c1).mono ?_
  rintro e w1 ⟨rfl, rfl⟩
  go_wp2
  go_ret
  exact ⟨rfl, rfl⟩

set_option maxHeartbeats 1000000 in
theorem Append_arg {d m fr N : Nat} {L : List Fl} (s t : List UInt8) (w : World) (h : Dk w d m L fr N) (hs : okN s = false) :
    Calls Try.prog 20 #[.pointer (some ⟨d, 0, none⟩), .string (bstr s), .string (bstr t)] w fun e w' => e = .returned (.int .i64 2) ∧ w' = w := by
  have hn := none_any w h
  have hi := isName_any s w
  rw [hs] at hi
  clear h
  go_enter Try.func20, Try.ntmps20
  go_wp2_with fail
  refine hn.mono ?_
  rintro e w1 ⟨rfl, rfl⟩
  go_wp2_with fail
  refine hi.mono ?_
  rintro e w1 ⟨rfl, rfl⟩
  go_wp2
  go_ret
  exact ⟨rfl, rfl⟩

set_option maxHeartbeats 1000000 in
theorem Append_full {d m fr N : Nat} {L : List Fl} (s t : List UInt8) (w : World) (h : Dk w d m L fr N) (hs : okN s = true) (ht : fr < t.length) :
    Calls Try.prog 20 #[.pointer (some ⟨d, 0, none⟩), .string (bstr s), .string (bstr t)] w fun e w' => e = .returned (.int .i64 7) ∧ w' = w := by
  have hn := none_any w h
  have hi := isName_any s w
  rw [hs] at hi
  have d0 : w.cell? ⟨d, 0, none⟩ = some (.int .i64 (fr : Int)) := (cells_block h.blk).1 0
  have e1 : (bstr t).size = t.length := size_bstr t
  have hg : (fr : Int) < (t.length : Int) := by omega
  clear h
  go_enter Try.func20, Try.ntmps20
  go_wp2_with fail
  refine hn.mono ?_
  rintro e w1 ⟨rfl, rfl⟩
  go_wp2_with fail
  refine hi.mono ?_
  rintro e w1 ⟨rfl, rfl⟩
  go_wp2
  go_ret
  exact ⟨rfl, rfl⟩

/-- Bytes are put behind a file's, and so many fewer are free. -/
theorem Dk.behind {w w1 : World} {d m fr N : Nat} {L : List Fl} (h : Dk w d m L fr N) {f : Fl} (e : lk f.name L = some f) {t : List UInt8} (ht : t.length ≤ fr) {v' : Value}
    (own1 : w1.ownsRow 0 5 1 v' (f.bytes ++ t).length (Lib.byteCells (f.bytes ++ t))) (grow1 : w.grownBy w1 f.v.ownBlock) (loc1 : v'.ownBlock = none ∨ v'.ownBlock = f.v.ownBlock ∨ ∃ k, v'.ownBlock = some k ∧ w.heap.size ≤ k) :
    Stp w ((w1.setCell ⟨f.g, 0, none⟩ v').setCell ⟨d, 0, none⟩ (.int .i64 ((fr : Int) - (t.length : Int)))) d m L (wth { f with bytes := f.bytes ++ t, v := v' } L) (fr - t.length) N := by
  obtain ⟨hm, _⟩ := lk_some e
  have hF := h.fl f hm
  obtain ⟨n1, n2, n3⟩ := h.ne_file hm
  have hdw : d < w.heap.size := h.lt (Or.inl rfl)
  have hgw : f.g < w.heap.size := h.lt (Or.inr (Or.inr ⟨f, hm, Or.inl rfl⟩))
  have b1 : w1.heap[f.g]? = some (.cells #[f.v, .int .i64 f.syn] 76 (0, 0)) := (grow1.block f.g hgw (fun e => n3 f hm e.symm)).trans hF.blk
  have b2 : w1.heap[d]? = some (.cells #[.int .i64 (fr : Int), .map (some m)] 61 (0, 0)) := (grow1.block d hdw (fun e => (h.ne_row hm).1 e.symm)).trans h.blk
  have hcast : ((fr - t.length : Nat) : Int) = (fr : Int) - (t.length : Int) := by omega
  have k2 : ∀ i, i ≠ f.g → i ≠ d → ((w1.setCell ⟨f.g, 0, none⟩ v').setCell ⟨d, 0, none⟩ (.int .i64 ((fr : Int) - (t.length : Int)))).heap[i]? = w1.heap[i]? := fun i h1 h2 => by
    rw [Below.heap_setCell _ _ _ _ h2, Below.heap_setCell _ _ _ _ h1]
  have hv'g : v'.ownBlock ≠ some f.g := by
    rcases loc1 with a | a | ⟨k, a, b⟩
    · rw [a]; simp
    · rw [a]; exact n3 f hm
    · rw [a]; intro e; cases e; omega
  have hv'd : v'.ownBlock ≠ some d := by
    rcases loc1 with a | a | ⟨k, a, b⟩
    · rw [a]; simp
    · rw [a]; exact (h.ne_row hm).1
    · rw [a]; intro e; cases e; omega
  refine ⟨h.write (f' := { f with bytes := f.bytes ++ t, v := v' }) e rfl rfl ⟨?_, ?_, ?_, hF.nm⟩ loc1 (fun i hi h1 h2 h3 => (k2 i h1 h3).trans (grow1.block i hi (fun e => h2 e.symm))) ?_, ?_, fun i hi => Ft.write (f' := { f with bytes := f.bytes ++ t, v := v' }) h.srt e rfl loc1 hi⟩
  · show ((w1.setCell ⟨f.g, 0, none⟩ v').setCell ⟨d, 0, none⟩ _).heap[f.g]? = _
    rw [Below.heap_setCell _ _ _ _ n1, block_set b1 0]; rfl
  · exact (own1.kept (grown_setCell w1 f.g 0 v') (Or.inr hv'g)).kept (grown_setCell _ d 0 _) (Or.inr hv'd)
  · have := hF.syn
    simp only [List.length_append]; omega
  · rw [hcast]
    have b3 : (w1.setCell ⟨f.g, 0, none⟩ v').heap[d]? = some (.cells #[.int .i64 (fr : Int), .map (some m)] 61 (0, 0)) := (Below.heap_setCell _ _ _ _ (fun e => n1 e.symm)).trans b2
    rw [block_set b3 0]; rfl
  · exact ((Kp.of_grown' (S := Ft d m L) grow1 (fun k hk => Or.inr (Or.inr ⟨f, hm, Or.inr hk⟩))).trans (Kp.of_grown (S := Ft d m L) (grown_setCell w1 f.g 0 v') (Or.inr (Or.inr ⟨f, hm, Or.inl rfl⟩))) (fun _ h => Or.inl h)).trans (Kp.of_grown (S := Ft d m L) (grown_setCell _ d 0 _) (Or.inl rfl)) (fun _ h => Or.inl h)

theorem Try.infoU8 : (Try.prog.info? 5).map (fun i => (i.zero, i.size, i.bytes)) = some (some (.int .u8 0), 1, 1) := by kernel_rfl

set_option maxHeartbeats 2000000 in
set_option maxRecDepth 100000 in
theorem Append_old {d m fr N : Nat} {L : List Fl} (t : List UInt8) (w : World) (h : Dk w d m L fr N) {f : Fl} (e : lk f.name L = some f) (ht : t.length ≤ fr) (hb : f.bytes.length + t.length ≤ 140737488355328) (hfr : fr ≤ 9223372036854775807) :
    Calls Try.prog 20 #[.pointer (some ⟨d, 0, none⟩), .string (bstr f.name), .string (bstr t)] w fun e w' => e = .returned (.int .i64 0) ∧ ∃ v', Stp w w' d m L (wth { f with bytes := f.bytes ++ t, v := v' } L) (fr - t.length) N := by
  obtain ⟨hm, _⟩ := lk_some e
  have hF := h.fl f hm
  have hs : okN f.name = true := by
    unfold okN
    have := hF.nm
    simp [this.1, this.2]
  have hn := none_any w h
  have hi := isName_any f.name w
  rw [hs] at hi
  have hlk := h.look (s := f.name) (by have := hF.nm.2; unfold maxLen; omega)
  rw [e] at hlk
  simp only [pv] at hlk
  have d0 : w.cell? ⟨d, 0, none⟩ = some (.int .i64 (fr : Int)) := (cells_block h.blk).1 0
  have d1 : w.cell? ⟨d, 1, none⟩ = some (.map (some m)) := (cells_block h.blk).1 1
  have c0 : w.cell? ⟨f.g, 0, none⟩ = some f.v := (cells_block hF.blk).1 0
  have e1 : (bstr t).size = t.length := size_bstr t
  have hle : ¬ ((fr : Int) < (t.length : Int)) := by omega
  have hng : d ≠ f.g := fun e => (h.ne_file hm).1 e.symm
  obtain ⟨i0, hi0, hz0, hz1, hz2⟩ := info_parts Try.infoU8
  have facts : ∀ w1 : World, w.grownBy w1 f.v.ownBlock → w1.cell? ⟨f.g, 0, none⟩ = some f.v ∧ w1.frozen? ⟨f.g, 0, none⟩ = false ∧ w1.cell? ⟨d, 0, none⟩ = some (.int .i64 (fr : Int)) ∧ w1.frozen? ⟨d, 0, none⟩ = false := fun w1 g1 => by
    have b1 := (g1.block f.g (h.lt (Or.inr (Or.inr ⟨f, hm, Or.inl rfl⟩))) (fun e => (h.ne_file hm).2.2 f hm e.symm)).trans hF.blk
    have b2 := (g1.block d (h.lt (Or.inl rfl)) (fun e => (h.ne_row hm).1 e.symm)).trans h.blk
    exact ⟨(cells_block b1).1 0, (cells_block b1).2 0, (cells_block b2).1 0, (cells_block b2).2 0⟩
  have fin := fun (v' : Value) (w1 : World) o1 g1 l1 => h.behind (w1 := w1) (v' := v') e ht o1 g1 l1
  have own0 := hF.own
  clear hF hm
  generalize hv : f.v = fv at *
  generalize hg : f.g = g at *
  generalize hnm : f.name = nm at *
  go_enter Try.func20, Try.ntmps20
  go_wp2_with fail
  refine hn.mono ?_
  rintro e w1 ⟨rfl, rfl⟩
  go_wp2_with fail
  refine hi.mono ?_
  rintro e w1 ⟨rfl, rfl⟩
  clear hn hi h
  go_wp2_with (at_builtin; refine wpList_app rfl _ _ 58 9 rfl 5 i0 Try.underlying58 Try.underlying9 hi0 hz0 hz1 hz2 _ f.bytes t rfl own0 rfl hb ?_; intro v' w1 own1 grow1 loc1; obtain ⟨q1, cap1, rfl⟩ := own_shape own1; obtain ⟨k1, k2, k3, k4⟩ := facts w1 grow1; replace fin := fin _ w1 own1 grow1 loc1; clear own1 grow1 loc1 facts own0 c0 d0)
  go_ret
  rw [List.length_append] at fin
  exact ⟨rfl, _, fin⟩

theorem CClone_any (l : List UInt8) (w : World) (hl : l.length ≤ 281474976710656) :
    Calls Try.prog 35 #[.string (bstr l)] w fun e w' => e = .returned (.string (bstr l)) ∧ Below w.heap.size w w' := by
  go_enter Try.func35, Try.ntmps35
  go_wp2_with fail
  refine (Try.stringslite_Clone (bstr l) _ (by rw [size_bstr]; exact hl)).mono ?_
  rintro e w' ⟨rfl, hb⟩
  go_wp2
  go_ret
  exact ⟨rfl, hb⟩

/-- A new file is put to the others. -/
theorem Dk.fresh {w w1 w2 : World} {d m fr N : Nat} {L : List Fl} (h : Dk w d m L fr N) (s : List UInt8) (e : lk s L = none) (hs : 0 < s.length ∧ s.length ≤ 64)
    (b1 : w1.heap[w.heap.size]? = some (.cells #[.slice none 0 0, .int .i64 0] 76 (0, 0))) (hb : Below w.heap.size w w1)
    (ht : w1.mapTurned w2 m) (hm : ∃ n D, n ≤ N + 1 ∧ w2.ownsMap Try.prog 9 ptrElem m n D ∧ Mp D (wth ⟨s, [], 0, w.heap.size, .slice none 0 0⟩ L)) :
    Stp w w2 d m L (wth ⟨s, [], 0, w.heap.size, .slice none 0 0⟩ L) fr (N + 1) := by
  have h1 := h.below hb
  refine ⟨h1.add ⟨s, [], 0, w.heap.size, .slice none 0 0⟩ e ⟨b1, World.ownsRow_nil _ _ _ _, Nat.le_refl _, hs⟩ (fun x hx => ⟨fun e => ?_, Or.inl rfl⟩) ht hm, (Kp.of_below _ hb).trans (Kp.of_grown (S := Ft d m L) ht.grown (Or.inr (Or.inl rfl))) (fun _ h => Or.inl h), fun i hi => ?_⟩
  · have := h.lt (Or.inr (Or.inr ⟨x, hx, Or.inl rfl⟩))
    simp only at e
    omega
  · rcases Ft.add h.srt hi with a | a | a
    · exact Or.inl a
    · exact Or.inr (by simp only at a; omega)
    · cases a

set_option maxHeartbeats 4000000 in
set_option maxRecDepth 100000 in
theorem Append_new {d m fr N : Nat} {L : List Fl} (s t : List UInt8) (w : World) (h : Dk w d m L fr N) (e : lk s L = none) (hs : okN s = true) (ht : t.length ≤ fr) (hb : t.length ≤ 140737488355328) (hfr : fr ≤ 9223372036854775807) (hN : N < maxLen) :
    Calls Try.prog 20 #[.pointer (some ⟨d, 0, none⟩), .string (bstr s), .string (bstr t)] w fun e w' => e = .returned (.int .i64 0) ∧ ∃ v', Stp w w' d m L (wth ⟨s, t, 0, w.heap.size, v'⟩ L) (fr - t.length) (N + 1) := by
  have hs2 : 0 < s.length ∧ s.length ≤ 64 := by simpa [okN] using hs
  have hn := none_any w h
  have hi := isName_any s w
  rw [hs] at hi
  have hlk := h.look (s := s) (by unfold maxLen; omega)
  rw [e] at hlk
  simp only [pv] at hlk
  have d0 : w.cell? ⟨d, 0, none⟩ = some (.int .i64 (fr : Int)) := (cells_block h.blk).1 0
  have d1 : w.cell? ⟨d, 1, none⟩ = some (.map (some m)) := (cells_block h.blk).1 1
  have e1 : (bstr t).size = t.length := size_bstr t
  have hle : ¬ ((fr : Int) < (t.length : Int)) := by omega
  obtain ⟨i0, hi0, hz0, hz1, hz2⟩ := info_parts Try.infoU8
  go_enter Try.func20, Try.ntmps20
  go_wp2_with fail
  refine hn.mono ?_
  rintro e w1 ⟨rfl, rfl⟩
  go_wp2_with fail
  refine hi.mono ?_
  rintro e w1 ⟨rfl, rfl⟩
  clear hn hi
  go_wp2_with fail
  have hB0 : Below w1.heap.size w1 (w1.alloc (.cells #[.slice none 0 0, .int .i64 0] 76)) := (Below.refl _ _).alloc (Nat.le_refl _) _
  have hb0 : (w1.alloc (.cells #[.slice none 0 0, .int .i64 0] 76)).heap[w1.heap.size]? = some (.cells #[.slice none 0 0, .int .i64 0] 76 (0, 0)) := heap_alloc_new w1 _
  generalize w1.alloc (.cells #[.slice none 0 0, .int .i64 0] 76) = W at *
  have hD := h.below hB0
  have dW : W.cell? ⟨d, 1, none⟩ = some (.map (some m)) := (cells_block hD.blk).1 1
  have hbz : w1.heap.size < W.heap.size := (Array.getElem?_eq_some_iff.1 hb0).1
  go_region_held3 (fun w' => w'.cell? ⟨d, 1, none⟩ = some (.map (some m))) (first | with_reducible exact dW | with_reducible exact dV | go_keep)
    ((go_at_call 35; refine (CClone_any s _ (by omega)).mono ?_; rintro e wf ⟨rfl, hbf⟩; have hDf : Dk wf d m L fr N := hD.drew.below hbf; clear dW; have dW : wf.cell? ⟨d, 1, none⟩ = some (.map (some m)) := (cells_block hDf.blk).1 1; have hBf : Below w1.heap.size w1 wf := b_step hB0.drew hbf (Nat.le_refl _); have hbF := (hbf.block _ hbz).trans hb0; clear hbf; obtain ⟨w2, hrun, ht2, hm2⟩ := hDf.stores ⟨s, [], 0, w1.heap.size, .slice none 0 0⟩ hN (by simp only [maxLen]; omega); simp only at hrun; have dV : w2.cell? ⟨d, 1, none⟩ = some (.map (some m)) := (World.cell?_of_block (ht2.grown.block d (hDf.lt (Or.inl rfl)) (fun e => hDf.ne (by cases e; rfl)))).trans dW))
  have hS := h.fresh s e hs2 hbF hBf ht2 hm2
  clear ht2 hm2 hDf hBf hbF hrun dV
  have hD2 := hS.dk
  have e0 : lk (Fl.name ⟨s, [], 0, w1.heap.size, .slice none 0 0⟩) (wth ⟨s, [], 0, w1.heap.size, .slice none 0 0⟩ L) = some ⟨s, [], 0, w1.heap.size, .slice none 0 0⟩ := lk_wth_same h.srt _
  obtain ⟨hm, _⟩ := lk_some e0
  have hF := hD2.fl _ hm
  clear d0 d1 hlk hD dW hB0 hb0 hbz
  have c0 : w2.cell? ⟨w1.heap.size, 0, none⟩ = some (.slice none 0 0) := (cells_block hF.blk).1 0
  have hng : d ≠ w1.heap.size := fun e => (hD2.ne_file hm).1 e.symm
  have facts : ∀ w3 : World, w2.grownBy w3 (Value.ownBlock (.slice none 0 0)) → w3.cell? ⟨w1.heap.size, 0, none⟩ = some (.slice none 0 0) ∧ w3.frozen? ⟨w1.heap.size, 0, none⟩ = false ∧ w3.cell? ⟨d, 0, none⟩ = some (.int .i64 (fr : Int)) ∧ w3.frozen? ⟨d, 0, none⟩ = false := fun w3 g1 => by
    have b1 := (g1.block w1.heap.size (hD2.lt (Or.inr (Or.inr ⟨_, hm, Or.inl rfl⟩))) (fun e => by cases e)).trans hF.blk
    have b2 := (g1.block d (hD2.lt (Or.inl rfl)) (fun e => by cases e)).trans hD2.blk
    exact ⟨(cells_block b1).1 0, (cells_block b1).2 0, (cells_block b2).1 0, (cells_block b2).2 0⟩
  have fin := fun (v' : Value) (w3 : World) o1 g1 l1 => hD2.behind (w1 := w3) (v' := v') e0 ht o1 g1 l1
  have own0 := hF.own
  clear hF hm e0 hD2
  generalize hg : w1.heap.size = g at *
  go_wp2_with (at_builtin; refine wpList_app rfl _ _ 58 9 rfl 5 i0 Try.underlying58 Try.underlying9 hi0 hz0 hz1 hz2 _ [] t rfl own0 rfl (by simpa using hb) ?_; intro v' w3 own1 grow1 loc1; obtain ⟨q1, cap1, rfl⟩ := own_shape own1; obtain ⟨k1, k2, k3, k4⟩ := facts w3 grow1; replace fin := fin _ w3 own1 grow1 loc1; clear own1 grow1 loc1 facts own0 c0)
  go_ret
  simp only [List.nil_append] at fin
  have fin2 := hS.trans fin
  rw [wth_wth (by rfl)] at fin2
  exact ⟨rfl, _, fin2⟩

end Go.Proofs.Ytbnenpfphbdmpaa
